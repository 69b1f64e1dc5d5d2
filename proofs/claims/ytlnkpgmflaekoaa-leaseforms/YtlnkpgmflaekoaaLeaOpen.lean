/-
  A lease that came in: opened.
-/
import Derived.Test.YtlnkpgmflaekoaaLeaPure
import Derived.Test.YtlnkpgmflaekoaaRows
import Derived.ChangeSame
import Derived.ChangeArms
import Derived.WideShapes
import Derived.SizedLaws
import Derived.RowKit
import Derived.ProofKit
namespace Go.Proofs.Ytlnkpgmflaekoaa
open Go.ChangeShapes Go.WideShapes Go.ChangeAt Go.RowKit Go.Pin

theorem Try.leaSix : ∃ f0 f1 f2 f3 f4 f5 : Field, Try.prog.underlying 23 = some (.struct #[f0, f1, f2, f3, f4, f5]) ∧
    (f0.type = 3 ∧ f1.type = 3 ∧ f2.type = 9 ∧ f3.type = 3 ∧ f4.type = 9 ∧ f5.type = 4) ∧
    f0.offset = 0 ∧ f1.offset = 1 ∧ f2.offset = 2 ∧ f3.offset = 3 ∧ f4.offset = 4 ∧ f5.offset = 5 :=
  ⟨_, _, _, _, _, _, Try.underlying23, ⟨rfl, rfl, rfl, rfl, rfl, rfl⟩, rfl, rfl, rfl, rfl, rfl, rfl⟩
theorem Try.leaCells : Try.prog.cellsOf 23 = 6 := by kernel_rfl
theorem Try.leaI : Try.prog.cellsOf 3 = 1 := by kernel_rfl
theorem Try.leaS : Try.prog.cellsOf 9 = 1 := by kernel_rfl
theorem Try.leaB : Try.prog.cellsOf 4 = 1 := by kernel_rfl

/-- What the walk is told of a lease that came in. -/
structure IsLea (l : Lea) : Prop where
  c : l.c.size ≤ maxLen
  n : l.n.size ≤ maxLen
  h : (Lit.int .i64 l.h).wf = true
  st : (Lit.int .i64 l.st).wf = true
  u : (Lit.int .i64 l.u).wf = true
theorem trod_lea {H : Type} {enc : TypeId × Value → H} {W : World} {base : Nat} {spare : Nat → Bool} {held : Bool} {fuel : Nat} {cs : List Value} {x : DataW H × List MemPlace}
    (h : DataW.trod enc Try.prog W base spare held fuel 23 cs = some x) : ∃ l : Lea, cs = cellsLea l ∧ IsLea l ∧ x.1 = .agg [.lit (.int .i64 l.h), .lit (.int .i64 l.st), .lit (.string (bs l.c)), .lit (.int .i64 l.u), .lit (.string (bs l.n)), .lit (.bool l.won)] := by
  obtain ⟨f0, f1, f2, f3, f4, f5, hs, ⟨t0, t1, t2, t3, t4, t5⟩, o0, o1, o2, o3, o4, o5⟩ := Try.leaSix
  obtain ⟨xs, n, _, hx, hl, hlen, hf⟩ := DataW.trod_struct hs h
  rw [Try.leaCells] at hl
  match cs, hl with
  | [c0, c1, c2, c3, c4, c5], _ =>
    match xs, hlen with
    | [y0, y1, y2, y3, y4, y5], _ =>
      have g0 := hf 0 f0 rfl
      have g1 := hf 1 f1 rfl
      have g2 := hf 2 f2 rfl
      have g3 := hf 3 f3 rfl
      have g4 := hf 4 f4 rfl
      have g5 := hf 5 f5 rfl
      simp only [t0, t1, t2, t3, t4, t5, o0, o1, o2, o3, o4, o5, Try.leaS, Try.leaI, Try.leaB] at g0 g1 g2 g3 g4 g5
      simp at g0 g1 g2 g3 g4 g5
      obtain ⟨s0, e0, r0, z0⟩ := DataW.trod_int Try.underlying3 g0
      obtain ⟨s1, e1, r1, z1⟩ := DataW.trod_int Try.underlying3 g1
      obtain ⟨s2, e2, r2, z2⟩ := DataW.trod_string Try.underlying9 g2
      obtain ⟨s3, e3, r3, z3⟩ := DataW.trod_int Try.underlying3 g3
      obtain ⟨s4, e4, r4, z4⟩ := DataW.trod_string Try.underlying9 g4
      obtain ⟨s5, e5, r5⟩ := DataW.trod_bool Try.underlying4 g5
      simp only [List.cons.injEq, and_true] at e0 e1 e2 e3 e4 e5
      refine ⟨⟨s0, s1, s2, s3, s4, s5⟩, ?_, ⟨z2, z4, z0, z1, z3⟩, ?_⟩
      · simp [cellsLea, e0, e1, e2, e3, e4, e5]
      · rw [hx]; simp [r0, r1, r2, r3, r4, r5, bs]
theorem open_lea {H : Type} {enc : TypeId × Value → H} {W : World} {base base0 : Nat} {spare : Nat → Bool} {held : Bool} {v : Value} {d : DataW H} {ps : List MemPlace}
    (hv : Value.okWide Try.prog W .any base0 23 v) (h : DataW.Trod enc Try.prog W base spare held 23 v d ps) : ∃ l : Lea, v = lv l ∧ IsLea l ∧ d = .agg [.lit (.int .i64 l.h), .lit (.int .i64 l.st), .lit (.string (bs l.c)), .lit (.int .i64 l.u), .lit (.string (bs l.n)), .lit (.bool l.won)] := by
  obtain ⟨f0, f1, f2, f3, f4, f5, hs, _⟩ := Try.leaSix
  obtain ⟨cs, rfl, hc⟩ := okWide_struct hs hv
  obtain ⟨fuel, hf⟩ := h
  obtain ⟨l, h1, h2, h3⟩ := trod_lea hf
  refine ⟨l, ?_, h2, h3⟩
  have : cs.toList = cellsLea l := by simpa [Value.cells] using h1
  have e : cs = (cellsLea l).toArray := by rw [← this]
  rw [e]; rfl

end Go.Proofs.Ytlnkpgmflaekoaa
