/-
  A record, and a list of records, that came in: opened.
-/
import Derived.Test.YtedbihckdbpebaaRrPure
import Derived.Test.YtedbihckdbpebaaRows
import Derived.Deep.Slices
import Derived.ChangeSame
import Derived.WideShapes
import Derived.RowKit
import Derived.ProofKit
namespace Go.Proofs.Ytedbihckdbpebaa
open Go.ChangeShapes Go.WideShapes Go.ChangeAt Go.RowKit Go.Pin

theorem Try.rrSeven : ∃ f0 f1 f2 f3 f4 f5 f6 : Field, Try.prog.underlying 49 = some (.struct #[f0, f1, f2, f3, f4, f5, f6]) ∧ f0.type = 9 ∧ f1.type = 3 ∧ f2.type = 3 ∧ f3.type = 3 ∧ f4.type = 9 ∧ f5.type = 9 ∧ f6.type = 3 ∧ f0.offset = 0 ∧ f1.offset = 1 ∧ f2.offset = 2 ∧ f3.offset = 3 ∧ f4.offset = 4 ∧ f5.offset = 5 ∧ f6.offset = 6 :=
  ⟨_, _, _, _, _, _, _, Try.underlying49, rfl, rfl, rfl, rfl, rfl, rfl, rfl, rfl, rfl, rfl, rfl, rfl, rfl, rfl⟩
theorem Try.rrCells : Try.prog.cellsOf 49 = 7 := by kernel_rfl
theorem Try.oneS : Try.prog.cellsOf 9 = 1 := by kernel_rfl
theorem Try.oneI : Try.prog.cellsOf 3 = 1 := by kernel_rfl

/-- What the walk is told of a record that came in. -/
def IsRec (r : Rec) : Prop := r.n.size ≤ maxLen ∧ r.tg.size ≤ maxLen ∧ r.tx.size ≤ maxLen
def cellsR (r : Rec) : List Value := [.string r.n, .int .i64 r.ty, .int .i64 r.ttl, .int .i64 r.ad, .string r.tg, .string r.tx, .int .i64 r.se]
theorem trod_rec {H : Type} {enc : TypeId × Value → H} {W : World} {base : Nat} {spare : Nat → Bool} {held : Bool} {fuel : Nat} {cs : List Value} {x : DataW H × List MemPlace}
    (h : DataW.trod enc Try.prog W base spare held fuel 49 cs = some x) : ∃ r : Rec, cs = cellsR r ∧ IsRec r ∧ x.1 = .agg [.lit (.string (bs r.n)), .lit (.int .i64 r.ty), .lit (.int .i64 r.ttl), .lit (.int .i64 r.ad), .lit (.string (bs r.tg)), .lit (.string (bs r.tx)), .lit (.int .i64 r.se)] := by
  obtain ⟨f0, f1, f2, f3, f4, f5, f6, hs, t0, t1, t2, t3, t4, t5, t6, o0, o1, o2, o3, o4, o5, o6⟩ := Try.rrSeven
  obtain ⟨xs, n, _, hx, hl, hlen, hf⟩ := DataW.trod_struct hs h
  rw [Try.rrCells] at hl
  match cs, hl with
  | [c0, c1, c2, c3, c4, c5, c6], _ =>
    match xs, hlen with
    | [y0, y1, y2, y3, y4, y5, y6], _ =>
      have g0 := hf 0 f0 rfl
      have g1 := hf 1 f1 rfl
      have g2 := hf 2 f2 rfl
      have g3 := hf 3 f3 rfl
      have g4 := hf 4 f4 rfl
      have g5 := hf 5 f5 rfl
      have g6 := hf 6 f6 rfl
      simp only [t0, t1, t2, t3, t4, t5, t6, o0, o1, o2, o3, o4, o5, o6, Try.oneS, Try.oneI] at g0 g1 g2 g3 g4 g5 g6
      simp at g0 g1 g2 g3 g4 g5 g6
      obtain ⟨s0, e0, r0, z0⟩ := DataW.trod_string Try.underlying9 g0
      obtain ⟨s1, e1, r1, _⟩ := DataW.trod_int Try.underlying3 g1
      obtain ⟨s2, e2, r2, _⟩ := DataW.trod_int Try.underlying3 g2
      obtain ⟨s3, e3, r3, _⟩ := DataW.trod_int Try.underlying3 g3
      obtain ⟨s4, e4, r4, z4⟩ := DataW.trod_string Try.underlying9 g4
      obtain ⟨s5, e5, r5, z5⟩ := DataW.trod_string Try.underlying9 g5
      obtain ⟨s6, e6, r6, _⟩ := DataW.trod_int Try.underlying3 g6
      simp only [List.cons.injEq, and_true] at e0 e1 e2 e3 e4 e5 e6
      refine ⟨⟨s0, s1, s2, s3, s4, s5, s6⟩, ?_, ⟨z0, z4, z5⟩, ?_⟩
      · simp [cellsR, e0, e1, e2, e3, e4, e5, e6]
      · rw [hx]; simp [r0, r1, r2, r3, r4, r5, r6, bs]
theorem open_rec {H : Type} {enc : TypeId × Value → H} {W : World} {base base0 : Nat} {spare : Nat → Bool} {held : Bool} {v : Value} {d : DataW H} {ps : List MemPlace}
    (hv : Value.okWide Try.prog W .any base0 49 v) (h : DataW.Trod enc Try.prog W base spare held 49 v d ps) : ∃ r : Rec, v = rv r ∧ IsRec r ∧ d = .agg [.lit (.string (bs r.n)), .lit (.int .i64 r.ty), .lit (.int .i64 r.ttl), .lit (.int .i64 r.ad), .lit (.string (bs r.tg)), .lit (.string (bs r.tx)), .lit (.int .i64 r.se)] := by
  obtain ⟨f0, f1, f2, f3, f4, f5, f6, hs, _⟩ := Try.rrSeven
  obtain ⟨cs, rfl, hc⟩ := okWide_struct hs hv
  obtain ⟨fuel, hf⟩ := h
  obtain ⟨r, h1, h2, h3⟩ := trod_rec hf
  refine ⟨r, ?_, h2, h3⟩
  have : cs.toList = cellsR r := by simpa [Value.cells] using h1
  have e : cs = (cellsR r).toArray := by rw [← this]
  rw [e]; rfl
/-- What the walk is told of a list of records that came in: it is nil; or its first 'len' elements are the records R. -/
def IsRecs (w : World) (a : Option Addr) (len : Nat) (R : Nat → Rec) : Prop := (a = none ∧ len = 0) ∨ ∃ x, a = some x ∧ len ≤ maxLen ∧ ∀ i, i < len → IsRec (R i) ∧ ∀ j, j < 7 → w.cell? (x.add (i * 7 + j)) = (cellsR (R i))[j]?
theorem open_recs {H : Type} {enc : TypeId × Value → H} {W : World} {base : Nat} {spare : Nat → Bool} {held : Bool} {a : Option Addr} {len cap : Nat} {d : DataW H} {ps : List MemPlace}
    (h : DataW.Trod enc Try.prog W base spare held 24 (.slice a len cap) d ps) : ∃ R, IsRecs W a len R := by
  obtain ⟨fuel, hf⟩ := h
  rcases Go.Deep.open_slice Try.underlying24 hf with ⟨hcs, _⟩ | ⟨x, l, c, m, n, D, Pl, hcs, _, hl, hm, hmm, _, hcell⟩
  · simp [Value.cells] at hcs
    obtain ⟨rfl, rfl, rfl⟩ := hcs
    exact ⟨fun _ => zeroR, .inl ⟨rfl, rfl⟩⟩
  · simp [Value.cells] at hcs
    obtain ⟨rfl, rfl, rfl⟩ := hcs
    have hlm : len ≤ m := by rw [hmm]; split <;> omega
    have each : ∀ i, i < len → ∃ r : Rec, IsRec r ∧ ∀ j, j < 7 → W.cell? (x.add (i * 7 + j)) = (cellsR r)[j]? := by
      intro i hi
      obtain ⟨cs', h1, h2⟩ := hcell i (by omega)
      obtain ⟨r, e1, e2, _⟩ := trod_rec h2
      refine ⟨r, e2, fun j hj => ?_⟩
      rw [Try.rrCells] at h1
      obtain ⟨_, hlen, hc⟩ := World.cells?_some h1
      have := hc j hj
      rw [Go.Deep.add_add] at this
      rw [this, e1]
    haveI : Inhabited Rec := ⟨zeroR⟩
    obtain ⟨R, hR⟩ := Go.Deep.choose_lt each
    exact ⟨R, .inr ⟨x, rfl, Nat.le_trans hl hm, hR⟩⟩

end Go.Proofs.Ytedbihckdbpebaa
