/-
  A packet that came in: opened.
-/
import Derived.Test.YtkohojifnmklmaaOptOpen
import Derived.Test.YtkohojifnmklmaaPackMay
import Derived.ChangeArms
namespace Go.Proofs.Ytkohojifnmklmaa
open Go.ChangeShapes Go.WideShapes Go.ChangeAt Go.RowKit Go.Pin Go.PlainAid

theorem Try.pkTwelve : ∃ f0 f1 f2 f3 f4 f5 f6 f7 f8 f9 f10 f11 : Field, Try.prog.underlying 24 = some (.struct #[f0, f1, f2, f3, f4, f5, f6, f7, f8, f9, f10, f11]) ∧
    (f0.type = 3 ∧ f1.type = 3 ∧ f2.type = 3 ∧ f3.type = 3 ∧ f4.type = 3 ∧ f5.type = 3 ∧ f6.type = 3 ∧ f7.type = 3 ∧ f8.type = 3 ∧ f9.type = 3 ∧ f10.type = 9 ∧ f11.type = 22) ∧
    f0.offset = 0 ∧ f1.offset = 1 ∧ f2.offset = 2 ∧ f3.offset = 3 ∧ f4.offset = 4 ∧ f5.offset = 5 ∧ f6.offset = 6 ∧ f7.offset = 7 ∧ f8.offset = 8 ∧ f9.offset = 9 ∧ f10.offset = 10 ∧ f11.offset = 11 :=
  ⟨_, _, _, _, _, _, _, _, _, _, _, _, Try.underlying24, ⟨rfl, rfl, rfl, rfl, rfl, rfl, rfl, rfl, rfl, rfl, rfl, rfl⟩, rfl, rfl, rfl, rfl, rfl, rfl, rfl, rfl, rfl, rfl, rfl, rfl⟩
theorem Try.pkCells : Try.prog.cellsOf 24 = 12 := by kernel_rfl
theorem Try.pkI : Try.prog.cellsOf 3 = 1 := by kernel_rfl
theorem Try.pkS : Try.prog.cellsOf 9 = 1 := by kernel_rfl
theorem Try.pkO : Try.prog.cellsOf 22 = 1 := by kernel_rfl
/-- A list of options in a field. -/
theorem open_olist {H : Type} {enc : TypeId × Value → H} {W : World} {base : Nat} {spare : Nat → Bool} {held : Bool} {fuel : Nat} {cs : List Value} {x : DataW H × List MemPlace}
    (h : DataW.trod enc Try.prog W base spare held fuel 22 cs = some x) : ∃ (a : Option Addr) (os : List Opn) (cap : Nat), cs = [.slice a os.length cap] ∧ OpLies W a os ∧ (∀ o ∈ os, o.2.length ≤ maxLen) ∧ ((∀ n ∈ x.1.weights Try.prog 22, n ≤ reachBytes) → os.length * 24 ≤ 140737488351232) := by
  rcases Go.Deep.open_slice_pairs Try.underlying22 Try.underlying39 (by kernel_rfl) rfl rfl (by kernel_rfl) (by kernel_rfl) h with ⟨hcs, _⟩ | ⟨y, l, c, m, n, V0, V1, D0, D1, P0, P1, hcs, _, hl, hm, hmm, hx, hcell⟩
  · exact ⟨none, [], 0, hcs, .inl rfl, by simp, by simp⟩
  · have hlm : l ≤ m := by rw [hmm]; split <;> omega
    have each : ∀ i, i < l → ∃ q : Int × ByteArray, V0 i = .int .i64 q.1 ∧ V1 i = .string q.2 ∧ q.2.size ≤ maxLen := by
      intro i hi
      obtain ⟨_, _, h1, h2⟩ := hcell i (by omega)
      obtain ⟨s, e1, _, hs⟩ := DataW.trod_string Try.underlying9 h2
      obtain ⟨z, e3, _, _⟩ := DataW.trod_int Try.underlying3 h1
      exact ⟨(z, s), by simpa using e3, by simpa using e1, hs⟩
    obtain ⟨q, hq⟩ := Go.Deep.choose_lt each
    refine ⟨some y, (List.range l).map fun i => ((q i).1, bs (q i).2), c, by simpa using hcs, .inr ⟨y, rfl, fun j hj => ?_⟩, ?_, fun hw => ?_⟩
    · simp only [List.length_map, List.length_range] at hj
      obtain ⟨h1, h2, _⟩ := hcell j (by omega)
      obtain ⟨e1, e2, _⟩ := hq j hj
      have e : opAt ((List.range l).map fun i => ((q i).1, bs (q i).2)) j = ((q j).1, bs (q j).2) := by
        unfold opAt
        rw [List.getD_eq_getElem?_getD, List.getElem?_map, List.getElem?_range hj]; rfl
      rw [e]
      refine ⟨by rw [h1, e1], ?_⟩
      rw [e2] at h2
      simp only [mk_bs]
      rw [← h2]
      congr 1
      unfold Addr.add
      rw [if_neg (by omega : ¬ (j * 2 + 1 = 0))]
      by_cases hz : j * 2 = 0
      · rw [if_pos hz]; simp
      · rw [if_neg hz]; simp only [Addr.mk.injEq, and_true, true_and]; omega
    · intro o ho
      simp only [List.mem_map, List.mem_range] at ho
      obtain ⟨i, hi, rfl⟩ := ho
      simp only [length_bs]
      exact (hq i hi).2.2
    · have := hw (((List.range l).map fun i => DataW.agg [D0 i, D1 i]).length * Try.prog.bytesOf 39 + ((List.range (m - l)).map fun j => DataW.agg [D0 (l + j), D1 (l + j)]).length * Try.prog.bytesOf 39) (by
        rw [hx]
        simp [DataW.weights, Try.underlying22, Nat.add_mul])
      rw [Try.bytesOp] at this
      simp only [List.length_map, List.length_range] at this ⊢
      unfold reachBytes at this
      omega
set_option maxRecDepth 100000 in
theorem open_pk {H : Type} {enc : TypeId × Value → H} {W : World} {base base0 : Nat} {spare : Nat → Bool} {held : Bool} {v : Value} {d : DataW H} {ps : List MemPlace}
    (hv : Value.okWide Try.prog W .any base0 24 v) (h : DataW.Trod enc Try.prog W base spare held 24 v d ps) : ∃ (p : Pk) (a : Option Addr) (c : Nat), v = pv p a c ∧ OpLies W a p.os ∧ p.ch.size ≤ maxLen ∧ (∀ o ∈ p.os, o.2.length ≤ maxLen) ∧ ((∀ n ∈ d.weights Try.prog 24, n ≤ reachBytes) → p.os.length * 24 ≤ 140737488351232) := by
  obtain ⟨f0, f1, f2, f3, f4, f5, f6, f7, f8, f9, f10, f11, hs, ⟨t0, t1, t2, t3, t4, t5, t6, t7, t8, t9, t10, t11⟩, o0, o1, o2, o3, o4, o5, o6, o7, o8, o9, o10, o11⟩ := Try.pkTwelve
  obtain ⟨cs, rfl, hc⟩ := okWide_struct hs hv
  obtain ⟨fuel, hf⟩ := h
  obtain ⟨xs, n, _, hx, hl, hlen, hf⟩ := DataW.trod_struct hs hf
  rw [Try.pkCells] at hl
  obtain ⟨cs⟩ := cs
  simp only [Value.cells] at hl hf
  match cs, hl with
  | [c0, c1, c2, c3, c4, c5, c6, c7, c8, c9, c10, c11], _ =>
    match xs, hlen with
    | [y0, y1, y2, y3, y4, y5, y6, y7, y8, y9, y10, y11], _ =>
      have g0 := hf 0 f0 rfl
      have g1 := hf 1 f1 rfl
      have g2 := hf 2 f2 rfl
      have g3 := hf 3 f3 rfl
      have g4 := hf 4 f4 rfl
      have g5 := hf 5 f5 rfl
      have g6 := hf 6 f6 rfl
      have g7 := hf 7 f7 rfl
      have g8 := hf 8 f8 rfl
      have g9 := hf 9 f9 rfl
      have g10 := hf 10 f10 rfl
      have g11 := hf 11 f11 rfl
      simp only [t0, t1, t2, t3, t4, t5, t6, t7, t8, t9, t10, t11, o0, o1, o2, o3, o4, o5, o6, o7, o8, o9, o10, o11, Try.pkI, Try.pkS, Try.pkO] at g0 g1 g2 g3 g4 g5 g6 g7 g8 g9 g10 g11
      simp at g0 g1 g2 g3 g4 g5 g6 g7 g8 g9 g10 g11
      obtain ⟨s0, e0, _, _⟩ := DataW.trod_int Try.underlying3 g0
      obtain ⟨s1, e1, _, _⟩ := DataW.trod_int Try.underlying3 g1
      obtain ⟨s2, e2, _, _⟩ := DataW.trod_int Try.underlying3 g2
      obtain ⟨s3, e3, _, _⟩ := DataW.trod_int Try.underlying3 g3
      obtain ⟨s4, e4, _, _⟩ := DataW.trod_int Try.underlying3 g4
      obtain ⟨s5, e5, _, _⟩ := DataW.trod_int Try.underlying3 g5
      obtain ⟨s6, e6, _, _⟩ := DataW.trod_int Try.underlying3 g6
      obtain ⟨s7, e7, _, _⟩ := DataW.trod_int Try.underlying3 g7
      obtain ⟨s8, e8, _, _⟩ := DataW.trod_int Try.underlying3 g8
      obtain ⟨s9, e9, _, _⟩ := DataW.trod_int Try.underlying3 g9
      obtain ⟨s10, e10, _, z10⟩ := DataW.trod_string Try.underlying9 g10
      obtain ⟨a, os, c, e11, l1, l2, l3⟩ := open_olist g11
      simp only [List.cons.injEq, and_true] at e0 e1 e2 e3 e4 e5 e6 e7 e8 e9 e10 e11
      have hd : d = .agg [y0.1, y1.1, y2.1, y3.1, y4.1, y5.1, y6.1, y7.1, y8.1, y9.1, y10.1, y11.1] := by
        have := congrArg Prod.fst hx
        simpa using this
      refine ⟨⟨s0, s1, s2, s3, s4, s5, s6, s7, s8, s9, s10, os⟩, a, c, ?_, l1, z10, l2, fun hw => l3 fun n hn => hw n ?_⟩
      · simp [pv, cellsP, e0, e1, e2, e3, e4, e5, e6, e7, e8, e9, e10, e11]
      · rw [hd]
        simp only [DataW.weights, hs]
        exact DataW.weights_mem_each (j := 11) (t := 22) (d := y11.1) (by simp [t11]) rfl n hn
end Go.Proofs.Ytkohojifnmklmaa
