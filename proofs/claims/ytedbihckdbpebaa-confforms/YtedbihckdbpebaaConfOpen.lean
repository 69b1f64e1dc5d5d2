/-
  A configuration that came in: opened.
-/
import Derived.Test.YtedbihckdbpebaaRecOpen
import Derived.Test.YtedbihckdbpebaaConfMem
import Derived.Deep.SlicePairs
import Derived.Deep.Slices
import Derived.ChangeArms
import Derived.SizedLaws
namespace Go.Proofs.Ytedbihckdbpebaa
open Go.ChangeShapes Go.WideShapes Go.ChangeAt Go.RowKit Go.Pin Go.PlainAid

theorem Try.cfSeven : ∃ f0 f1 f2 f3 f4 f5 f6 : Field, Try.prog.underlying 26 = some (.struct #[f0, f1, f2, f3, f4, f5, f6]) ∧
    (f0.type = 3 ∧ f1.type = 3 ∧ f2.type = 22 ∧ f3.type = 23 ∧ f4.type = 3 ∧ f5.type = 9 ∧ f6.type = 24) ∧
    f0.offset = 0 ∧ f1.offset = 1 ∧ f2.offset = 2 ∧ f3.offset = 3 ∧ f4.offset = 4 ∧ f5.offset = 5 ∧ f6.offset = 6 :=
  ⟨_, _, _, _, _, _, _, Try.underlying26, ⟨rfl, rfl, rfl, rfl, rfl, rfl, rfl⟩, rfl, rfl, rfl, rfl, rfl, rfl, rfl⟩
theorem Try.cfCells : Try.prog.cellsOf 26 = 7 := by kernel_rfl
theorem Try.cfI : Try.prog.cellsOf 3 = 1 := by kernel_rfl
theorem Try.cfS : Try.prog.cellsOf 9 = 1 := by kernel_rfl
theorem Try.cfE : Try.prog.cellsOf 22 = 1 := by kernel_rfl
theorem Try.cfR : Try.prog.cellsOf 23 = 1 := by kernel_rfl
theorem Try.cfT : Try.prog.cellsOf 24 = 1 := by kernel_rfl
theorem Try.bytesInt : Try.prog.bytesOf 3 = 8 := by kernel_rfl
theorem Try.bytesRsv : Try.prog.bytesOf 47 = 24 := by kernel_rfl

/-- A list of numbers in a field. -/
theorem open_nlist {H : Type} {enc : TypeId × Value → H} {W : World} {base : Nat} {spare : Nat → Bool} {held : Bool} {fuel : Nat} {cs : List Value} {x : DataW H × List MemPlace}
    (h : DataW.trod enc Try.prog W base spare held fuel 22 cs = some x) : ∃ (a : Option Addr) (xs : List Int) (cap : Nat), cs = [.slice a xs.length cap] ∧ NumsLie W a xs ∧ (∀ n ∈ xs, (Lit.int .i64 n).wf = true) ∧ xs.length ≤ maxLen ∧ xs.length ≤ Rows.uptoBulk x.1 ∧ ((∀ n ∈ x.1.weights Try.prog 22, n ≤ reachBytes) → xs.length * 8 ≤ 140737488351232) := by
  rcases Go.Deep.open_slice Try.underlying22 h with ⟨hcs, _⟩ | ⟨a, l, c, m, n, D, Pl, hcs, _, hl, hm, hmm, hx, hcell⟩
  · exact ⟨none, [], 0, hcs, .inl rfl, by simp, by simp, by simp, by simp⟩
  · have hlm : l ≤ m := by rw [hmm]; split <;> omega
    have each : ∀ i, i < l → ∃ z : Int, W.cell? (a.add i) = some (.int .i64 z) ∧ (Lit.int .i64 z).wf = true := by
      intro i hi
      obtain ⟨cs', h1, h2⟩ := hcell i (by omega)
      rw [Try.cfI] at h1
      obtain ⟨_, hlen, hc⟩ := World.cells?_some h1
      obtain ⟨z, e3, _, hz⟩ := DataW.trod_int Try.underlying3 h2
      have := hc 0 (by omega)
      rw [Go.Deep.add_add, Nat.mul_one, Nat.add_zero, e3] at this
      exact ⟨z, by simpa using this, hz⟩
    obtain ⟨q, hq⟩ := Go.Deep.choose_lt each
    refine ⟨some a, (List.range l).map q, c, by simpa using hcs, .inr ⟨a, rfl, fun j r hj => ?_⟩, fun r hr => ?_, by simp; omega, ?_, fun hw => ?_⟩
    · have hjl : j < l := by have := (List.getElem?_eq_some_iff.1 hj).1; simpa using this
      simp [List.getElem?_map, List.getElem?_range hjl] at hj
      subst hj
      exact (hq j hjl).1
    · obtain ⟨i, hi, rfl⟩ := by simpa using hr
      exact (hq i hi).2
    · rw [hx]
      have := bulk_len ((List.range l).map D)
      simp only [Rows.uptoBulk, List.length_map, List.length_range] at this ⊢
      omega
    · have := hw (((List.range l).map D).length * Try.prog.bytesOf 3 + ((List.range (m - l)).map fun j => D (l + j)).length * Try.prog.bytesOf 3) (by
        rw [hx]
        simp [DataW.weights, Try.underlying22, Nat.add_mul])
      rw [Try.bytesInt] at this
      simp only [List.length_map, List.length_range] at this ⊢
      unfold reachBytes at this
      omega
/-- A list of reservations in a field. -/
theorem open_vlist {H : Type} {enc : TypeId × Value → H} {W : World} {base : Nat} {spare : Nat → Bool} {held : Bool} {fuel : Nat} {cs : List Value} {x : DataW H × List MemPlace}
    (h : DataW.trod enc Try.prog W base spare held fuel 23 cs = some x) : ∃ (a : Option Addr) (rs : List Rsv) (cap : Nat), cs = [.slice a rs.length cap] ∧ RsvsLie W a rs ∧ (∀ r ∈ rs, r.c.size ≤ maxLen) ∧ rs.length ≤ maxLen ∧ rs.length ≤ Rows.uptoBulk x.1 ∧ (∀ r ∈ rs, r.c.size ≤ Rows.uptoBulk x.1) ∧ ((∀ n ∈ x.1.weights Try.prog 23, n ≤ reachBytes) → rs.length * 24 ≤ 140737488351232) := by
  rcases Go.Deep.open_slice_pairs Try.underlying23 Try.underlying47 (by kernel_rfl) rfl rfl (by kernel_rfl) (by kernel_rfl) h with ⟨hcs, _⟩ | ⟨y, l, c, m, n, V0, V1, D0, D1, P0, P1, hcs, _, hl, hm, hmm, hx, hcell⟩
  · exact ⟨none, [], 0, hcs, .inl rfl, by simp, by simp, by simp, by simp, by simp⟩
  · have hlm : l ≤ m := by rw [hmm]; split <;> omega
    have each : ∀ i, i < l → ∃ q : Rsv, V0 i = .string q.c ∧ V1 i = .int .i64 q.h ∧ q.c.size ≤ maxLen ∧ D0 i = .lit (.string q.c.data.toList) := by
      intro i hi
      obtain ⟨_, _, h1, h2⟩ := hcell i (by omega)
      obtain ⟨s, e1, e2, hs⟩ := DataW.trod_string Try.underlying9 h1
      obtain ⟨z, e3, _, _⟩ := DataW.trod_int Try.underlying3 h2
      exact ⟨⟨s, z⟩, by simpa using e1, by simpa using e3, hs, by have := congrArg Prod.fst e2; simpa using this⟩
    haveI : Inhabited Rsv := ⟨zeroV⟩
    obtain ⟨q, hq⟩ := Go.Deep.choose_lt each
    have hmem : ∀ r, r ∈ (List.range l).map q → ∃ i, i < l ∧ q i = r := fun r hr => by simpa using hr
    refine ⟨some y, (List.range l).map q, c, by simpa using hcs, .inr ⟨y, rfl, fun j r hj => ?_⟩, fun r hr => ?_, by simp; omega, ?_, fun r hr => ?_, fun hw => ?_⟩
    · have hjl : j < l := by have := (List.getElem?_eq_some_iff.1 hj).1; simpa using this
      simp [List.getElem?_map, List.getElem?_range hjl] at hj
      subst hj
      obtain ⟨h1, h2, _⟩ := hcell j (by omega)
      obtain ⟨e1, e2, _⟩ := hq j hjl
      refine ⟨by rw [h1, e1], ?_⟩
      rw [e2] at h2
      rw [← h2]
      congr 1
      unfold Addr.add
      rw [if_neg (by omega : ¬ (j * 2 + 1 = 0))]
      by_cases hz : j * 2 = 0
      · rw [if_pos hz]; simp
      · rw [if_neg hz]; simp only [Addr.mk.injEq, and_true, true_and]; omega
    · obtain ⟨i, hi, rfl⟩ := hmem r hr
      exact (hq i hi).2.2.1
    · rw [hx]
      have := bulk_len ((List.range l).map fun i => DataW.agg [D0 i, D1 i])
      simp only [Rows.uptoBulk, List.length_map, List.length_range] at this ⊢
      omega
    · obtain ⟨i, hi, rfl⟩ := hmem r hr
      have h1 := bulk_mem (d := DataW.agg [D0 i, D1 i]) (ds := (List.range l).map fun i => DataW.agg [D0 i, D1 i]) (by simp; exact ⟨i, hi, rfl, rfl⟩)
      have h2 : (q i).c.size ≤ Rows.uptoBulk (DataW.agg [D0 i, D1 i]) := by
        rw [(hq i hi).2.2.2]
        have q1 : (q i).c.data.toList.length = (q i).c.size := Array.length_toList
        simp only [Rows.uptoBulk, Rows.uptoBulkAll]
        omega
      rw [hx]
      simp only [Rows.uptoBulk]
      omega
    · have := hw (((List.range l).map fun i => DataW.agg [D0 i, D1 i]).length * Try.prog.bytesOf 47 + ((List.range (m - l)).map fun j => DataW.agg [D0 (l + j), D1 (l + j)]).length * Try.prog.bytesOf 47) (by
        rw [hx]
        simp [DataW.weights, Try.underlying23, Nat.add_mul])
      rw [Try.bytesRsv] at this
      simp only [List.length_map, List.length_range] at this ⊢
      unfold reachBytes at this
      omega
/-- Lists that a machine can hold. -/
def CfReach (c : Cf) : Prop := c.ex.length * 8 ≤ 140737488351232 ∧ c.rs.length * 24 ≤ 140737488351232 ∧ c.st.length * 80 ≤ 140737488351232
/-- A configuration of bulk at most n. -/
structure CfBulk (c : Cf) (n : Nat) : Prop where
  z : c.zo.size ≤ n
  e : c.ex.length ≤ n
  r : c.rs.length ≤ n
  s : c.st.length ≤ n
  k : ∀ r ∈ c.rs, r.c.size ≤ n
  t : ∀ r ∈ c.st, r.n.size + r.tg.size + r.tx.size ≤ n
theorem CfBulk.mono {c : Cf} {n m : Nat} (h : CfBulk c n) (hm : n ≤ m) : CfBulk c m := ⟨Nat.le_trans h.z hm, Nat.le_trans h.e hm, Nat.le_trans h.r hm, Nat.le_trans h.s hm, fun r hr => Nat.le_trans (h.k r hr) hm, fun r hr => Nat.le_trans (h.t r hr) hm⟩
set_option maxRecDepth 100000 in
theorem open_cf {H : Type} {enc : TypeId × Value → H} {W : World} {base base0 : Nat} {spare : Nat → Bool} {held : Bool} {v : Value} {d : DataW H} {ps : List MemPlace}
    (hv : Value.okWide Try.prog W .any base0 26 v) (h : DataW.Trod enc Try.prog W base spare held 26 v d ps) : ∃ (c : Cf) (p : CPl), v = cv c p ∧ CfLies W c p ∧ CfFits c ∧ ((∀ n ∈ d.weights Try.prog 26, n ≤ reachBytes) → CfReach c) ∧ CfBulk c (Rows.uptoBulk d) := by
  obtain ⟨f0, f1, f2, f3, f4, f5, f6, hs, ⟨t0, t1, t2, t3, t4, t5, t6⟩, o0, o1, o2, o3, o4, o5, o6⟩ := Try.cfSeven
  obtain ⟨cs, rfl, hc⟩ := okWide_struct hs hv
  obtain ⟨fuel, hf⟩ := h
  obtain ⟨xs, n, _, hx, hl, hlen, hf⟩ := DataW.trod_struct hs hf
  rw [Try.cfCells] at hl
  obtain ⟨cs⟩ := cs
  simp only [Value.cells] at hl hf
  match cs, hl with
  | [c0, c1, c2, c3, c4, c5, c6], _ =>
    match xs, hlen with
    | [y0, y1, y2, y3, y4, y5, y6], _ =>
      have g0 := hf 0 f0 rfl
      have g1 := hf 1 f1 rfl
      have g2 := hf 2 f2 rfl
      have g3 := hf 3 f3 rfl
      have g4 := hf 4 f4 rfl
      have g5 := hf 5 f5 rfl
      have g6 := hf 6 f6 rfl
      simp only [t0, t1, t2, t3, t4, t5, t6, o0, o1, o2, o3, o4, o5, o6, Try.cfI, Try.cfS, Try.cfE, Try.cfR, Try.cfT] at g0 g1 g2 g3 g4 g5 g6
      simp at g0 g1 g2 g3 g4 g5 g6
      obtain ⟨s0, e0, _, _⟩ := DataW.trod_int Try.underlying3 g0
      obtain ⟨s1, e1, _, _⟩ := DataW.trod_int Try.underlying3 g1
      obtain ⟨ea, ex, ec, e2, l2, _, m2, b2, r2⟩ := open_nlist g2
      obtain ⟨ra, rs, rc, e3, l3, z3, m3, b3, k3, r3⟩ := open_vlist g3
      obtain ⟨s4, e4, _, _⟩ := DataW.trod_int Try.underlying3 g4
      obtain ⟨s5, e5, q5, z5⟩ := DataW.trod_string Try.underlying9 g5
      obtain ⟨sa, st, sc, e6, l6, z6, m6, b6, k6, r6⟩ := open_rlistW g6
      simp only [List.cons.injEq, and_true] at e0 e1 e2 e3 e4 e5 e6
      have hd : d = .agg [y0.1, y1.1, y2.1, y3.1, y4.1, y5.1, y6.1] := by
        have := congrArg Prod.fst hx
        simpa using this
      have u5 : y5.1 = .lit (.string s5.data.toList) := by have := congrArg Prod.fst q5; simpa using this
      refine ⟨⟨s0, s1, ex, rs, s4, s5, st⟩, ⟨ea, ec, ra, rc, sa, sc⟩, ?_, ⟨l2, l3, l6⟩, ⟨z5, z3, z6, m2, m3, m6⟩, fun hw => ⟨r2 fun n hn => hw n ?_, r3 fun n hn => hw n ?_, r6 fun n hn => hw n ?_⟩, ?_⟩
      · simp [cv, cellsC, e0, e1, e2, e3, e4, e5, e6]
      · rw [hd]
        simp only [DataW.weights, hs]
        exact DataW.weights_mem_each (j := 2) (t := 22) (d := y2.1) (by simp [t2]) rfl n hn
      · rw [hd]
        simp only [DataW.weights, hs]
        exact DataW.weights_mem_each (j := 3) (t := 23) (d := y3.1) (by simp [t3]) rfl n hn
      · rw [hd]
        simp only [DataW.weights, hs]
        exact DataW.weights_mem_each (j := 6) (t := 24) (d := y6.1) (by simp [t6]) rfl n hn
      · have w2 := bulk_mem (d := y2.1) (ds := [y0.1, y1.1, y2.1, y3.1, y4.1, y5.1, y6.1]) (by simp)
        have w3 := bulk_mem (d := y3.1) (ds := [y0.1, y1.1, y2.1, y3.1, y4.1, y5.1, y6.1]) (by simp)
        have w5 := bulk_mem (d := y5.1) (ds := [y0.1, y1.1, y2.1, y3.1, y4.1, y5.1, y6.1]) (by simp)
        have w6 := bulk_mem (d := y6.1) (ds := [y0.1, y1.1, y2.1, y3.1, y4.1, y5.1, y6.1]) (by simp)
        have hb : Rows.uptoBulk d = Rows.uptoBulkAll [y0.1, y1.1, y2.1, y3.1, y4.1, y5.1, y6.1] + 1 := by rw [hd]; simp [Rows.uptoBulk]
        have v5 : s5.size ≤ Rows.uptoBulk y5.1 := by
          rw [u5]
          have q1 : s5.data.toList.length = s5.size := Array.length_toList
          simp only [Rows.uptoBulk]
          omega
        refine ⟨by simp only; omega, by simp only; omega, by simp only; omega, by simp only; omega, fun r hr => ?_, fun r hr => ?_⟩
        · have := k3 r hr; omega
        · have := k6 r hr; omega
end Go.Proofs.Ytedbihckdbpebaa
