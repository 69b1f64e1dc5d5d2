/-
  A list of records in a field of what came in: opened.
-/
import Derived.Test.YtedbihckdbpebaaRecMem
import Derived.ChangeArms
import Derived.SizedLaws
namespace Go.Proofs.Ytedbihckdbpebaa
open Go.ChangeShapes Go.WideShapes Go.ChangeAt Go.RowKit Go.Pin

theorem bulk_mem {H : Type} {d : DataW H} : ∀ {ds : List (DataW H)}, d ∈ ds → Rows.uptoBulk d ≤ Rows.uptoBulkAll ds
  | [], h => by cases h
  | x :: xs, h => by
    simp only [Rows.uptoBulkAll]
    rcases List.mem_cons.1 h with rfl | h
    · omega
    · have := bulk_mem h; omega
theorem bulk_pos {H : Type} (d : DataW H) : 1 ≤ Rows.uptoBulk d := by
  cases d
  case lit l => cases l <;> simp [Rows.uptoBulk]
  all_goals simp [Rows.uptoBulk]
theorem bulk_len {H : Type} : ∀ (ds : List (DataW H)), ds.length ≤ Rows.uptoBulkAll ds
  | [] => by simp
  | x :: xs => by
    have h1 := bulk_len xs
    have h2 := bulk_pos x
    simp only [Rows.uptoBulkAll, List.length_cons]; omega
theorem Try.bytesRR : Try.prog.bytesOf 49 = 80 := by kernel_rfl
/-- A list of records in a field. -/
theorem open_rlistW {H : Type} {enc : TypeId × Value → H} {W : World} {base : Nat} {spare : Nat → Bool} {held : Bool} {fuel : Nat} {cs : List Value} {x : DataW H × List MemPlace}
    (h : DataW.trod enc Try.prog W base spare held fuel 24 cs = some x) : ∃ (a : Option Addr) (rs : List Rec) (cap : Nat), cs = [.slice a rs.length cap] ∧ RecsLie W a rs ∧ (∀ r ∈ rs, IsRec r) ∧ rs.length ≤ maxLen ∧ rs.length ≤ Rows.uptoBulk x.1 ∧ (∀ r ∈ rs, r.n.size + r.tg.size + r.tx.size ≤ Rows.uptoBulk x.1) ∧ ((∀ n ∈ x.1.weights Try.prog 24, n ≤ reachBytes) → rs.length * 80 ≤ 140737488351232) := by
  rcases Go.Deep.open_slice Try.underlying24 h with ⟨hcs, _⟩ | ⟨a, l, c, m, n, D, Pl, hcs, _, hl, hm, hmm, hx, hcell⟩
  · exact ⟨none, [], 0, hcs, .inl rfl, by simp, by simp, by simp, by simp, by simp⟩
  · have hlm : l ≤ m := by rw [hmm]; split <;> omega
    have each : ∀ i, i < l → ∃ r : Rec, (IsRec r ∧ ∀ j, j < 7 → W.cell? (a.add (i * 7 + j)) = (cellsR r)[j]?) ∧ D i = .agg [.lit (.string (bs r.n)), .lit (.int .i64 r.ty), .lit (.int .i64 r.ttl), .lit (.int .i64 r.ad), .lit (.string (bs r.tg)), .lit (.string (bs r.tx)), .lit (.int .i64 r.se)] := by
      intro i hi
      obtain ⟨cs', h1, h2⟩ := hcell i (by omega)
      obtain ⟨r, e1, e2, e3⟩ := trod_rec h2
      refine ⟨r, ⟨e2, fun j hj => ?_⟩, e3⟩
      rw [Try.rrCells] at h1
      obtain ⟨_, hlen, hc⟩ := World.cells?_some h1
      have := hc j hj
      rw [Go.Deep.add_add] at this
      rw [this, e1]
    haveI : Inhabited Rec := ⟨zeroR⟩
    obtain ⟨R, hR⟩ := Go.Deep.choose_lt each
    have hmem : ∀ r, r ∈ (List.range l).map R → ∃ i, i < l ∧ R i = r := fun r hr => by simpa using hr
    refine ⟨some a, (List.range l).map R, c, by simpa using hcs, .inr ⟨a, rfl, fun j r hj => ?_⟩, fun r hr => ?_, by simp; omega, ?_, fun r hr => ?_, fun hw => ?_⟩
    · have hjl : j < l := by have := (List.getElem?_eq_some_iff.1 hj).1; simpa using this
      simp [List.getElem?_map, List.getElem?_range hjl] at hj
      subst hj
      exact from_recs (hR j hjl).1.2
    · obtain ⟨i, hi, rfl⟩ := hmem r hr
      exact (hR i hi).1.1
    · rw [hx]
      have := bulk_len ((List.range l).map D)
      simp only [Rows.uptoBulk, List.length_map, List.length_range] at this ⊢
      omega
    · obtain ⟨i, hi, rfl⟩ := hmem r hr
      have h1 := bulk_mem (d := D i) (ds := (List.range l).map D) (by simp; exact ⟨i, hi, rfl⟩)
      have h2 : (R i).n.size + (R i).tg.size + (R i).tx.size ≤ Rows.uptoBulk (D i) := by
        rw [(hR i hi).2]
        have q1 := length_bs (R i).n
        have q2 := length_bs (R i).tg
        have q3 := length_bs (R i).tx
        simp only [Rows.uptoBulk, Rows.uptoBulkAll]
        omega
      rw [hx]
      simp only [Rows.uptoBulk]
      omega
    · have := hw (((List.range l).map D).length * Try.prog.bytesOf 49 + ((List.range (m - l)).map fun j => D (l + j)).length * Try.prog.bytesOf 49) (by
        rw [hx]
        simp [DataW.weights, Try.underlying24, Nat.add_mul])
      rw [Try.bytesRR] at this
      simp only [List.length_map, List.length_range] at this ⊢
      unfold reachBytes at this
      omega
/-- A list of records in a field. -/
theorem open_rlist {H : Type} {enc : TypeId × Value → H} {W : World} {base : Nat} {spare : Nat → Bool} {held : Bool} {fuel : Nat} {cs : List Value} {x : DataW H × List MemPlace}
    (h : DataW.trod enc Try.prog W base spare held fuel 24 cs = some x) : ∃ (a : Option Addr) (rs : List Rec) (cap : Nat), cs = [.slice a rs.length cap] ∧ RecsLie W a rs ∧ (∀ r ∈ rs, IsRec r) ∧ rs.length ≤ maxLen ∧ rs.length ≤ Rows.uptoBulk x.1 ∧ ∀ r ∈ rs, r.n.size + r.tg.size + r.tx.size ≤ Rows.uptoBulk x.1 := by
  obtain ⟨a, rs, cap, h1, h2, h3, h4, h5, h6, _⟩ := open_rlistW h
  exact ⟨a, rs, cap, h1, h2, h3, h4, h5, h6⟩

end Go.Proofs.Ytedbihckdbpebaa
