/-
  Contracts of slices.Equal and of the laws' SameTexts at lists of texts: what each call returns.
-/
import Derived.Test.YtcacfllfgbofeaaName
namespace Go.Proofs.Ytcacfllfgbofeaa
open Go.ChangeShapes Go.WideShapes Go.ChangeAt Go.RowKit Go.Pin Go.PlainAid

/-- Cells of a list of texts, wherever it lies. -/
def Lies (w : World) (a : Option Addr) (ls : List (List UInt8)) : Prop := ls = [] ∨ ∃ g o, a = some ⟨g, o, none⟩ ∧ ∀ j, j < ls.length → w.cell? ⟨g, o + j, none⟩ = some (.string (mk (ls.getD j [])))

theorem equal_lens (v1 v2 : Option Addr) (n m c1 c2 : Nat) (w : World) (h : n ≠ m) : Calls Try.prog 24 #[.slice v1 n c1, .slice v2 m c2] w fun e w' => e = .returned (.bool false) ∧ Below w.heap.size w w' := by
  have h' : ((n : Int) != (m : Int)) = true := by rw [bne_iff_ne]; omega
  go_enter Try.func24, Try.ntmps24
  go_wp2
  go_ret
  exact ⟨rfl, Below.refl _ _⟩

theorem toList_mk (x : List UInt8) : (mk x).toList = x := by rw [ByteArray.toList_eq]; rfl
theorem same_yes {x y : List UInt8} (h : x = y) : ((mk x).toList == (mk y).toList) = true := by rw [h]; simp
theorem same_no {x y : List UInt8} (h : x ≠ y) : ((mk x).toList == (mk y).toList) = false := by rw [toList_mk, toList_mk]; simpa using h
theorem Lies.of_cells {w wr : World} {a : Option Addr} {ls : List (List UInt8)} (h : Lies w a ls) (hc : ∀ p, wr.cell? p = w.cell? p) : Lies wr a ls := by
  rcases h with h | ⟨g, o, rfl, h⟩
  · exact .inl h
  · exact .inr ⟨g, o, rfl, fun j hj => (hc _).trans (h j hj)⟩

theorem eq_of_getD {a b : List (List UInt8)} (hl : a.length = b.length) (h : ∀ j, j < a.length → a.getD j [] = b.getD j []) : a = b := by
  apply List.ext_getElem hl
  intro j h1 h2
  have := h j h1
  simpa [List.getD, h1, h2] using this


theorem equal_c (a1 a2 : Option Addr) (l1 l2 : List (List UInt8)) (c1 c2 : Nat) (w : World) (hl : l1.length = l2.length) (h8 : l1.length ≤ 1000000000) (h1 : Lies w a1 l1) (h2 : Lies w a2 l2) :
    Calls Try.prog 24 #[.slice a1 l1.length c1, .slice a2 l2.length c2] w fun e w' => e = .returned (.bool (decide (l1 = l2))) ∧ Below w.heap.size w w' := by
  have hn : ((l1.length : Int) != (l2.length : Int)) = false := by rw [hl]; simp
  have HL : Hid (l1.length = l2.length) := hl
  have H1 : Hid (Lies w a1 l1) := h1
  have H2 : Hid (Lies w a2 l2) := h2
  have hle : l1.length ≤ l2.length := by omega
  have hge : l2.length ≤ l1.length := by omega
  clear hl h1 h2
  go_enter Try.func24, Try.ntmps24
  go_wp2
  go_loopw [13] (fun i wr => ∃ j : Nat, j ≤ l1.length ∧ i = .int .i64 j ∧ Hid (∀ i, i < j → l1.getD i [] = l2.getD i []) ∧ Below w.heap.size w wr ∧ ∀ p, wr.cell? p = w.cell? p) (fun i _ => l1.length - (intOf i).toNat)
  case atStart => exact ⟨0, Nat.zero_le _, rfl, fun i hi => by omega, Below.refl _ _, fun _ => rfl⟩
  case round =>
    obtain ⟨j, hj, rfl, hall, hnx, hce⟩ := hrel
    by_cases hlt : j < l1.length
    · have hlt2 : j < l2.length := by omega
      obtain ⟨g1, o1, rfl, hc1⟩ := H1.out.resolve_left (by intro e; subst e; simp at hlt)
      obtain ⟨g2, o2, rfl, hc2⟩ := H2.out.resolve_left (by intro e; subst e; simp at hlt2)
      have k1 : wr.cell? ⟨g1, o1 + j, none⟩ = some (.string (mk (l1.getD j []))) := (hce _).trans (hc1 j hlt)
      have k2 : wr.cell? ⟨g2, o2 + j, none⟩ = some (.string (mk (l2.getD j []))) := (hce _).trans (hc2 j hlt2)
      have HC : Hid (∀ p, wr.cell? p = w.cell? p) := hce
      clear hc1 hc2 H1 H2 hce
      generalize hx1 : l1.getD j [] = x1 at k1
      generalize hx2 : l2.getD j [] = x2 at k2
      have Hx1 : Hid (l1.getD j [] = x1) := hx1
      have Hx2 : Hid (l2.getD j [] = x2) := hx2
      clear hx1 hx2
      by_cases hxx : x1 = x2
      · have ht := same_yes hxx
        have Hxx : Hid (x1 = x2) := hxx
        clear hxx
        go_wp2_with fail
        go_region
        go_wp2
        go_roundw
        case rel => exact ⟨j + 1, by omega, by go_num, fun i hi => by by_cases e : i = j; (subst e; rw [Hx1.out, Hx2.out, Hxx.out]); exact hall.out i (by omega), hnx.drew, fun p => HC.out p⟩
        case measure => simp [intOf]; omega
      · have ht := same_no hxx
        have Hxx : Hid (x1 ≠ x2) := hxx
        clear hxx
        go_wp2_with fail
        go_region
        go_wp2
        go_ret
        refine ⟨ret_bool ?_, hnx.drew⟩
        rw [eq_comm, decide_eq_false_iff_not]
        intro e
        apply Hxx.out
        rw [← Hx1.out, ← Hx2.out, e]
    · obtain rfl : j = l1.length := by omega
      go_wp2
      go_ret
      refine ⟨ret_bool ?_, hnx⟩
      rw [eq_comm, decide_eq_true_eq]
      exact eq_of_getD HL.out hall.out

theorem same_lens (v1 v2 : Option Addr) (n m c1 c2 : Nat) (w : World) (h : n ≠ m) : Calls Try.prog 14 #[.slice v1 n c1, .slice v2 m c2] w fun e w' => e = .returned (.bool false) ∧ Below w.heap.size w w' := by
  have h' : ((n : Int) != (m : Int)) = true := by rw [bne_iff_ne]; omega
  go_enter Try.func14, Try.ntmps14
  go_wp2
  go_ret
  exact ⟨rfl, Below.refl _ _⟩

theorem same_c (a1 a2 : Option Addr) (l1 l2 : List (List UInt8)) (c1 c2 : Nat) (w : World) (hl : l1.length = l2.length) (h8 : l1.length ≤ 1000000000) (h1 : Lies w a1 l1) (h2 : Lies w a2 l2) :
    Calls Try.prog 14 #[.slice a1 l1.length c1, .slice a2 l2.length c2] w fun e w' => e = .returned (.bool (decide (l1 = l2))) ∧ Below w.heap.size w w' := by
  have hn : ((l1.length : Int) != (l2.length : Int)) = false := by rw [hl]; simp
  have HL : Hid (l1.length = l2.length) := hl
  have H1 : Hid (Lies w a1 l1) := h1
  have H2 : Hid (Lies w a2 l2) := h2
  have hle : l1.length ≤ l2.length := by omega
  have hge : l2.length ≤ l1.length := by omega
  clear hl h1 h2
  go_enter Try.func14, Try.ntmps14
  go_wp2
  go_loopw [5] (fun i wr => ∃ j : Nat, j ≤ l1.length ∧ i = .int .i64 j ∧ Hid (∀ i, i < j → l1.getD i [] = l2.getD i []) ∧ Below w.heap.size w wr ∧ ∀ p, wr.cell? p = w.cell? p) (fun i _ => l1.length - (intOf i).toNat)
  case atStart => exact ⟨0, Nat.zero_le _, rfl, fun i hi => by omega, Below.refl _ _, fun _ => rfl⟩
  case round =>
    obtain ⟨j, hj, rfl, hall, hnx, hce⟩ := hrel
    by_cases hlt : j < l1.length
    · have hlt2 : j < l2.length := by omega
      obtain ⟨g1, o1, rfl, hc1⟩ := H1.out.resolve_left (by intro e; subst e; simp at hlt)
      obtain ⟨g2, o2, rfl, hc2⟩ := H2.out.resolve_left (by intro e; subst e; simp at hlt2)
      have k1 : wr.cell? ⟨g1, o1 + j, none⟩ = some (.string (mk (l1.getD j []))) := (hce _).trans (hc1 j hlt)
      have k2 : wr.cell? ⟨g2, o2 + j, none⟩ = some (.string (mk (l2.getD j []))) := (hce _).trans (hc2 j hlt2)
      have HC : Hid (∀ p, wr.cell? p = w.cell? p) := hce
      clear hc1 hc2 H1 H2 hce
      generalize hx1 : l1.getD j [] = x1 at k1
      generalize hx2 : l2.getD j [] = x2 at k2
      have Hx1 : Hid (l1.getD j [] = x1) := hx1
      have Hx2 : Hid (l2.getD j [] = x2) := hx2
      clear hx1 hx2
      by_cases hxx : x1 = x2
      · have ht := same_yes hxx
        have Hxx : Hid (x1 = x2) := hxx
        clear hxx
        go_wp2_with fail
        go_region
        go_wp2
        go_roundw
        case rel => exact ⟨j + 1, by omega, by go_num, fun i hi => by by_cases e : i = j; (subst e; rw [Hx1.out, Hx2.out, Hxx.out]); exact hall.out i (by omega), hnx.drew, fun p => HC.out p⟩
        case measure => simp [intOf]; omega
      · have ht := same_no hxx
        have Hxx : Hid (x1 ≠ x2) := hxx
        clear hxx
        go_wp2_with fail
        go_region
        go_wp2
        go_ret
        refine ⟨ret_bool ?_, hnx.drew⟩
        rw [eq_comm, decide_eq_false_iff_not]
        intro e
        apply Hxx.out
        rw [← Hx1.out, ← Hx2.out, e]
    · obtain rfl : j = l1.length := by omega
      go_wp2
      go_ret
      refine ⟨ret_bool ?_, hnx⟩
      rw [eq_comm, decide_eq_true_eq]
      exact eq_of_getD HL.out hall.out

end Go.Proofs.Ytcacfllfgbofeaa
