/-
  The references' GetRr answers what 'getRec' says, at every text and place.
-/
import Derived.Test.YtdmooggmoihggaaGreatDoorRrRefGetA
import Derived.Test.YtdmooggmoihggaaGreatDoorRrRefGetB
import Derived.Test.YtdmooggmoihggaaGreatDoorRrRefGetC
import Derived.Test.YtdmooggmoihggaaGreatDoorRrRefGetD
namespace Go.Proofs.YtdmooggmoihggaaGreatDoor
set_option maxRecDepth 100000
open Go.ChangeShapes Go.WideShapes Go.ChangeAt Go.RowKit Go.Pin Go.PlainAid

theorem refGet_c (s : ByteArray) (a : Int) (w : World) (hs : s.size ≤ 1125899906842624) :
    Calls Tryz.prog 62 #[.string s, .int .i64 a] w fun e w' => e = gotR (getRec s a) ∧ Below w.heap.size w w' := by
  by_cases h0 : (getI (bs s) a).2.2 = 0
  · rcases hg : getI (bs s) a with ⟨n, mI, er⟩
    rw [hg] at h0
    simp only at h0
    subst h0
    have hL : getL (bs s) a.toNat = (n, mI, 0) := by
      unfold getI at hg
      split at hg
      · simp at hg
      · exact hg
    have hend := get_ends hL
    rw [length_bs] at hend
    by_cases h10 : mI + 10 ≤ s.size
    · obtain ⟨m, rfl⟩ : ∃ m : Nat, mI = m := ⟨mI.toNat, by omega⟩
      have hg' : getI (bs s) a = (bs (mk n), (m : Int), 0) := hg
      by_cases hc : num s (m + 2) 2 = 1
      · by_cases he : (s.size : Int) < (m : Int) + 10 + num s (m + 8) 2
        · rw [Hd.no_end hg he]
          exact refGet_no4 s a (mk n) m w hs hg' (by omega) hc he
        · have hk := num_bd s (m + 8) 2
          obtain ⟨k, hk'⟩ : ∃ k : Nat, num s (m + 8) 2 = k := ⟨(num s (m + 8) 2).toNat, by omega⟩
          have H : Hd s a (mk n) m k (num s m 2) (num s (m + 4) 4) := ⟨hg', by omega, rfl, hc, rfl, hk', by omega⟩
          cases ht : typeB (num s m 2) with
          | false => exact refGet_not s a (mk n) m k _ _ w hs H ht
          | true =>
            simp only [typeB, isN, isT, Bool.or_eq_true, decide_eq_true_eq] at ht
            rcases ht with ((ht | ht | ht | ht) | ht) | ht | ht
            · exact refGet_1 s a (mk n) m k _ _ w hs H ht
            · exact refGet_2 s a (mk n) m k _ _ w hs H ht
            · exact refGet_5 s a (mk n) m k _ _ w hs H ht
            · exact refGet_12 s a (mk n) m k _ _ w hs H ht
            · exact refGet_6 s a (mk n) m k _ _ w hs H ht
            · by_cases hk0 : k = 0
              · exact refGet_16_0 s a (mk n) m k _ _ w hs H ht hk0
              · exact refGet_16 s a (mk n) m k _ _ w hs H ht (by omega)
            · exact refGet_49 s a (mk n) m k _ _ w hs H ht
      · rw [Hd.no_class hg hc]
        exact refGet_no3 s a (mk n) m w hs hg' (by omega) hc
    · rw [Hd.no_room hg (by omega)]
      exact refGet_no2 s a n mI w hs hg (by omega) (by omega)
  · rw [Hd.no_name h0]
    exact refGet_no1 s a w hs h0

end Go.Proofs.YtdmooggmoihggaaGreatDoor
