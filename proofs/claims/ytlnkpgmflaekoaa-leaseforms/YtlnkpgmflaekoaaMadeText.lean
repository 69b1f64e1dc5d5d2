/-
  string(make([]byte, n)): what it needs besides is only that a seat has []uint8.
-/
import Derived.Test.YtlnkpgmflaekoaaBe
import Derived.Test.YtlnkpgmflaekoaaWirePure
namespace Go.Proofs.Ytlnkpgmflaekoaa
open Go.ChangeShapes Go.WideShapes Go.ChangeAt Go.RowKit Go.Pin Go.PlainAid
theorem made_all (n : Nat) (hn : n ≤ 100000) : ∃ cs : Array Value, (∀ w : World, (Instr.makeSlice 28 (.int .i64 n) (.int .i64 n)).run Try.prog w = .ok (.slice (some ⟨w.heap.size, 0, none⟩) n n) (w.alloc (.cells cs 5))) ∧
    (∀ w : World, (convert 28 9 (.slice (some ⟨w.heap.size, 0, none⟩) n n)).run Try.prog (w.alloc (.cells cs 5)) = .ok (.string (mk (List.replicate n 0))) (w.alloc (.cells cs 5))) := by
  obtain ⟨i0, hi, hz0, hz1, hz2⟩ := info_parts Try.infoU8
  have e : madeCells (Value.int .u8 0).cells n = (List.replicate n (Value.int .u8 0)).toArray := by
    apply Array.ext
    · simp [size_madeCells]
    · intro i h1 h2
      simp [madeCells, Value.cells, Nat.mod_one]
  refine ⟨(List.replicate n (Value.int .u8 0)).toArray, fun w => ?_, fun w => ?_⟩
  · have hr := run_make (P := Try.prog) w 28 5 i0 (.int .u8 0) Try.underlying28 hi hz0 .i64 .i64 (n : Int) (n : Int) (by omega) (Int.le_refl _) (by rw [hz2]; omega) (by omega)
    rw [Int.toNat_natCast, hz1, Nat.mul_one, e] at hr
    exact hr
  · have := conv_new (P := Try.prog) w 28 9 5 5 n (List.replicate n 0) n (List.replicate n (Value.int .u8 0)).toArray (by simp) (by simp) Try.underlying28 Try.underlying5 Try.underlying9
    have e2 : str (List.replicate n 0) = mk (List.replicate n 0) := by simp [str, mk]
    rw [e2] at this
    exact this
/-- The same, asked in any world behind it. -/
theorem made_any (n : Nat) (hn : n ≤ 100000) : ∃ cs : Array Value, (∀ w : World, (Instr.makeSlice 28 (.int .i64 n) (.int .i64 n)).run Try.prog w = .ok (.slice (some ⟨w.heap.size, 0, none⟩) n n) (w.alloc (.cells cs 5))) ∧
    (∀ w w' : World, Below (w.alloc (.cells cs 5)).heap.size (w.alloc (.cells cs 5)) w' → (convert 28 9 (.slice (some ⟨w.heap.size, 0, none⟩) n n)).run Try.prog w' = .ok (.string (mk (List.replicate n 0))) w') := by
  obtain ⟨i0, hi, hz0, hz1, hz2⟩ := info_parts Try.infoU8
  have e : madeCells (Value.int .u8 0).cells n = (List.replicate n (Value.int .u8 0)).toArray := by
    apply Array.ext
    · simp [size_madeCells]
    · intro i h1 h2
      simp [madeCells, Value.cells, Nat.mod_one]
  refine ⟨(List.replicate n (Value.int .u8 0)).toArray, fun w => ?_, fun w w' hb => ?_⟩
  · have hr := run_make (P := Try.prog) w 28 5 i0 (.int .u8 0) Try.underlying28 hi hz0 .i64 .i64 (n : Int) (n : Int) (by omega) (Int.le_refl _) (by rw [hz2]; omega) (by omega)
    rw [Int.toNat_natCast, hz1, Nat.mul_one, e] at hr
    exact hr
  · have := conv_cells (P := Try.prog) w' 28 9 5 ⟨w.heap.size, 0, none⟩ n (List.replicate n 0) Try.underlying28 Try.underlying5 Try.underlying9 (by
      intro j v hj
      rw [addr_add, Nat.zero_add]
      rw [hb.cell (by rw [World.size_alloc]; exact Nat.lt_succ_self _)]
      refine new_cell w _ _ _ _ ?_
      rw [List.getElem?_toArray]
      rwa [List.map_replicate] at hj)
    rw [List.length_replicate] at this
    have e2 : str (List.replicate n 0) = mk (List.replicate n 0) := by simp [str, mk]
    rw [e2] at this
    exact this
end Go.Proofs.Ytlnkpgmflaekoaa
