/-
  pinfoldlaw4.RrForms, at every two numbers: it returns true. No condition; the row's listed variable (rr.soaTimes) is tied to the program's text by the given tie.
-/
import Derived.Test.YtgidbcjeaeiinaaDoorCards
import Derived.Test.YtgidbcjeaeiinaaDoorTie
import Derived.Test.YtgidbcjeaeiinaaDoorAwake4
import Derived.Test.YtgidbcjeaeiinaaDoorRrOpen
import Derived.WalkKit
import Derived.ProofKit
import Derived.OpenShut
import Derived.ShutString
import Derived.ChangeOld
import Derived.SizedLaws
import Derived.Carry
import Derived.Deep.DeepHandedRow
import Derived.Lib.LaidTab
namespace Go.Proofs.YtgidbcjeaeiinaaDoor
set_option maxRecDepth 100000
namespace rrForms
open Go.ChangeShapes Go.WideShapes Go.ChangeAt Go.RowKit Go.Pin Go.PlainAid

abbrev E0 : ByteArray := ⟨#[]⟩
/-- The records that may not be. -/
def bads (d : Int) (T : ByteArray) : List Rec := [⟨E0, 0, 0, 0, E0, E0, 0⟩, ⟨E0, 41, 0, 0, E0, E0, 0⟩, ⟨E0, -d, 0, 0, E0, E0, 0⟩, ⟨⟨#[65]⟩, 1, 0, 0, E0, E0, 0⟩, ⟨E0, 1, -d, 0, E0, E0, 0⟩, ⟨E0, 1, 1048576 + d, 0, E0, E0, 0⟩, ⟨E0, 1, 0, -d, E0, E0, 0⟩, ⟨E0, 1, 0, 4294967295 + d, E0, E0, 0⟩, ⟨E0, 1, 0, 0, ⟨#[97]⟩, E0, 0⟩, ⟨E0, 1, 0, 0, E0, E0, d⟩, ⟨E0, 2, 0, 0, ⟨#[65]⟩, E0, 0⟩, ⟨E0, 2, 0, d, E0, E0, 0⟩, ⟨E0, 12, 0, 0, E0, ⟨#[120]⟩, 0⟩, ⟨E0, 5, 0, 0, E0, E0, d⟩, ⟨E0, 6, 0, 0, E0, E0, -d⟩, ⟨E0, 6, 0, 0, E0, E0, 4294967295 + d⟩, ⟨E0, 6, 0, 0, ⟨#[97, 46, 46, 98]⟩, E0, 0⟩, ⟨E0, 16, 0, 0, E0, T, 0⟩, ⟨E0, 16, 0, d, E0, E0, 0⟩, ⟨E0, 49, 0, 0, ⟨#[97]⟩, E0, 0⟩]
theorem bads_no (d : Int) (T : ByteArray) (hd : 1 ≤ d ∧ d ≤ 1024) (hT : 64 < T.size) : ∀ r ∈ bads d T, mayR r = false ∧ r.n.size ≤ maxLen ∧ r.tg.size ≤ maxLen := by
  intro r hr
  simp only [bads, List.mem_cons, List.not_mem_nil, or_false] at hr
  have up1 : ∀ m, upB (-d) m = false := fun m => by simp [upB]; omega
  have up2 : upB (1048576 + d) 1048576 = false := by simp [upB]; omega
  have up3 : upB (4294967295 + d) 4294967295 = false := by simp [upB]; omega
  have ty : typeB (-d) = false := by simp [typeB, isN, isT]; omega
  have hne : d ≠ 0 := by omega
  rcases hr with rfl | rfl | rfl | rfl | rfl | rfl | rfl | rfl | rfl | rfl | rfl | rfl | rfl | rfl | rfl | rfl | rfl | rfl | rfl | rfl
  all_goals refine ⟨?_, (by simp [ByteArray.size, maxLen]), (by simp [ByteArray.size, maxLen])⟩
  · exact mayR_not (.inr (.inl rfl))
  · exact mayR_not (.inr (.inl rfl))
  · exact mayR_not (.inr (.inl ty))
  · exact mayR_not (.inr (.inr (.inl (by decide))))
  · exact mayR_not (.inr (.inr (.inr (.inl (up1 _)))))
  · exact mayR_not (.inr (.inr (.inr (.inl up2))))
  · exact mayR_not (.inr (.inr (.inr (.inr (.inl (up1 _))))))
  · exact mayR_not (.inr (.inr (.inr (.inr (.inl up3)))))
  · exact mayR_not (.inl (by intro h; simp [namedR] at h))
  · exact mayR_not (.inl (by intro h; simp [namedR] at h; exact hne h))
  · exact mayR_not (.inr (.inr (.inr (.inr (.inr (.inl (by decide)))))))
  · exact mayR_not (.inl (by intro h; simp [namedR, isN] at h; exact hne h))
  · exact mayR_not (.inl (by intro h; simp [namedR, isN] at h))
  · exact mayR_not (.inl (by intro h; simp [namedR, isN] at h; exact hne h))
  · exact mayR_not (.inr (.inr (.inr (.inr (.inr (.inr (.inl (up1 _))))))))
  · exact mayR_not (.inr (.inr (.inr (.inr (.inr (.inr (.inl up3)))))))
  · exact mayR_not (.inr (.inr (.inr (.inr (.inr (.inl (by decide)))))))
  · exact mayR_not (.inr (.inr (.inr (.inr (.inr (.inr (.inr hT)))))))
  · exact mayR_not (.inl (by intro h; simp [namedR, isN, isT] at h; exact hne h))
  · exact mayR_not (.inl (by intro h; simp [namedR, isN, isT] at h))

/-- string(make([]byte, n)). -/
theorem made (w : World) (z : Int) (h0 : 64 < z) (h1 : z ≤ 2000) : ∃ (cs : Array Value) (N : Nat) (T : ByteArray), 64 < T.size ∧ (Instr.makeSlice 44 (.int .i64 z) (.int .i64 z)).run Tryd.prog w = .ok (.slice (some ⟨w.heap.size, 0, none⟩) N N) (w.alloc (.cells cs 5)) ∧
    (convert 44 9 (.slice (some ⟨w.heap.size, 0, none⟩) N N)).run Tryd.prog (w.alloc (.cells cs 5)) = .ok (.string T) (w.alloc (.cells cs 5)) := by
  obtain ⟨i0, hi, hz0, hz1, hz2⟩ := info_parts Tryd.infoU8
  obtain ⟨n, rfl⟩ : ∃ n : Nat, z = n := ⟨z.toNat, by omega⟩
  have hr := run_make (P := Tryd.prog) w 44 5 i0 (.int .u8 0) Tryd.underlying44 hi hz0 .i64 .i64 (n : Int) (n : Int) (by omega) (Int.le_refl _) (by rw [hz2]; omega) (by omega)
  rw [Int.toNat_natCast, hz1, Nat.mul_one] at hr
  refine ⟨_, n, str (List.replicate n 0), ?_, hr, ?_⟩
  · rw [size_str]; simp; omega
  · refine conv_new w 44 9 5 5 n (List.replicate n 0) n _ (by simp) ?_ Tryd.underlying44 Tryd.underlying5 Tryd.underlying9
    apply Array.ext
    · simp [size_madeCells]
    · intro i h1 h2
      simp [madeCells, Value.cells, Nat.mod_one]
theorem flat_at : ∀ (l : List Rec) (I : Nat) (r : Rec) (j : Nat), l[I]? = some r → j < 7 → (l.flatMap cellsR)[I * 7 + j]? = (cellsR r)[j]?
  | [], _, _, _, h, _ => by simp at h
  | a :: l, 0, r, j, h, hj => by
    simp only [List.getElem?_cons_zero, Option.some.injEq] at h
    subst h
    rw [List.flatMap_cons, Nat.zero_mul, Nat.zero_add, List.getElem?_append_left (by simp [cellsR]; omega)]
  | a :: l, I + 1, r, j, h, hj => by
    simp only [List.getElem?_cons_succ] at h
    rw [List.flatMap_cons, List.getElem?_append_right (by simp [cellsR]; omega)]
    have : (I + 1) * 7 + j - (cellsR a).length = I * 7 + j := by simp [cellsR]; omega
    rw [this]
    exact flat_at l I r j h hj

theorem kn_one (w : World) (t : TypeId) : KnLies (w.alloc (.cells #[.string ⟨#[65]⟩, .int .i64 0] t)) (some ⟨w.heap.size, 0, none⟩) [([65], 0)] :=
  .inr ⟨_, rfl, fun j hj => by
    have : j = 0 := by simp at hj; omega
    subst this
    exact ⟨new_cell w _ _ _ _ rfl, new_cell w _ _ _ _ rfl⟩⟩
theorem known_no : putL 0 [([65], 0)] ⟨⟨#[97]⟩, 1, 0, 0, E0, E0, 0⟩ = none := by
  have : mayPutL 0 [([65], 0)] (bs ⟨#[97]⟩) = false := by decide
  simp [putL, this]

set_option maxHeartbeats 4000000 in
theorem walk (a0 a1 : Int) (w : World) (_w0 : (Lit.int .i64 a0).wf = true) (_w1 : (Lit.int .i64 a1).wf = true) (hL : Laid w) : Calls Tryd.prog 5 #[.int .i64 a0, .int .i64 a1] w fun e w' => e = .returned (.bool true) ∧ Below w.heap.size w w' := by
  obtain ⟨I, hI, hI20⟩ := pick_mod a0 20 (by omega) (by omega)
  have hm := i64_mask 10 a1 (by omega)
  obtain ⟨d, hd, hd1⟩ : ∃ d : Int, a1 % 1024 = d ∧ 0 ≤ d ∧ d < 1024 := ⟨_, rfl, Int.emod_nonneg _ (by omega), Int.emod_lt_of_pos _ (by omega)⟩
  obtain ⟨hd0, hd1⟩ := hd1
  have hm' : bits .and .i64 a1 1023 = d := by rw [← hd]; exact hm
  clear hm hd
  have P2 : Hid (∀ w, Laid w → _) := fun w hL => rrPut_nilno (-(1 + d)) 0 ⟨E0, 1, 0, 0, E0, E0, 0⟩ w (by decide) (by decide) ⟨by omega, by omega⟩ hL (by simp [putL, mayPutL]; omega)
  have HL : Hid (Laid w) := hL
  clear hL
  go_enter Tryd.func5, Tryd.ntmps5
  go_wp2_with fail
  refine (awake_yes _ HL.out).mono ?_; rintro e x1 ⟨rfl, hb1⟩
  have B1 : Hid (Below w.heap.size w x1) := hb1
  clear hb1
  obtain ⟨cs, N, T, hT, hmk, hcv⟩ := made x1 (64 + (1 + d)) (by omega) (by omega)
  obtain ⟨r, hr⟩ : ∃ r, (bads (1 + d) T)[I]? = some r := ⟨_, List.getElem?_eq_getElem (by simp [bads]; omega)⟩
  obtain ⟨hno, hn1, hn2⟩ := bads_no (1 + d) T ⟨by omega, by omega⟩ hT r (List.mem_of_getElem? hr)
  have P1 : Hid (∀ w, Laid w → _) := fun w hL => rrPut_nilno 0 0 r w hn1 hn2 (by decide) hL (putL_not hno)
  have P4 : Hid (∀ w, _) := fun w => rrMay_is r false w hn1 hn2 hno
  have hfl := fun j => flat_at (bads (1 + d) T) I r j hr
  have hcell : ∀ j, j < 7 → ((x1.alloc (.cells cs 5)).alloc (.cells #[.string ⟨#[]⟩, .int .i64 0, .int .i64 0, .int .i64 0, .string ⟨#[]⟩, .string ⟨#[]⟩, .int .i64 0, .string ⟨#[]⟩, .int .i64 41, .int .i64 0, .int .i64 0, .string ⟨#[]⟩, .string ⟨#[]⟩, .int .i64 0, .string ⟨#[]⟩, .int .i64 (-(1 + d)), .int .i64 0, .int .i64 0, .string ⟨#[]⟩, .string ⟨#[]⟩, .int .i64 0, .string ⟨#[65]⟩, .int .i64 1, .int .i64 0, .int .i64 0, .string ⟨#[]⟩, .string ⟨#[]⟩, .int .i64 0, .string ⟨#[]⟩, .int .i64 1, .int .i64 (-(1 + d)), .int .i64 0, .string ⟨#[]⟩, .string ⟨#[]⟩, .int .i64 0, .string ⟨#[]⟩, .int .i64 1, .int .i64 (1048576 + (1 + d)), .int .i64 0, .string ⟨#[]⟩, .string ⟨#[]⟩, .int .i64 0, .string ⟨#[]⟩, .int .i64 1, .int .i64 0, .int .i64 (-(1 + d)), .string ⟨#[]⟩, .string ⟨#[]⟩, .int .i64 0, .string ⟨#[]⟩, .int .i64 1, .int .i64 0, .int .i64 (4294967295 + (1 + d)), .string ⟨#[]⟩, .string ⟨#[]⟩, .int .i64 0, .string ⟨#[]⟩, .int .i64 1, .int .i64 0, .int .i64 0, .string ⟨#[97]⟩, .string ⟨#[]⟩, .int .i64 0, .string ⟨#[]⟩, .int .i64 1, .int .i64 0, .int .i64 0, .string ⟨#[]⟩, .string ⟨#[]⟩, .int .i64 (1 + d), .string ⟨#[]⟩, .int .i64 2, .int .i64 0, .int .i64 0, .string ⟨#[65]⟩, .string ⟨#[]⟩, .int .i64 0, .string ⟨#[]⟩, .int .i64 2, .int .i64 0, .int .i64 (1 + d), .string ⟨#[]⟩, .string ⟨#[]⟩, .int .i64 0, .string ⟨#[]⟩, .int .i64 12, .int .i64 0, .int .i64 0, .string ⟨#[]⟩, .string ⟨#[120]⟩, .int .i64 0, .string ⟨#[]⟩, .int .i64 5, .int .i64 0, .int .i64 0, .string ⟨#[]⟩, .string ⟨#[]⟩, .int .i64 (1 + d), .string ⟨#[]⟩, .int .i64 6, .int .i64 0, .int .i64 0, .string ⟨#[]⟩, .string ⟨#[]⟩, .int .i64 (-(1 + d)), .string ⟨#[]⟩, .int .i64 6, .int .i64 0, .int .i64 0, .string ⟨#[]⟩, .string ⟨#[]⟩, .int .i64 (4294967295 + (1 + d)), .string ⟨#[]⟩, .int .i64 6, .int .i64 0, .int .i64 0, .string ⟨#[97, 46, 46, 98]⟩, .string ⟨#[]⟩, .int .i64 0, .string ⟨#[]⟩, .int .i64 16, .int .i64 0, .int .i64 0, .string ⟨#[]⟩, .string T, .int .i64 0, .string ⟨#[]⟩, .int .i64 16, .int .i64 0, .int .i64 (1 + d), .string ⟨#[]⟩, .string ⟨#[]⟩, .int .i64 0, .string ⟨#[]⟩, .int .i64 49, .int .i64 0, .int .i64 0, .string ⟨#[97]⟩, .string ⟨#[]⟩, .int .i64 0] 24)).cell? ⟨x1.heap.size + 1, I * 7 + j, none⟩ = (cellsR r)[j]? := fun j hj => by
    have h7 := hfl j hj
    cases hv : (cellsR r)[j]? with
    | none => rw [List.getElem?_eq_none_iff] at hv; simp [cellsR] at hv; omega
    | some v =>
      rw [hv] at h7
      refine new_at _ _ _ _ _ _ (by simp) ?_
      rw [← List.getElem?_toArray] at h7
      exact h7
  have BX : Hid (Boxed (((x1.alloc (.cells cs 5)).alloc (.cells #[.string ⟨#[]⟩, .int .i64 0, .int .i64 0, .int .i64 0, .string ⟨#[]⟩, .string ⟨#[]⟩, .int .i64 0, .string ⟨#[]⟩, .int .i64 41, .int .i64 0, .int .i64 0, .string ⟨#[]⟩, .string ⟨#[]⟩, .int .i64 0, .string ⟨#[]⟩, .int .i64 (-(1 + d)), .int .i64 0, .int .i64 0, .string ⟨#[]⟩, .string ⟨#[]⟩, .int .i64 0, .string ⟨#[65]⟩, .int .i64 1, .int .i64 0, .int .i64 0, .string ⟨#[]⟩, .string ⟨#[]⟩, .int .i64 0, .string ⟨#[]⟩, .int .i64 1, .int .i64 (-(1 + d)), .int .i64 0, .string ⟨#[]⟩, .string ⟨#[]⟩, .int .i64 0, .string ⟨#[]⟩, .int .i64 1, .int .i64 (1048576 + (1 + d)), .int .i64 0, .string ⟨#[]⟩, .string ⟨#[]⟩, .int .i64 0, .string ⟨#[]⟩, .int .i64 1, .int .i64 0, .int .i64 (-(1 + d)), .string ⟨#[]⟩, .string ⟨#[]⟩, .int .i64 0, .string ⟨#[]⟩, .int .i64 1, .int .i64 0, .int .i64 (4294967295 + (1 + d)), .string ⟨#[]⟩, .string ⟨#[]⟩, .int .i64 0, .string ⟨#[]⟩, .int .i64 1, .int .i64 0, .int .i64 0, .string ⟨#[97]⟩, .string ⟨#[]⟩, .int .i64 0, .string ⟨#[]⟩, .int .i64 1, .int .i64 0, .int .i64 0, .string ⟨#[]⟩, .string ⟨#[]⟩, .int .i64 (1 + d), .string ⟨#[]⟩, .int .i64 2, .int .i64 0, .int .i64 0, .string ⟨#[65]⟩, .string ⟨#[]⟩, .int .i64 0, .string ⟨#[]⟩, .int .i64 2, .int .i64 0, .int .i64 (1 + d), .string ⟨#[]⟩, .string ⟨#[]⟩, .int .i64 0, .string ⟨#[]⟩, .int .i64 12, .int .i64 0, .int .i64 0, .string ⟨#[]⟩, .string ⟨#[120]⟩, .int .i64 0, .string ⟨#[]⟩, .int .i64 5, .int .i64 0, .int .i64 0, .string ⟨#[]⟩, .string ⟨#[]⟩, .int .i64 (1 + d), .string ⟨#[]⟩, .int .i64 6, .int .i64 0, .int .i64 0, .string ⟨#[]⟩, .string ⟨#[]⟩, .int .i64 (-(1 + d)), .string ⟨#[]⟩, .int .i64 6, .int .i64 0, .int .i64 0, .string ⟨#[]⟩, .string ⟨#[]⟩, .int .i64 (4294967295 + (1 + d)), .string ⟨#[]⟩, .int .i64 6, .int .i64 0, .int .i64 0, .string ⟨#[97, 46, 46, 98]⟩, .string ⟨#[]⟩, .int .i64 0, .string ⟨#[]⟩, .int .i64 16, .int .i64 0, .int .i64 0, .string ⟨#[]⟩, .string T, .int .i64 0, .string ⟨#[]⟩, .int .i64 16, .int .i64 0, .int .i64 (1 + d), .string ⟨#[]⟩, .string ⟨#[]⟩, .int .i64 0, .string ⟨#[]⟩, .int .i64 49, .int .i64 0, .int .i64 0, .string ⟨#[97]⟩, .string ⟨#[]⟩, .int .i64 0] 24)).alloc (.cells #[.string r.n, .int .i64 r.ty, .int .i64 r.ttl, .int .i64 r.ad, .string r.tg, .string r.tx, .int .i64 r.se] 24)) ((x1.alloc (.cells cs 5)).alloc (.cells #[.string ⟨#[]⟩, .int .i64 0, .int .i64 0, .int .i64 0, .string ⟨#[]⟩, .string ⟨#[]⟩, .int .i64 0, .string ⟨#[]⟩, .int .i64 41, .int .i64 0, .int .i64 0, .string ⟨#[]⟩, .string ⟨#[]⟩, .int .i64 0, .string ⟨#[]⟩, .int .i64 (-(1 + d)), .int .i64 0, .int .i64 0, .string ⟨#[]⟩, .string ⟨#[]⟩, .int .i64 0, .string ⟨#[65]⟩, .int .i64 1, .int .i64 0, .int .i64 0, .string ⟨#[]⟩, .string ⟨#[]⟩, .int .i64 0, .string ⟨#[]⟩, .int .i64 1, .int .i64 (-(1 + d)), .int .i64 0, .string ⟨#[]⟩, .string ⟨#[]⟩, .int .i64 0, .string ⟨#[]⟩, .int .i64 1, .int .i64 (1048576 + (1 + d)), .int .i64 0, .string ⟨#[]⟩, .string ⟨#[]⟩, .int .i64 0, .string ⟨#[]⟩, .int .i64 1, .int .i64 0, .int .i64 (-(1 + d)), .string ⟨#[]⟩, .string ⟨#[]⟩, .int .i64 0, .string ⟨#[]⟩, .int .i64 1, .int .i64 0, .int .i64 (4294967295 + (1 + d)), .string ⟨#[]⟩, .string ⟨#[]⟩, .int .i64 0, .string ⟨#[]⟩, .int .i64 1, .int .i64 0, .int .i64 0, .string ⟨#[97]⟩, .string ⟨#[]⟩, .int .i64 0, .string ⟨#[]⟩, .int .i64 1, .int .i64 0, .int .i64 0, .string ⟨#[]⟩, .string ⟨#[]⟩, .int .i64 (1 + d), .string ⟨#[]⟩, .int .i64 2, .int .i64 0, .int .i64 0, .string ⟨#[65]⟩, .string ⟨#[]⟩, .int .i64 0, .string ⟨#[]⟩, .int .i64 2, .int .i64 0, .int .i64 (1 + d), .string ⟨#[]⟩, .string ⟨#[]⟩, .int .i64 0, .string ⟨#[]⟩, .int .i64 12, .int .i64 0, .int .i64 0, .string ⟨#[]⟩, .string ⟨#[120]⟩, .int .i64 0, .string ⟨#[]⟩, .int .i64 5, .int .i64 0, .int .i64 0, .string ⟨#[]⟩, .string ⟨#[]⟩, .int .i64 (1 + d), .string ⟨#[]⟩, .int .i64 6, .int .i64 0, .int .i64 0, .string ⟨#[]⟩, .string ⟨#[]⟩, .int .i64 (-(1 + d)), .string ⟨#[]⟩, .int .i64 6, .int .i64 0, .int .i64 0, .string ⟨#[]⟩, .string ⟨#[]⟩, .int .i64 (4294967295 + (1 + d)), .string ⟨#[]⟩, .int .i64 6, .int .i64 0, .int .i64 0, .string ⟨#[97, 46, 46, 98]⟩, .string ⟨#[]⟩, .int .i64 0, .string ⟨#[]⟩, .int .i64 16, .int .i64 0, .int .i64 0, .string ⟨#[]⟩, .string T, .int .i64 0, .string ⟨#[]⟩, .int .i64 16, .int .i64 0, .int .i64 (1 + d), .string ⟨#[]⟩, .string ⟨#[]⟩, .int .i64 0, .string ⟨#[]⟩, .int .i64 49, .int .i64 0, .int .i64 0, .string ⟨#[97]⟩, .string ⟨#[]⟩, .int .i64 0] 24)).heap.size r) := Boxed.new _ r
  have BW : Hid (Below x1.heap.size x1 ((x1.alloc (.cells cs 5)).alloc (.cells #[.string ⟨#[]⟩, .int .i64 0, .int .i64 0, .int .i64 0, .string ⟨#[]⟩, .string ⟨#[]⟩, .int .i64 0, .string ⟨#[]⟩, .int .i64 41, .int .i64 0, .int .i64 0, .string ⟨#[]⟩, .string ⟨#[]⟩, .int .i64 0, .string ⟨#[]⟩, .int .i64 (-(1 + d)), .int .i64 0, .int .i64 0, .string ⟨#[]⟩, .string ⟨#[]⟩, .int .i64 0, .string ⟨#[65]⟩, .int .i64 1, .int .i64 0, .int .i64 0, .string ⟨#[]⟩, .string ⟨#[]⟩, .int .i64 0, .string ⟨#[]⟩, .int .i64 1, .int .i64 (-(1 + d)), .int .i64 0, .string ⟨#[]⟩, .string ⟨#[]⟩, .int .i64 0, .string ⟨#[]⟩, .int .i64 1, .int .i64 (1048576 + (1 + d)), .int .i64 0, .string ⟨#[]⟩, .string ⟨#[]⟩, .int .i64 0, .string ⟨#[]⟩, .int .i64 1, .int .i64 0, .int .i64 (-(1 + d)), .string ⟨#[]⟩, .string ⟨#[]⟩, .int .i64 0, .string ⟨#[]⟩, .int .i64 1, .int .i64 0, .int .i64 (4294967295 + (1 + d)), .string ⟨#[]⟩, .string ⟨#[]⟩, .int .i64 0, .string ⟨#[]⟩, .int .i64 1, .int .i64 0, .int .i64 0, .string ⟨#[97]⟩, .string ⟨#[]⟩, .int .i64 0, .string ⟨#[]⟩, .int .i64 1, .int .i64 0, .int .i64 0, .string ⟨#[]⟩, .string ⟨#[]⟩, .int .i64 (1 + d), .string ⟨#[]⟩, .int .i64 2, .int .i64 0, .int .i64 0, .string ⟨#[65]⟩, .string ⟨#[]⟩, .int .i64 0, .string ⟨#[]⟩, .int .i64 2, .int .i64 0, .int .i64 (1 + d), .string ⟨#[]⟩, .string ⟨#[]⟩, .int .i64 0, .string ⟨#[]⟩, .int .i64 12, .int .i64 0, .int .i64 0, .string ⟨#[]⟩, .string ⟨#[120]⟩, .int .i64 0, .string ⟨#[]⟩, .int .i64 5, .int .i64 0, .int .i64 0, .string ⟨#[]⟩, .string ⟨#[]⟩, .int .i64 (1 + d), .string ⟨#[]⟩, .int .i64 6, .int .i64 0, .int .i64 0, .string ⟨#[]⟩, .string ⟨#[]⟩, .int .i64 (-(1 + d)), .string ⟨#[]⟩, .int .i64 6, .int .i64 0, .int .i64 0, .string ⟨#[]⟩, .string ⟨#[]⟩, .int .i64 (4294967295 + (1 + d)), .string ⟨#[]⟩, .int .i64 6, .int .i64 0, .int .i64 0, .string ⟨#[97, 46, 46, 98]⟩, .string ⟨#[]⟩, .int .i64 0, .string ⟨#[]⟩, .int .i64 16, .int .i64 0, .int .i64 0, .string ⟨#[]⟩, .string T, .int .i64 0, .string ⟨#[]⟩, .int .i64 16, .int .i64 0, .int .i64 (1 + d), .string ⟨#[]⟩, .string ⟨#[]⟩, .int .i64 0, .string ⟨#[]⟩, .int .i64 49, .int .i64 0, .int .i64 0, .string ⟨#[97]⟩, .string ⟨#[]⟩, .int .i64 0] 24))) := ((Below.refl _ _).alloc (Nat.le_refl _) _).alloc (by simp) _
  have c0 := hcell 0 (by omega)
  have c1 := hcell 1 (by omega)
  have c2 := hcell 2 (by omega)
  have c3 := hcell 3 (by omega)
  have c4 := hcell 4 (by omega)
  have c5 := hcell 5 (by omega)
  have c6 := hcell 6 (by omega)
  have hcl : Hid (∀ (w' : World) (c : Nat), Boxed w' c r → (w'.cell? ⟨c, 0, none⟩ = some (.string r.n) ∧ w'.cell? ⟨c, 1, none⟩ = some (.int .i64 r.ty) ∧ w'.cell? ⟨c, 2, none⟩ = some (.int .i64 r.ttl) ∧ w'.cell? ⟨c, 3, none⟩ = some (.int .i64 r.ad) ∧ w'.cell? ⟨c, 4, none⟩ = some (.string r.tg) ∧ w'.cell? ⟨c, 5, none⟩ = some (.string r.tx) ∧ w'.cell? ⟨c, 6, none⟩ = some (.int .i64 r.se))) := fun w' c h => ⟨h.cell 0, h.cell 1, h.cell 2, h.cell 3, h.cell 4, h.cell 5, h.cell 6⟩
  obtain ⟨n, ty, ttl, ad, tg, tx, se⟩ := r
  simp only [cellsR, rv, Nat.add_zero, List.getElem?_cons_zero, List.getElem?_cons_succ] at *
  clear hcell hfl hr hno hn1 hn2 hT
  have hsz : ((x1.alloc (.cells cs 5)).alloc (.cells #[.string ⟨#[]⟩, .int .i64 0, .int .i64 0, .int .i64 0, .string ⟨#[]⟩, .string ⟨#[]⟩, .int .i64 0, .string ⟨#[]⟩, .int .i64 41, .int .i64 0, .int .i64 0, .string ⟨#[]⟩, .string ⟨#[]⟩, .int .i64 0, .string ⟨#[]⟩, .int .i64 (-(1 + d)), .int .i64 0, .int .i64 0, .string ⟨#[]⟩, .string ⟨#[]⟩, .int .i64 0, .string ⟨#[65]⟩, .int .i64 1, .int .i64 0, .int .i64 0, .string ⟨#[]⟩, .string ⟨#[]⟩, .int .i64 0, .string ⟨#[]⟩, .int .i64 1, .int .i64 (-(1 + d)), .int .i64 0, .string ⟨#[]⟩, .string ⟨#[]⟩, .int .i64 0, .string ⟨#[]⟩, .int .i64 1, .int .i64 (1048576 + (1 + d)), .int .i64 0, .string ⟨#[]⟩, .string ⟨#[]⟩, .int .i64 0, .string ⟨#[]⟩, .int .i64 1, .int .i64 0, .int .i64 (-(1 + d)), .string ⟨#[]⟩, .string ⟨#[]⟩, .int .i64 0, .string ⟨#[]⟩, .int .i64 1, .int .i64 0, .int .i64 (4294967295 + (1 + d)), .string ⟨#[]⟩, .string ⟨#[]⟩, .int .i64 0, .string ⟨#[]⟩, .int .i64 1, .int .i64 0, .int .i64 0, .string ⟨#[97]⟩, .string ⟨#[]⟩, .int .i64 0, .string ⟨#[]⟩, .int .i64 1, .int .i64 0, .int .i64 0, .string ⟨#[]⟩, .string ⟨#[]⟩, .int .i64 (1 + d), .string ⟨#[]⟩, .int .i64 2, .int .i64 0, .int .i64 0, .string ⟨#[65]⟩, .string ⟨#[]⟩, .int .i64 0, .string ⟨#[]⟩, .int .i64 2, .int .i64 0, .int .i64 (1 + d), .string ⟨#[]⟩, .string ⟨#[]⟩, .int .i64 0, .string ⟨#[]⟩, .int .i64 12, .int .i64 0, .int .i64 0, .string ⟨#[]⟩, .string ⟨#[120]⟩, .int .i64 0, .string ⟨#[]⟩, .int .i64 5, .int .i64 0, .int .i64 0, .string ⟨#[]⟩, .string ⟨#[]⟩, .int .i64 (1 + d), .string ⟨#[]⟩, .int .i64 6, .int .i64 0, .int .i64 0, .string ⟨#[]⟩, .string ⟨#[]⟩, .int .i64 (-(1 + d)), .string ⟨#[]⟩, .int .i64 6, .int .i64 0, .int .i64 0, .string ⟨#[]⟩, .string ⟨#[]⟩, .int .i64 (4294967295 + (1 + d)), .string ⟨#[]⟩, .int .i64 6, .int .i64 0, .int .i64 0, .string ⟨#[97, 46, 46, 98]⟩, .string ⟨#[]⟩, .int .i64 0, .string ⟨#[]⟩, .int .i64 16, .int .i64 0, .int .i64 0, .string ⟨#[]⟩, .string T, .int .i64 0, .string ⟨#[]⟩, .int .i64 16, .int .i64 0, .int .i64 (1 + d), .string ⟨#[]⟩, .string ⟨#[]⟩, .int .i64 0, .string ⟨#[]⟩, .int .i64 49, .int .i64 0, .int .i64 0, .string ⟨#[97]⟩, .string ⟨#[]⟩, .int .i64 0] 24)).heap.size = x1.heap.size + 1 + 1 := by simp
  go_wp2_with fail
  generalize ((x1.alloc (.cells cs 5)).alloc (.cells #[.string ⟨#[]⟩, .int .i64 0, .int .i64 0, .int .i64 0, .string ⟨#[]⟩, .string ⟨#[]⟩, .int .i64 0, .string ⟨#[]⟩, .int .i64 41, .int .i64 0, .int .i64 0, .string ⟨#[]⟩, .string ⟨#[]⟩, .int .i64 0, .string ⟨#[]⟩, .int .i64 (-(1 + d)), .int .i64 0, .int .i64 0, .string ⟨#[]⟩, .string ⟨#[]⟩, .int .i64 0, .string ⟨#[65]⟩, .int .i64 1, .int .i64 0, .int .i64 0, .string ⟨#[]⟩, .string ⟨#[]⟩, .int .i64 0, .string ⟨#[]⟩, .int .i64 1, .int .i64 (-(1 + d)), .int .i64 0, .string ⟨#[]⟩, .string ⟨#[]⟩, .int .i64 0, .string ⟨#[]⟩, .int .i64 1, .int .i64 (1048576 + (1 + d)), .int .i64 0, .string ⟨#[]⟩, .string ⟨#[]⟩, .int .i64 0, .string ⟨#[]⟩, .int .i64 1, .int .i64 0, .int .i64 (-(1 + d)), .string ⟨#[]⟩, .string ⟨#[]⟩, .int .i64 0, .string ⟨#[]⟩, .int .i64 1, .int .i64 0, .int .i64 (4294967295 + (1 + d)), .string ⟨#[]⟩, .string ⟨#[]⟩, .int .i64 0, .string ⟨#[]⟩, .int .i64 1, .int .i64 0, .int .i64 0, .string ⟨#[97]⟩, .string ⟨#[]⟩, .int .i64 0, .string ⟨#[]⟩, .int .i64 1, .int .i64 0, .int .i64 0, .string ⟨#[]⟩, .string ⟨#[]⟩, .int .i64 (1 + d), .string ⟨#[]⟩, .int .i64 2, .int .i64 0, .int .i64 0, .string ⟨#[65]⟩, .string ⟨#[]⟩, .int .i64 0, .string ⟨#[]⟩, .int .i64 2, .int .i64 0, .int .i64 (1 + d), .string ⟨#[]⟩, .string ⟨#[]⟩, .int .i64 0, .string ⟨#[]⟩, .int .i64 12, .int .i64 0, .int .i64 0, .string ⟨#[]⟩, .string ⟨#[120]⟩, .int .i64 0, .string ⟨#[]⟩, .int .i64 5, .int .i64 0, .int .i64 0, .string ⟨#[]⟩, .string ⟨#[]⟩, .int .i64 (1 + d), .string ⟨#[]⟩, .int .i64 6, .int .i64 0, .int .i64 0, .string ⟨#[]⟩, .string ⟨#[]⟩, .int .i64 (-(1 + d)), .string ⟨#[]⟩, .int .i64 6, .int .i64 0, .int .i64 0, .string ⟨#[]⟩, .string ⟨#[]⟩, .int .i64 (4294967295 + (1 + d)), .string ⟨#[]⟩, .int .i64 6, .int .i64 0, .int .i64 0, .string ⟨#[97, 46, 46, 98]⟩, .string ⟨#[]⟩, .int .i64 0, .string ⟨#[]⟩, .int .i64 16, .int .i64 0, .int .i64 0, .string ⟨#[]⟩, .string T, .int .i64 0, .string ⟨#[]⟩, .int .i64 16, .int .i64 0, .int .i64 (1 + d), .string ⟨#[]⟩, .string ⟨#[]⟩, .int .i64 0, .string ⟨#[]⟩, .int .i64 49, .int .i64 0, .int .i64 0, .string ⟨#[97]⟩, .string ⟨#[]⟩, .int .i64 0] 24)) = y at *
  rw [hsz] at BX
  have BA := (Below.refl y.heap.size y).alloc (Nat.le_refl _) (.cells #[.string n, .int .i64 ty, .int .i64 ttl, .int .i64 ad, .string tg, .string tx, .int .i64 se] 24)
  refine (P1.out _ (((HL.out.below B1.out).below BW.out).below BA)).mono ?_; rintro e x3 ⟨rfl, hb3⟩
  have X3 : Hid (Boxed x3 (x1.heap.size + 1 + 1) ⟨n, ty, ttl, ad, tg, tx, se⟩) := BX.out.below hb3
  have B3 : Hid (Below w.heap.size w x3) := bel_trans (bel_trans B1.out BW.out) (bel_trans BA hb3)
  clear c0 c1 c2 c3 c4 c5 c6 BX BW B1 BA hb3 hsz hmk hcv
  go_wp2_with fail
  refine (P2.out _ (HL.out.below B3.out)).mono ?_; rintro e x4 ⟨rfl, hb4⟩
  have X4 : Hid (Boxed x4 (x1.heap.size + 1 + 1) ⟨n, ty, ttl, ad, tg, tx, se⟩) := X3.out.below hb4
  have B4 : Hid (Below w.heap.size w x4) := bel_trans B3.out hb4
  clear X3 B3 hb4
  go_wp2_with fail
  have BA := (Below.refl x4.heap.size x4).alloc (Nat.le_refl _) (.cells #[.string ⟨#[65]⟩, .int .i64 0] 47)
  refine (rrPut_no 0 (some ⟨x4.heap.size, 0, none⟩) 1 1 [([65], 0)] ⟨⟨#[97]⟩, 1, 0, 0, E0, E0, 0⟩ _ rfl (by decide) (by decide) (by decide) (by decide) (by decide) (kn_one x4 _) ((HL.out.below B4.out).below BA) known_no).mono ?_; rintro e x5 ⟨rfl, hb5⟩
  have X5 : Hid (Boxed x5 (x1.heap.size + 1 + 1) ⟨n, ty, ttl, ad, tg, tx, se⟩) := (X4.out.below BA).below hb5
  have B5 : Hid (Below w.heap.size w x5) := bel_trans B4.out (bel_trans BA hb5)
  clear X4 B4 hb5 BA
  obtain ⟨c0, c1, c2, c3, c4, c5, c6⟩ := hcl.out _ _ X5.out
  go_wp2_with fail
  refine (P4.out _).mono ?_; rintro e x6 ⟨rfl, hb6⟩
  have B6 := bel_trans B5.out hb6
  clear hb6 c0 c1 c2 c3 c4 c5 c6 X5 B5
  go_wp2_with (go_at_call 14; refine (num_any _ _).mono ?_; rintro e w7 ⟨rfl, rfl⟩)
  go_ret
  exact ⟨rfl, B6⟩

theorem own : ownKnob Tryd.prog.godebug = none := by kernel_rfl
theorem laidOut : laidOutB Tryd.prog = true := by kernel_rfl
theorem gTab : Tryd.prog.globalNamed "pinfold/rr.soaTimes" = some 0 := by kernel_rfl
theorem gTabType : (Tryd.prog.globals[0]?).map (·.type) = some 84 := by kernel_rfl
theorem cellsTab : Tryd.prog.cellsOf 84 = 4 := by kernel_rfl
theorem cellsInt : Tryd.prog.cellsOf 3 = 1 := by kernel_rfl
/-- What the row's list gives. -/
theorem table {W : World} (h : laidMetH Tryd.prog Rows.rrFormsRow.laid W) : Laid W := by
  have t : Lib.TabIs Tryd.prog W "pinfold/rr.soaTimes" .i64 [60, 60, 600, 60] := Lib.tabIs_of_head (rest := []) gTab gTabType Tryd.underlying84 Tryd.underlying3 cellsInt cellsTab h
  exact ⟨t.cell gTab 0 (by decide), t.cell gTab 1 (by decide), t.cell gTab 2 (by decide), t.cell gTab 3 (by decide)⟩
/-- A world for the witness: the table holds what its initialiser lays. -/
noncomputable def laidWorld (os : Os) : World :=
  { World.holding Tryd.prog os ⟨#[], #[], []⟩ with heap := (World.holding Tryd.prog os ⟨#[], #[], []⟩).heap.modify 0 fun
      | .cells _ t frozen => .cells #[.int .i64 60, .int .i64 60, .int .i64 600, .int .i64 60] t frozen
      | o => o }
theorem laid_met (os : Os) : laidMet Tryd.prog Rows.rrFormsRow.laid ((laidWorld os).forCall (fun _ _ => 0) ⟨#[], #[.int .i64 0, .int .i64 0], []⟩).memory :=
  laidMet_of_run' 8 (by kernel_rfl) (by kernel_rfl)
theorem reads (os : Os) {H : Type} (enc : TypeId × Value → H) : ∃ places, DataW.whole enc Tryd.prog ((laidWorld os).forCall (fun _ _ => 0) ⟨#[], #[.int .i64 0, .int .i64 0], []⟩).memory Tryd.f5.params.toList Rows.rrFormsSpec.vars false (#[.int .i64 0, .int .i64 0] : Array Value).toList 8 = some ([.lit (.int .i64 0), .lit (.int .i64 0)], [], places) :=
  ⟨[], by kernel_rfl⟩

/-! ### The row's step -/
set_option maxRecDepth 100000 in
theorem lifted (os : Os) (started : os.Started) (H : Type) (enc : TypeId × Value → H) (F : Stop.Interp) :
    ReturnsInHanded {} Tryd.checked os 5 .any ((OpenSpec.ofChange Rows.rrFormsSpec).preRow enc Tryd.prog Tryd.f5 Rows.rrFormsRow.domain false Rows.rrFormsRow.laid) (((OpenSpec.ofChange Rows.rrFormsSpec).at F).post enc Tryd.prog Tryd.f5 false true false false) := by
  obtain ⟨places, hx⟩ := reads os enc
  refine returnsInHanded_of_row (C := Tryd.checked) (s := OpenSpec.ofChange Rows.rrFormsSpec) own started (by kernel_rfl) Tryd.func5
    (witness_row_at (enc := enc) (C := Tryd.checked) false (laidWorld os) #[.int .i64 0, .int .i64 0] rfl (by kernel_rfl) (by kernel_rfl) (by kernel_rfl)
      (OpenSpec.preRow_of_cond 8 hx (by kernel_rfl) (fun k hk => by cases hk) (by kernel_rfl) (laid_met os))) ?_
  intro W base args ds gs before hval0 hW _ hcond hsz0 hL _ _
  have hLaid := table hL
  have hval : ∀ (j : Nat) t v, Tryd.f5.params[j]? = some t → args[j]? = some v → Value.okWide Tryd.prog W .any base t v := hval0
  have hsz : (DataW.weightsEach Tryd.prog (Tryd.f5.params.toList ++ Rows.rrFormsSpec.plain.varTypes Tryd.prog) (ds ++ gs)).all (· ≤ reachBytes) = true := hsz0
  have hW' := hW
  obtain ⟨p, q, hA0, hV, rfl, _, _⟩ := hW
  have hA : DataW.TrodAll enc Tryd.prog W 0 (fun _ => true) true Tryd.f5.params.toList args.toList ds p := hA0
  rw [Tryd.params5] at hA hval hsz
  obtain ⟨v0, vs0, d0, ds0, p0, q0, hargs, rfl, rfl, h0, r0⟩ := trodAll_cons hA
  obtain ⟨v1, vs1, d1, ds1, p1, q1, rfl, rfl, rfl, h1, r1⟩ := trodAll_cons r0
  obtain ⟨rfl, rfl, rfl⟩ := trodAll_nil r1
  obtain rfl : args = #[v0, v1] := by cases args; simp_all
  obtain ⟨rfl, rfl⟩ := trodVars_none hV
  obtain ⟨a0, rfl, rfl, rfl, w0⟩ := open_int Tryd.underlying3 (hval 0 3 v0 rfl rfl) h0
  obtain ⟨a1, rfl, rfl, rfl, w1⟩ := open_int Tryd.underlying3 (hval 1 3 v1 rfl rfl) h1
  clear hA0 hval0 hsz0 hcond
  refine (walk a0 a1 W w0 w1 hLaid).mono fun e W' ⟨he, bel⟩ => ?_
  subst he
  exact ⟨_, rfl, _, _, _, [], [], [], hW', trodAll_mk1 (shut_bool Tryd.underlying4 _), (trodAll_cons_mk (shut_int Tryd.underlying3 w0) (trodAll_cons_mk (shut_int Tryd.underlying3 w1) trodAll_mk0)), rfl, bel.frame _, fun h => by cases h⟩

theorem said : Rows.RrFormsSaid :=
  OpenClaim.holds_of_cond 5 Tryd.f5 rfl rfl rfl rfl rfl rfl rfl ⟨rfl, rfl, rfl, rfl, rfl⟩ rfl rfl rfl rfl rfl (by kernel_rfl) Tryd.func5 (by kernel_rfl)
    (of_decide_eq_true (by kernel_rfl)) (by unfold Func.isWrapper; first | (rw [if_pos (by decide +kernel)]; kernel_rfl) | (rw [if_neg (by decide +kernel)]; exact ⟨rfl, rfl⟩))
    (fun os started H enc _ F => by rw [OpenClaim.pre_eq_preRow]; exact lifted os started H enc F)
/-- No parameter wants a stand-in. -/
theorem plain (f : FuncId) (fn : Func) (hf : Tryd.pinned.checked.prog.funcNamed "pinfold/pinfoldlaw4.RrForms" = some f) (hfn : Tryd.pinned.checked.prog.funcs[f]? = some fn) :
    false = Tryd.pinned.checked.prog.looks [] ∧ ∀ (j : Nat) t, fn.params[j]? = some t → Tryd.pinned.checked.prog.wantsStandIn t = false := by
  obtain rfl : f = 5 := Option.some.inj ((show Tryd.prog.funcNamed "pinfold/pinfoldlaw4.RrForms" = some 5 by kernel_rfl).symm.trans hf) |>.symm
  obtain rfl : fn = Tryd.f5 := (Option.some.inj (Tryd.func5.symm.trans hfn)).symm
  refine ⟨by kernel_rfl, fun j t ht => ?_⟩
  rw [Tryd.params5] at ht
  have hm := Array.mem_of_getElem? ht
  simp at hm
  subst hm
  exact (show Tryd.prog.wantsStandIn 3 = false by kernel_rfl)
/-- The given statement. -/
theorem card : Rows.RrFormsCardSaid :=
  Claim7.holds_tied_plain_at .later [] _ _ _ _ said (fun _ h => by cases h) (by kernel_rfl) (fun _ h => by cases h) rrForms_row_tie rfl ⟨rfl, rfl⟩ (by kernel_rfl) rfl plain (by kernel_rfl)

end rrForms
theorem rrForms_proved : Rows.RrFormsCardSaid := rrForms.card
end Go.Proofs.YtgidbcjeaeiinaaDoor
