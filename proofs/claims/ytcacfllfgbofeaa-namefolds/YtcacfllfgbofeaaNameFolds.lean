/-
  Proved here: pinfoldlaw2.NameFolds answers true for every text (P2.1: folding turns just the great letters, keeps lengths, and folded twice is folded once).
  Conditions: none but the row's own.
-/
import Derived.Test.YtcacfllfgbofeaaAwake2
import Derived.OpenShut
import Derived.ShutString
import Derived.ChangeOld
import Derived.SizedLaws
import Derived.Deep.QuietTactic
import Derived.BigQuiet
import Derived.WalkSmall
namespace Go.Proofs.Ytcacfllfgbofeaa.nameFolds
open Go.ChangeShapes Go.WideShapes Go.ChangeAt Go.RowKit Go.Pin Go.PlainAid
open Go.ChangeMaps (open_string shut_string)

theorem folded (s : ByteArray) : ∃ T, mk (foldL (bs s)) = T ∧ T.size = s.size ∧ mk (foldL (bs T)) = T ∧ ∀ i, i < s.size → bt T i = foldByte (bt s i) := by
  refine ⟨_, rfl, ?_, ?_, ?_⟩
  · rw [size_mk]; simp [foldL, length_bs]
  · rw [bs_mk, foldL_twice]
  · intro i hi
    have hz : (mk (foldL (bs s))).size = s.size := by rw [size_mk]; simp [foldL, length_bs]
    obtain ⟨c, hc, hb⟩ := bt_bs s i hi
    obtain ⟨d, hd, hb2⟩ := bt_bs (mk (foldL (bs s))) i (by rw [hz]; exact hi)
    rw [bs_mk] at hd
    simp only [foldL, List.getElem?_map, hc, Option.map_some, Option.some.injEq] at hd
    rw [hb2, hb, ← hd, foldC_byte]

theorem walk (a0 : ByteArray) (w : World) (w0 : a0.size ≤ 140737488351232) :
    Calls Try.prog 7 #[.string a0] w fun e w' => e = .returned (.bool true) ∧ Below w.heap.size w w' := by
  have m0 : Hid (a0.size ≤ maxLen) := by unfold Hid maxLen; omega
  obtain ⟨T, hT, hz, hT2, hbt⟩ := folded a0
  have m1 : Hid (T.size ≤ maxLen) := by unfold Hid maxLen; omega
  have HT : Hid (mk (foldL (bs a0)) = T) := hT
  have HT2 : Hid (mk (foldL (bs T)) = T) := hT2
  have HB : Hid (∀ i, i < a0.size → bt T i = foldByte (bt a0 i)) := hbt
  have hz1 : ((T.size : Int) != (a0.size : Int)) = false := by rw [hz]; simp
  have hz2 : T.size ≤ a0.size := by omega
  have hz3 : a0.size ≤ T.size := by omega
  have hg1 := get_bt a0
  have hg2 := get_bt T
  clear hT hz hT2 hbt
  go_enter Try.func7, Try.ntmps7
  go_wp2_with fail
  refine (awake_yes _).mono ?_; rintro e x1 ⟨rfl, B⟩
  go_wp2_with fail
  refine (fold_is _ _ _ m0.out HT.out).mono ?_; rintro e x2 ⟨rfl, hb⟩
  replace B := bel_trans B hb
  clear hb
  go_wp2_with fail
  refine (fold_is _ _ _ m1.out HT2.out).mono ?_; rintro e x3 ⟨rfl, hb⟩
  replace B := bel_trans B hb
  clear hb
  go_wp2_with fail
  go_loopw [4] (fun i wr => ∃ j : Nat, j ≤ a0.size ∧ i = .int .i64 j ∧ Below w.heap.size w wr) (fun i _ => a0.size - (intOf i).toNat)
  case atStart => exact ⟨0, Nat.zero_le _, rfl, B⟩
  case round =>
    clear B
    obtain ⟨j, hj, rfl, hnx⟩ := hrel
    by_cases hlt : j < a0.size
    · have hbj := HB.out j hlt
      have hb0 := bt_nonneg a0 j
      have hb2 := bt_le a0 j
      have hltT : j < T.size := by omega
      generalize hx : bt a0 j = x at *
      generalize hy : bt T j = y at *
      by_cases hg : 65 ≤ x ∧ x ≤ 90
      · obtain ⟨g1, g2⟩ := hg
        rw [foldByte_yes g1 g2] at hbj
        subst hbj
        go_wp2_with fail
        go_quiet (fail)
        go_wp2
        go_roundw
        case rel => exact ⟨j + 1, by omega, by go_num, below_drewN hnx _⟩
        case measure => simp [intOf]; omega
      · rw [foldByte_no (by omega)] at hbj
        subst hbj
        rcases (show y < 65 ∨ 90 < y by omega) with hg | hg
        · have hd : decide (65 ≤ y) = false := by simp; omega
          go_wp2_with fail
          go_quiet (fail)
          go_wp2
          go_roundw
          case rel => exact ⟨j + 1, by omega, by go_num, below_drewN hnx _⟩
          case measure => simp [intOf]; omega
        · have hd : decide (y ≤ 90) = false := by simp; omega
          go_wp2_with fail
          go_quiet (fail)
          go_wp2
          go_roundw
          case rel => exact ⟨j + 1, by omega, by go_num, below_drewN hnx _⟩
          case measure => simp [intOf]; omega
    · obtain rfl : j = a0.size := by omega
      go_wp2_with (go_at_call 20; refine (num_any _ _).mono ?_; rintro e w3 ⟨rfl, rfl⟩)
      go_ret
      exact ⟨rfl, hnx⟩

theorem own : ownKnob Try.prog.godebug = none := by kernel_rfl
theorem laidOut : laidOutB Try.prog = true := by kernel_rfl

/-! ### The row's step -/
set_option maxRecDepth 100000 in
theorem lifted (os : Os) (started : os.Started) (H : Type) (enc : TypeId × Value → H) :
    ReturnsInHanded {} Try.checked os 7 .any (Rows.nameFoldsSpec.pre6 enc Try.prog Try.f7 Rows.nameFoldsRow.domain false) (Rows.nameFoldsSpec.post enc Try.prog Try.f7 false true false false) := by
  refine returnsInHanded_of_change_sized (C := Try.checked) own started (by kernel_rfl) Try.func7
    (ChangeSpec.witness6 (enc := enc) (C := Try.checked) false ⟨#[], #[.string ByteArray.empty], []⟩ 8 (by kernel_rfl) (by kernel_rfl) (by kernel_rfl) (by kernel_rfl)) ?_
  intro W base args ds gs before hval0 hW _ hsz0 _
  have hval : ∀ (j : Nat) t v, Try.f7.params[j]? = some t → args[j]? = some v → Value.okWide Try.prog W .any base t v := hval0
  have hsz : (DataW.weightsEach Try.prog (Try.f7.params.toList ++ Rows.nameFoldsSpec.plain.varTypes Try.prog) (ds ++ gs)).all (· ≤ reachBytes) = true := hsz0
  have hW' := hW
  obtain ⟨p, q, hA0, hV, rfl, _, _⟩ := hW
  have hA : DataW.TrodAll enc Try.prog W 0 (fun _ => true) true Try.f7.params.toList args.toList ds p := hA0
  rw [Try.params7] at hA hval hsz
  obtain ⟨v0, vs0, d0, ds0, p0, q0, hargs, rfl, rfl, h0, r0⟩ := trodAll_cons hA
  obtain ⟨rfl, rfl, rfl⟩ := trodAll_nil r0
  obtain rfl : args = #[v0] := by cases args; simp_all
  obtain ⟨rfl, rfl⟩ := trodVars_none hV
  obtain ⟨a0, rfl, rfl, rfl, w0⟩ := open_string Try.underlying9 (hval 0 9 v0 rfl rfl) h0
  have s0 : a0.size ≤ 140737488351232 := by have := sized_string hsz (j := 0) (t := 9) rfl rfl; simpa [reachBytes] using this
  clear hA0 hval0 hsz0
  refine (walk a0 W s0).mono fun e W' ⟨he, bel⟩ => ?_
  subst he
  exact ⟨_, rfl, _, _, _, [], [], [], hW', trodAll_mk1 (shut_bool Try.underlying4 _), (trodAll_cons_mk (shut_string Try.underlying9 w0) trodAll_mk0), rfl, bel.frame _, fun h => by cases h⟩

theorem over : Rows.nameFoldsRow.holds Try.pinned (OpenSpec.ofChange Rows.nameFoldsSpec) :=
  OpenClaim.holds_of_wide 7 Try.f7 rfl rfl rfl rfl rfl rfl rfl ⟨rfl, rfl, rfl, rfl, rfl⟩ rfl rfl rfl rfl rfl (by kernel_rfl) Try.func7 (by kernel_rfl)
    (of_decide_eq_true (by kernel_rfl)) (by unfold Func.isWrapper; first | (rw [if_pos (by decide +kernel)]; kernel_rfl) | (rw [if_neg (by decide +kernel)]; exact ⟨rfl, rfl⟩))
    (fun os started H enc _ => lifted os started H enc)

/-- The given statement. -/
theorem proved : Rows.NameFoldsSaid := over

end Go.Proofs.Ytcacfllfgbofeaa.nameFolds
namespace Go.Proofs.Ytcacfllfgbofeaa
theorem nameFolds_proved : Rows.NameFoldsSaid := nameFolds.proved
#print axioms nameFolds_proved
end Go.Proofs.Ytcacfllfgbofeaa
