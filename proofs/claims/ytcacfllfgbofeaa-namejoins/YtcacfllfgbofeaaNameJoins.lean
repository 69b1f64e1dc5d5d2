/-
  Proved here: pinfoldlaw2.NameJoins answers true for every text (P2.2: labels with points between them are the name they came from).
  Conditions: none but the row's own.
-/
import Derived.Test.YtcacfllfgbofeaaAwake2
import Derived.Test.YtcacfllfgbofeaaNameMore
import Derived.OpenShut
import Derived.ShutString
import Derived.ChangeOld
import Derived.SizedLaws
namespace Go.Proofs.Ytcacfllfgbofeaa.nameJoins
open Go.ChangeShapes Go.WideShapes Go.ChangeAt Go.RowKit Go.Pin Go.PlainAid
open Go.ChangeMaps (open_string shut_string)

theorem walk_no (a0 : ByteArray) (w : World) (w0 : a0.size ≤ maxLen) (h : mayL (bs a0) = false) :
    Calls Try.prog 6 #[.string a0] w fun e w' => e = .returned (.bool true) ∧ Below w.heap.size w w' := by
  have H : Hid (mayL (bs a0) = false) := h
  have m0 : Hid (a0.size ≤ maxLen) := w0
  clear h w0
  go_enter Try.func6, Try.ntmps6
  go_wp2_with fail
  refine (awake_yes _).mono ?_; rintro e x1 ⟨rfl, B⟩
  go_wp2_with fail
  refine (labels_is _ [] _ m0.out (labsL_no H.out)).mono ?_; rintro e x2 ⟨⟨v, rfl, ho⟩, hb⟩
  obtain ⟨a, cap, rfl⟩ := ho.form
  replace B := bel_trans B hb
  clear hb ho
  go_wp2_with fail
  refine (may_is _ _ _ m0.out H.out).mono ?_; rintro e x3 ⟨rfl, hb⟩
  replace B := bel_trans B hb
  clear hb
  go_wp2
  go_ret
  exact ⟨rfl, B⟩

theorem walk_root (a0 : ByteArray) (w : World) (h : a0.size = 0) :
    Calls Try.prog 6 #[.string a0] w fun e w' => e = .returned (.bool true) ∧ Below w.heap.size w w' := by
  have hb0 : bs a0 = [] := List.eq_nil_of_length_eq_zero (by rw [length_bs]; exact h)
  obtain rfl : a0 = ⟨#[]⟩ := bs_inj hb0
  clear h hb0
  go_enter Try.func6, Try.ntmps6
  go_wp2_with fail
  refine (awake_yes _).mono ?_; rintro e x1 ⟨rfl, B⟩
  go_wp2_with fail
  refine (labels_is _ [] _ (by decide) rfl).mono ?_; rintro e x2 ⟨⟨v, rfl, ho⟩, hb⟩
  obtain ⟨a, cap, rfl⟩ := ho.form
  replace B := bel_trans B hb
  clear hb ho
  go_wp2_with fail
  refine (may_is _ true _ (by decide) (by decide)).mono ?_; rintro e x3 ⟨rfl, hb⟩
  replace B := bel_trans B hb
  clear hb
  go_wp2
  go_rounds 1
  go_ret
  exact ⟨rfl, B⟩

set_option maxHeartbeats 800000 in
theorem walk_yes (a0 : ByteArray) (w : World) (w0 : a0.size ≤ maxLen) (h : mayL (bs a0) = true) (h0 : a0.size ≠ 0) :
    Calls Try.prog 6 #[.string a0] w fun e w' => e = .returned (.bool true) ∧ Below w.heap.size w w' := by
  have H : Hid (mayL (bs a0) = true) := h
  have m0 : Hid (a0.size ≤ maxLen) := w0
  have hne : bs a0 ≠ [] := by intro e; apply h0; rw [← length_bs, e]; rfl
  obtain ⟨ls, hls⟩ : ∃ ls, labsL (bs a0) = ls := ⟨_, rfl⟩
  have HL : Hid (labsL (bs a0) = ls) := hls
  have Hne : Hid (ls ≠ []) := by rw [← hls]; exact labsL_ne h hne
  have hl8 : ls.length ≤ 8 := by rw [← hls]; exact labsL_len _
  have Hok : Hid (∀ x ∈ ls, okL x = true) := by intro x hx; rw [← hls] at hx; exact labsL_ok hx
  have HJ : Hid (mk (join ls) = a0) := by unfold Hid; rw [← hls, join_labs h, mk_bs]
  clear h w0 h0 hne hls
  go_enter Try.func6, Try.ntmps6
  go_wp2_with fail
  refine (awake_yes _).mono ?_; rintro e x1 ⟨rfl, B⟩
  go_wp2_with fail
  refine (labels_is _ _ _ m0.out HL.out).mono ?_; rintro e x2 ⟨⟨v, rfl, ho⟩, hb⟩
  have hb1 := B.size
  replace B := bel_trans B hb
  clear hb
  rcases ho.cases with ⟨_, he⟩ | ⟨g, cap, rfl, hn, hm, hg, hgs, hc, hf⟩
  · exact absurd he Hne.out
  have Hc : Hid (∀ j, j < ls.length → x2.cell? ⟨g, j, none⟩ = some (.string (mk (ls.getD j [])))) := hc
  clear hc hf ho
  go_wp2_with fail
  refine (may_is _ _ _ m0.out H.out).mono ?_; rintro e x3 ⟨rfl, hb⟩
  replace B := bel_trans B hb
  have HB : Hid (Below x2.heap.size x2 x3) := hb
  clear hb
  go_wp2_with fail
  go_loopw [4, 5] (fun t i wr => ∃ (j : Nat) (T : ByteArray), j ≤ ls.length ∧ i = .int .i64 j ∧ t = .string T ∧ Hid (T = mk (join (ls.take j))) ∧ Below w.heap.size w wr ∧ Below x2.heap.size x2 wr) (fun _ i _ => ls.length - (intOf i).toNat)
  case atStart => exact ⟨0, _, Nat.zero_le _, rfl, rfl, rfl, B, HB.out⟩
  case round =>
    clear B HB
    obtain ⟨j, T, hj, rfl, rfl, hT, hnx, hn2⟩ := hrel
    by_cases hlt : j < ls.length
    · have hce : wr.cell? ⟨g, j, none⟩ = some (.string (mk (ls.getD j []))) := (hn2.cell (by exact hgs)).trans (Hc.out j hlt)
      have hox := Hok.out _ (getD_mem ls j hlt)
      have hgw : g < wr.heap.size := Nat.lt_of_lt_of_le hgs hn2.size
      have Ht : Hid (ls.take (j + 1) = ls.take j ++ [ls.getD j []]) := take_succ' ls j hlt
      generalize ls.getD j [] = x at *
      have hx := okL_bounds hox
      have hxs : (mk x).size = x.length := size_mk x
      have Hox : Hid (okL x = true) := hox
      have hTs : T.size ≤ 72 := by
        have := join_len (ls.take j) (fun y hy => Hok.out y (List.mem_of_mem_take hy))
        rw [List.length_take, Nat.min_eq_left hj] at this
        rw [hT.out, size_mk]
        omega
      clear hox
      go_wp2_with fail
      refine (may_is (mk x) true _ (by rw [size_mk]; unfold maxLen; omega) (may_label Hox.out)).mono ?_; rintro e x4 ⟨rfl, hb⟩
      have hce4 : x4.cell? ⟨g, j, none⟩ = some (.string (mk x)) := (hb.cell (by exact hgw)).trans hce
      have B4 := bel_trans hnx hb
      have B5 := bel_trans hn2 hb
      clear hb hce
      by_cases hj0 : j = 0
      · subst hj0
        have HT : Hid (T ++ mk x = mk (join (ls.take 1))) := by
          unfold Hid
          rw [hT.out, Ht.out, List.take_zero]
          exact mk_append _ _
        go_wp2
        exact ⟨⟨1, _, by omega, rfl, rfl, HT.out, B4, B5⟩, by simp [intOf]; omega⟩
      · have hj1 : 0 < (j : Int) := by omega
        have HT : Hid (T ++ ⟨#[46]⟩ ++ mk x = mk (join (ls.take (j + 1)))) := by
          unfold Hid
          rw [hT.out, Ht.out, join_snoc _ _ (by intro e; rw [List.take_eq_nil_iff] at e; rcases e with e | e; exact hj0 e; exact Hne.out e), show (⟨#[46]⟩ : ByteArray) = mk [46] from rfl, mk_append, mk_append, List.append_assoc]
          rfl
        go_wp2
        exact ⟨⟨j + 1, _, by omega, by go_num, rfl, HT.out, B4, B5⟩, by simp [intOf]; omega⟩
    · obtain rfl : j = ls.length := by omega
      obtain rfl : T = a0 := by rw [hT.out, List.take_length, HJ.out]
      go_wp2_with (go_at_call 20; refine (num_any _ _).mono ?_; rintro e w3 ⟨rfl, rfl⟩)
      go_ret
      exact ⟨rfl, hnx⟩

theorem walk (a0 : ByteArray) (w : World) (w0 : a0.size ≤ 140737488351232) :
    Calls Try.prog 6 #[.string a0] w fun e w' => e = .returned (.bool true) ∧ Below w.heap.size w w' := by
  have m0 : a0.size ≤ maxLen := by unfold maxLen; omega
  cases h : mayL (bs a0) with
  | false => exact walk_no a0 w m0 h
  | true =>
    by_cases h0 : a0.size = 0
    · exact walk_root a0 w h0
    · exact walk_yes a0 w m0 h h0

theorem own : ownKnob Try.prog.godebug = none := by kernel_rfl
theorem laidOut : laidOutB Try.prog = true := by kernel_rfl

/-! ### The row's step -/
set_option maxRecDepth 100000 in
theorem lifted (os : Os) (started : os.Started) (H : Type) (enc : TypeId × Value → H) :
    ReturnsInHanded {} Try.checked os 6 .any (Rows.nameJoinsSpec.pre6 enc Try.prog Try.f6 Rows.nameJoinsRow.domain false) (Rows.nameJoinsSpec.post enc Try.prog Try.f6 false true false false) := by
  refine returnsInHanded_of_change_sized (C := Try.checked) own started (by kernel_rfl) Try.func6
    (ChangeSpec.witness6 (enc := enc) (C := Try.checked) false ⟨#[], #[.string ByteArray.empty], []⟩ 8 (by kernel_rfl) (by kernel_rfl) (by kernel_rfl) (by kernel_rfl)) ?_
  intro W base args ds gs before hval0 hW _ hsz0 _
  have hval : ∀ (j : Nat) t v, Try.f6.params[j]? = some t → args[j]? = some v → Value.okWide Try.prog W .any base t v := hval0
  have hsz : (DataW.weightsEach Try.prog (Try.f6.params.toList ++ Rows.nameJoinsSpec.plain.varTypes Try.prog) (ds ++ gs)).all (· ≤ reachBytes) = true := hsz0
  have hW' := hW
  obtain ⟨p, q, hA0, hV, rfl, _, _⟩ := hW
  have hA : DataW.TrodAll enc Try.prog W 0 (fun _ => true) true Try.f6.params.toList args.toList ds p := hA0
  rw [Try.params6] at hA hval hsz
  obtain ⟨v0, vs0, d0, ds0, p0, q0, hargs, rfl, rfl, h0, r0⟩ := trodAll_cons hA
  obtain ⟨rfl, rfl, rfl⟩ := trodAll_nil r0
  obtain rfl : args = #[v0] := by cases args; simp_all
  obtain ⟨rfl, rfl⟩ := trodVars_none hV
  obtain ⟨a0, rfl, rfl, rfl, w0⟩ := open_string Try.underlying9 (hval 0 9 v0 rfl rfl) h0
  have s0 : a0.size ≤ 140737488351232 := by have := sized_string hsz (j := 0) (t := 9) rfl rfl; simpa [reachBytes] using this
  clear hA0 hval0 hsz0
  refine (walk a0 W s0).mono fun e W' ⟨he, bel⟩ => ?_
  subst he
  exact ⟨_, rfl, _, _, _, [], [], [], hW', trodAll_mk1 (shut_bool Try.underlying4 _), (trodAll_cons_mk (shut_string Try.underlying9 w0) trodAll_mk0), rfl, bel.frame _, fun h => by cases h⟩

theorem over : Rows.nameJoinsRow.holds Try.pinned (OpenSpec.ofChange Rows.nameJoinsSpec) :=
  OpenClaim.holds_of_wide 6 Try.f6 rfl rfl rfl rfl rfl rfl rfl ⟨rfl, rfl, rfl, rfl, rfl⟩ rfl rfl rfl rfl rfl (by kernel_rfl) Try.func6 (by kernel_rfl)
    (of_decide_eq_true (by kernel_rfl)) (by unfold Func.isWrapper; first | (rw [if_pos (by decide +kernel)]; kernel_rfl) | (rw [if_neg (by decide +kernel)]; exact ⟨rfl, rfl⟩))
    (fun os started H enc _ => lifted os started H enc)

/-- The given statement. -/
theorem proved : Rows.NameJoinsSaid := over

end Go.Proofs.Ytcacfllfgbofeaa.nameJoins
namespace Go.Proofs.Ytcacfllfgbofeaa
theorem nameJoins_proved : Rows.NameJoinsSaid := nameJoins.proved
#print axioms nameJoins_proved
end Go.Proofs.Ytcacfllfgbofeaa
