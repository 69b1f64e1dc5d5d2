/-
  Proved here: pinfoldlaw11.ConfBack answers true for every configuration and number (who has a host reserved has that one; hosts and addresses come back) (P11.1, P11.2, T2).
  Conditions: none but the row's own.
-/
import Derived.Test.YtedbihckdbpebaaAwake11
import Derived.Test.YtedbihckdbpebaaConfOpen
import Derived.OpenShut
import Derived.ShutString
import Derived.ChangeOld
import Derived.SizedLaws
import Derived.Carry
namespace Go.Proofs.Ytedbihckdbpebaa.confBack
open Go.ChangeShapes Go.WideShapes Go.ChangeAt Go.RowKit Go.Pin Go.PlainAid Go.ChangeMaps

theorem usable_in {c : Cf} {h : Int} (hu : usableC c h = true) : c.fi ≤ h ∧ h ≤ c.la := by
  simp only [usableC, Bool.and_eq_true] at hu
  exact (betw_iff _ _ _).1 hu.1.2

set_option maxRecDepth 100000 in
set_option maxHeartbeats 1000000 in
theorem walk_no (c : Cf) (p : CPl) (h : Int) (w : World) (hL : CfLies w c p) (hF : CfFits c) (hm : mayC c = false) :
    Calls Try.prog 4 #[cv c p, .int .i64 h] w fun e w' => e = .returned (.bool true) ∧ Below w.heap.size w w' := by
  have HM : Hid (∀ w', Below w.heap.size w w' → _) := fun w' hb => cMay_is c p _ w' (hL.below hb) hF hm
  have HO : Hid (∀ w', Below w.heap.size w w' → _) := fun w' hb => owner_is c p h _ _ w' (hL.below hb) hF (owner_no h hm)
  have HU : Hid (∀ w', Below w.heap.size w w' → _) := fun w' hb => usable_is c p h _ w' (hL.below hb) hF (usable_no h hm)
  have BX : Hid (BoxC (w.alloc (.cells (cellsC c p) 26)) w.heap.size c p) := BoxC.new w c p
  have B0 : Hid (Below w.heap.size w (w.alloc (.cells (cellsC c p) 26))) := (Below.refl w.heap.size w).alloc (Nat.le_refl _) _
  have hcell : Hid (∀ w', BoxC w' w.heap.size c p → _) := fun w' h => h.all
  clear hL hF hm
  simp only [cv, cellsC] at *
  go_enter Try.func4, Try.ntmps4
  go_wp2_with fail
  refine (awake11_yes _).mono ?_; rintro e w1 ⟨rfl, hb⟩
  have B1 : Hid (Below w.heap.size w w1) := bel_trans B0.out hb
  have X1 : Hid (BoxC w1 w.heap.size c p) := BX.out.below hb
  obtain ⟨c0, c1, c2, c3, c4, c5, c6⟩ := hcell.out _ X1.out
  clear hb B0 BX
  go_wp2_with fail
  refine (HM.out _ B1.out).mono ?_; rintro e w2 ⟨rfl, hb⟩
  have B2 : Hid (Below w.heap.size w w2) := bel_trans B1.out hb
  have X2 : Hid (BoxC w2 w.heap.size c p) := X1.out.below hb
  clear hb B1 X1 c0 c1 c2 c3 c4 c5 c6
  obtain ⟨c0, c1, c2, c3, c4, c5, c6⟩ := hcell.out _ X2.out
  go_wp2_with fail
  refine (HO.out _ B2.out).mono ?_; rintro e w3 ⟨rfl, hb⟩
  have B3 : Hid (Below w.heap.size w w3) := bel_trans B2.out hb
  have X3 : Hid (BoxC w3 w.heap.size c p) := X2.out.below hb
  clear hb B2 X2 c0 c1 c2 c3 c4 c5 c6
  obtain ⟨c0, c1, c2, c3, c4, c5, c6⟩ := hcell.out _ X3.out
  go_wp2_with fail
  refine (HU.out _ B3.out).mono ?_; rintro e w4 ⟨rfl, hb⟩
  go_wp2
  go_ret
  exact ⟨rfl, bel_trans B3.out hb⟩

set_option maxRecDepth 100000 in
set_option maxHeartbeats 2000000 in
theorem walk_yes (c : Cf) (p : CPl) (h : Int) (w : World) (hL : CfLies w c p) (hF : CfFits c) (hm : mayC c = true) :
    Calls Try.prog 4 #[cv c p, .int .i64 h] w fun e w' => e = .returned (.bool true) ∧ Below w.heap.size w w' := by
  have HM : Hid (∀ w', Below w.heap.size w w' → _) := fun w' hb => cMay_is c p _ w' (hL.below hb) hF hm
  have HO : Hid (∀ (j : Int) (s : ByteArray) (b : Bool) (w' : World), ownerC c j = (s, b) → Below w.heap.size w w' → _) := fun j s b w' e hb => owner_is c p j s b w' (hL.below hb) hF e
  have HV : Hid (∀ (j : Int) (s : ByteArray) (w' : World), ownerC c j = (s, true) → Below w.heap.size w w' → _) := fun j s w' e hb => reserved_is c p s j true w' (hL.below hb) hF (by have := owner_back (c := c) (h := j) (by rw [e]); rw [e] at this; exact this)
  have HU : Hid (∀ (j : Int) (b : Bool) (w' : World), usableC c j = b → Below w.heap.size w w' → _) := fun j b w' e hb => usable_is c p j b w' (hL.below hb) hF e
  have HI : Hid (∀ j, usableC c j = true → c.fi ≤ j ∧ j ≤ c.la) := fun j => usable_in
  have BX : Hid (BoxC (w.alloc (.cells (cellsC c p) 26)) w.heap.size c p) := BoxC.new w c p
  have B0 : Hid (Below w.heap.size w (w.alloc (.cells (cellsC c p) 26))) := (Below.refl w.heap.size w).alloc (Nat.le_refl _) _
  have hcell : Hid (∀ w', BoxC w' w.heap.size c p → _) := fun w' h => h.all
  clear hL hF hm
  simp only [cv, cellsC] at *
  go_enter Try.func4, Try.ntmps4
  go_wp2_with fail
  refine (awake11_yes _).mono ?_; rintro e w1 ⟨rfl, hb⟩
  have B1 : Hid (Below w.heap.size w w1) := bel_trans B0.out hb
  have X1 : Hid (BoxC w1 w.heap.size c p) := BX.out.below hb
  obtain ⟨c0, c1, c2, c3, c4, c5, c6⟩ := hcell.out _ X1.out
  clear hb B0 BX
  go_wp2_with fail
  refine (HM.out _ B1.out).mono ?_; rintro e w2 ⟨rfl, hb⟩
  have B2 : Hid (Below w.heap.size w w2) := bel_trans B1.out hb
  have X2 : Hid (BoxC w2 w.heap.size c p) := X1.out.below hb
  clear hb B1 X1 c0 c1 c2 c3 c4 c5 c6 HM
  go_wp2_with fail
  go_loopw [7] (fun i wr => ∃ j : Int, 1 ≤ j ∧ j ≤ 255 ∧ i = .int .i64 j ∧ Hid (BoxC wr w.heap.size c p) ∧ Hid (Below w.heap.size w wr)) (fun i _ => (255 - intOf i).toNat)
  case atStart => exact ⟨1, by omega, by omega, rfl, X2.out, B2.out⟩
  case round =>
    clear X2 B2
    obtain ⟨j, hj1, hj2, rfl, X, B⟩ := hrel
    by_cases hlt : j ≤ 254
    · have d0 : decide (j ≤ 254) = true := by simpa using hlt
      obtain ⟨s, is, ho⟩ : ∃ s is, ownerC c j = (s, is) := ⟨_, _, rfl⟩
      obtain ⟨us, hu⟩ : ∃ us, usableC c j = us := ⟨_, rfl⟩
      have HOj : Hid (∀ w', Below w.heap.size w w' → _) := fun w' hb => HO.out j s is w' ho hb
      have HVj : Hid (is = true → ∀ w', Below w.heap.size w w' → _) := fun e w' hb => HV.out j s w' (by rw [ho, e]) hb
      have HUj : Hid (∀ w', Below w.heap.size w w' → _) := fun w' hb => HU.out j us w' hu hb
      have HIj : Hid (us = true → c.fi ≤ j ∧ j ≤ c.la) := fun e => HI.out j (by rw [hu, e])
      have HA : Hid (∀ w, _) := fun w => address_is j _ _ w (addr_back hj1 hlt).1
      have HH : Hid (∀ w, _) := fun w => host_is _ j w (addr_back hj1 hlt).2
      clear HO HV HU HI ho hu
      obtain ⟨c0, c1, c2, c3, c4, c5, c6⟩ := hcell.out _ X.out
      go_wp2_with fail
      refine (HA.out _).mono ?_; rintro e w3 ⟨rfl, rfl⟩
      go_wp2_with (first | (go_at_call 19; refine (num_any _ _).mono ?_; rintro e wz ⟨rfl, rfl⟩) | fail)
      refine (HH.out _).mono ?_; rintro e w4 ⟨rfl, rfl⟩
      go_wp2_with fail
      refine (HOj.out _ B.out).mono ?_; rintro e w5 ⟨rfl, hb⟩
      have B5 : Hid (Below w.heap.size w w5) := bel_trans B.out hb
      have X5 : Hid (BoxC w5 w.heap.size c p) := X.out.below hb
      clear hb B X c0 c1 c2 c3 c4 c5 c6 HA HH HOj
      obtain ⟨c0, c1, c2, c3, c4, c5, c6⟩ := hcell.out _ X5.out
      cases is with
      | true =>
        have HVt : Hid (∀ w', Below w.heap.size w w' → _) := HVj.out rfl
        clear HVj
        go_wp2_with fail
        refine (HVt.out _ B5.out).mono ?_; rintro e w6 ⟨rfl, hb⟩
        have B6 : Hid (Below w.heap.size w w6) := bel_trans B5.out hb
        have X6 : Hid (BoxC w6 w.heap.size c p) := X5.out.below hb
        clear hb B5 X5 c0 c1 c2 c3 c4 c5 c6 HVt
        obtain ⟨c0, c1, c2, c3, c4, c5, c6⟩ := hcell.out _ X6.out
        go_wp2_with fail
        refine (HUj.out _ B6.out).mono ?_; rintro e w7 ⟨rfl, hb⟩
        have B7 : Hid (Below w.heap.size w w7) := bel_trans B6.out hb
        have X7 : Hid (BoxC w7 w.heap.size c p) := X6.out.below hb
        clear hb B6 X6 c0 c1 c2 c3 c4 c5 c6 HUj
        obtain ⟨c0, c1, c2, c3, c4, c5, c6⟩ := hcell.out _ X7.out
        cases us with
        | true =>
          obtain ⟨i0, i1⟩ := HIj.out rfl
          have e0 : decide (j < c.fi) = false := by simp; omega
          have e1 : decide (c.la < j) = false := by simp; omega
          clear HIj i0 i1
          go_wp2
          go_roundw
          case rel => exact ⟨j + 1, by omega, by omega, by go_num, X7.out, B7.out⟩
          case measure => simp [intOf]; omega
        | false =>
          clear HIj
          go_wp2
          go_roundw
          case rel => exact ⟨j + 1, by omega, by omega, by go_num, X7.out, B7.out⟩
          case measure => simp [intOf]; omega
      | false =>
        clear HVj
        go_wp2_with fail
        refine (HUj.out _ B5.out).mono ?_; rintro e w7 ⟨rfl, hb⟩
        have B7 : Hid (Below w.heap.size w w7) := bel_trans B5.out hb
        have X7 : Hid (BoxC w7 w.heap.size c p) := X5.out.below hb
        clear hb B5 X5 c0 c1 c2 c3 c4 c5 c6 HUj
        obtain ⟨c0, c1, c2, c3, c4, c5, c6⟩ := hcell.out _ X7.out
        cases us with
        | true =>
          obtain ⟨i0, i1⟩ := HIj.out rfl
          have e0 : decide (j < c.fi) = false := by simp; omega
          have e1 : decide (c.la < j) = false := by simp; omega
          clear HIj i0 i1
          go_wp2
          go_roundw
          case rel => exact ⟨j + 1, by omega, by omega, by go_num, X7.out, B7.out⟩
          case measure => simp [intOf]; omega
        | false =>
          clear HIj
          go_wp2
          go_roundw
          case rel => exact ⟨j + 1, by omega, by omega, by go_num, X7.out, B7.out⟩
          case measure => simp [intOf]; omega
    · obtain rfl : j = 255 := by omega
      clear hlt
      go_wp2
      go_ret
      exact ⟨rfl, B.out⟩

theorem walk (c : Cf) (p : CPl) (h : Int) (w : World) (hL : CfLies w c p) (hF : CfFits c) (_hR : CfReach c) (_wf : (Lit.int .i64 h).wf = true) :
    Calls Try.prog 4 #[cv c p, .int .i64 h] w fun e w' => e = .returned (.bool true) ∧ Below w.heap.size w w' := by
  cases hm : mayC c with
  | true => exact walk_yes c p h w hL hF hm
  | false => exact walk_no c p h w hL hF hm

theorem own : ownKnob Try.prog.godebug = none := by kernel_rfl
theorem laidOut : laidOutB Try.prog = true := by kernel_rfl

/-! ### The row's step -/
set_option maxRecDepth 100000 in
theorem lifted (os : Os) (started : os.Started) (H : Type) (enc : TypeId × Value → H) :
    ReturnsInHanded {} Try.checked os 4 .any (Rows.confBackSpec.pre6 enc Try.prog Try.f4 Rows.confBackRow.domain false) (Rows.confBackSpec.post enc Try.prog Try.f4 false true false false) := by
  refine returnsInHanded_of_change_sized (C := Try.checked) own started (by kernel_rfl) Try.func4
    (ChangeSpec.witness6 (enc := enc) (C := Try.checked) false ⟨#[], #[.agg #[.int .i64 0, .int .i64 0, .slice none 0 0, .slice none 0 0, .int .i64 0, .string ByteArray.empty, .slice none 0 0], .int .i64 0], []⟩ 8 (by kernel_rfl) (by kernel_rfl) (by kernel_rfl) (by kernel_rfl)) ?_
  intro W base args ds gs before hval0 hW _ hsz0 _
  have hval : ∀ (j : Nat) t v, Try.f4.params[j]? = some t → args[j]? = some v → Value.okWide Try.prog W .any base t v := hval0
  have hsz : (DataW.weightsEach Try.prog (Try.f4.params.toList ++ Rows.confBackSpec.plain.varTypes Try.prog) (ds ++ gs)).all (· ≤ reachBytes) = true := hsz0
  have hW' := hW
  obtain ⟨p, q, hA0, hV, rfl, _, _⟩ := hW
  have hA : DataW.TrodAll enc Try.prog W 0 (fun _ => true) true Try.f4.params.toList args.toList ds p := hA0
  rw [Try.params4] at hA hval hsz
  obtain ⟨v0, vs0, d0, ds0, p0, q0, hargs, rfl, rfl, h0, r0⟩ := trodAll_cons hA
  obtain ⟨v1, vs1, d1, ds1, p1, q1, rfl, rfl, rfl, h1, r1⟩ := trodAll_cons r0
  obtain ⟨rfl, rfl, rfl⟩ := trodAll_nil r1
  obtain rfl : args = #[v0, v1] := by cases args; simp_all
  obtain ⟨rfl, rfl⟩ := trodVars_none hV
  have k0 := h0
  have lt0 : ∀ x ∈ p0, x.block < W.heap.size := by obtain ⟨m, hm⟩ := k0; exact DataW.trod_lt m _ _ _ hm
  obtain ⟨a0, A0, rfl, w0, f0, u0, g0⟩ := open_cf (hval 0 26 v0 rfl rfl) h0
  have b0 : CfReach a0 := u0 (fun n hn => by have := List.all_eq_true.1 hsz n (DataW.weights_mem_each (j := 0) (t := 26) (d := d0) rfl rfl n hn); simpa using this)
  obtain ⟨a1, rfl, rfl, rfl, w1⟩ := open_int Try.underlying3 (hval 1 3 v1 rfl rfl) h1
  clear hA0 hval0 hsz0
  refine (walk a0 A0 a1 W w0 f0 b0 w1).mono fun e W' ⟨he, bel⟩ => ?_
  subst he
  exact ⟨_, rfl, _, _, _, [], _, [], hW', trodAll_mk1 (shut_bool Try.underlying4 _), (trodAll_cons_mk (Below.trod laidOut (by kernel_rfl) (of_decide_eq_true (by kernel_rfl)) k0 bel lt0) (trodAll_cons_mk (shut_int Try.underlying3 w1) trodAll_mk0)), rfl, bel.frame _, fun h => by cases h⟩

theorem over : Rows.confBackRow.holds Try.pinned (OpenSpec.ofChange Rows.confBackSpec) :=
  OpenClaim.holds_of_wide 4 Try.f4 rfl rfl rfl rfl rfl rfl rfl ⟨rfl, rfl, rfl, rfl, rfl⟩ rfl rfl rfl rfl rfl (by kernel_rfl) Try.func4 (by kernel_rfl)
    (of_decide_eq_true (by kernel_rfl)) (by unfold Func.isWrapper; first | (rw [if_pos (by decide +kernel)]; kernel_rfl) | (rw [if_neg (by decide +kernel)]; exact ⟨rfl, rfl⟩))
    (fun os started H enc _ => lifted os started H enc)

/-- The given statement. -/
theorem proved : Rows.ConfBackSaid := over

end Go.Proofs.Ytedbihckdbpebaa.confBack
namespace Go.Proofs.Ytedbihckdbpebaa
theorem confBack_proved : Rows.ConfBackSaid := confBack.proved
#print axioms confBack_proved
end Go.Proofs.Ytedbihckdbpebaa
