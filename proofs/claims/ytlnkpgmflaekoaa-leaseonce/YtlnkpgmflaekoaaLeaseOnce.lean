/-
  Proved here: pinfoldlaw12.LeaseOnce answers true for every lease and two numbers: what was live at a time was live at each earlier one (P12.1).
  Conditions: none but the row's own.
-/
import Derived.Test.YtlnkpgmflaekoaaAwake12
import Derived.Test.YtlnkpgmflaekoaaLeaOpen
import Derived.OpenShut
import Derived.ShutString
import Derived.ChangeOld
import Derived.SizedLaws
import Derived.Carry
import Derived.RegionTactic
import Derived.Deep.RegionHeld3
import Derived.Deep.QuietTactic
import Derived.BigQuiet
import Derived.Deep.DeepCutAuto
import Derived.Deep.CutRange
namespace Go.Proofs.Ytlnkpgmflaekoaa.leaseOnce
open Go.ChangeShapes Go.WideShapes Go.ChangeAt Go.RowKit Go.Pin Go.PlainAid Go.ChangeMaps

set_option maxRecDepth 100000 in
set_option maxHeartbeats 4000000 in
theorem walk (l : Lea) (a1 a2 : Int) (w : World) (hl : IsLea l) (_w1 : (Lit.int .i64 a1).wf = true) (_w2 : (Lit.int .i64 a2).wf = true) :
    Calls Try.prog 6 #[lv l, .int .i64 a1, .int .i64 a2] w fun e w' => e = .returned (.bool true) ∧ Below w.heap.size w w' := by
  have hm := i64_mask 16 a2 (by omega)
  obtain ⟨d, hd, hd0, hd1⟩ : ∃ d : Int, a2 % 65536 = d ∧ 0 ≤ d ∧ d < 65536 := ⟨_, rfl, Int.emod_nonneg _ (by omega), Int.emod_lt_of_pos _ (by omega)⟩
  have hm' : bits .and .i64 a2 65535 = d := by rw [← hd]; exact hm
  obtain ⟨t, ht⟩ : ∃ t : Int, IntKind.i64.wrap (a1 - d) = t := ⟨_, rfl⟩
  clear hm hd
  have HL : Hid (∀ t b w, liveLea l t = b → _) := fun t b w h => lLive_is l t b w hl.n h
  have HM : Hid (∀ b w, mayLea l = b → _) := fun b w h => lMay_is l b w hl.n h
  obtain ⟨k1, K1⟩ : ∃ k, liveLea l a1 = k := ⟨_, rfl⟩
  have HK : Hid (k1 = true → t ≤ a1 → liveLea l t = true ∧ mayLea l = true ∧ (l.st == 0) = false) := by
    intro hk ht
    rw [hk, liveLea_is] at K1
    simp at K1
    rw [liveLea_is]
    simp [K1]
    omega
  have K1 : Hid (liveLea l a1 = k1) := K1
  obtain ⟨w0, hw0⟩ : ∃ w0, w.alloc (.cells (cellsL l) 23) = w0 := ⟨_, rfl⟩
  have A0 : Hid (Below w.heap.size w w0) := by rw [← hw0]; exact (Below.refl _ _).alloc (Nat.le_refl _) _
  have BX : Hid (BoxL w0 w.heap.size l) := by rw [← hw0]; exact BoxL.new w l
  have hcell : Hid (∀ (w' : World), Below w0.heap.size w0 w' → _) := fun w' hb => (BX.out.below hb).all
  clear hl _w1 _w2 BX hd0 hd1
  simp only [lv, cellsL] at *
  have Hw0 : Hid (_ = w0) := hw0
  clear hw0
  go_enter Try.func6, Try.ntmps6
  go_upto_region 1 with fail
  rw [Hw0.out]
  clear Hw0
  go_wp2_with fail
  refine (awake12_yes _).mono ?_; rintro e x1 ⟨rfl, hb⟩
  have B1 : Hid (Below w0.heap.size w0 x1) := hb
  obtain ⟨c0, c1, c2, c3, c4, c5⟩ := hcell.out _ B1.out
  clear hb
  by_cases hg : t > a1
  · have hd : decide (t > a1) = true := by simpa using hg
    clear hg
    go_wp2_with fail
    go_ret
    exact ⟨rfl, bel_trans A0.out B1.out⟩
  have hd : decide (t > a1) = false := by simpa using hg
  have KF : Hid (k1 = true → liveLea l t = true ∧ mayLea l = true ∧ (l.st == 0) = false) := fun h => HK.out h (by omega)
  clear hg HK
  go_wp2_with fail
  refine (num_any _ _).mono ?_; rintro e x2 ⟨rfl, h⟩; subst h
  go_wp2_with fail
  refine (HL.out _ _ _ K1.out).mono ?_; rintro e x3 ⟨rfl, hb⟩
  have B2 : Hid (Below w0.heap.size w0 x3) := bel_trans B1.out hb
  clear hb c0 c1 c2 c3 c4 c5 B1
  obtain ⟨c0, c1, c2, c3, c4, c5⟩ := hcell.out _ B2.out
  cases k1
  · go_wp2
    go_ret
    exact ⟨rfl, bel_trans A0.out B2.out⟩
  obtain ⟨L1, L2, L3⟩ := KF.out rfl
  go_wp2_with fail
  refine (HL.out _ _ _ L1).mono ?_; rintro e x4 ⟨rfl, hb⟩
  have B3 : Hid (Below w0.heap.size w0 x4) := bel_trans B2.out hb
  clear hb c0 c1 c2 c3 c4 c5 B2
  obtain ⟨c0, c1, c2, c3, c4, c5⟩ := hcell.out _ B3.out
  go_wp2_with fail
  refine (HM.out _ _ L2).mono ?_; rintro e x5 ⟨rfl, hb⟩
  have B4 : Hid (Below w0.heap.size w0 x5) := bel_trans B3.out hb
  clear hb c0 c1 c2 c3 c4 c5 B3
  obtain ⟨c0, c1, c2, c3, c4, c5⟩ := hcell.out _ B4.out
  go_wp2
  go_ret
  exact ⟨ret_bool (by simp [bne, L3]), bel_trans A0.out B4.out⟩

theorem own : ownKnob Try.prog.godebug = none := by kernel_rfl
theorem laidOut : laidOutB Try.prog = true := by kernel_rfl

/-! ### The row's step -/
set_option maxRecDepth 100000 in
theorem lifted (os : Os) (started : os.Started) (H : Type) (enc : TypeId × Value → H) :
    ReturnsInHanded {} Try.checked os 6 .any (Rows.leaseOnceSpec.pre6 enc Try.prog Try.f6 Rows.leaseOnceRow.domain false) (Rows.leaseOnceSpec.post enc Try.prog Try.f6 false true false false) := by
  refine returnsInHanded_of_change_sized (C := Try.checked) own started (by kernel_rfl) Try.func6
    (ChangeSpec.witness6 (enc := enc) (C := Try.checked) false ⟨#[], #[.agg #[.int .i64 0, .int .i64 0, .string ByteArray.empty, .int .i64 0, .string ByteArray.empty, .bool false], .int .i64 0, .int .i64 0], []⟩ 8 (by kernel_rfl) (by kernel_rfl) (by kernel_rfl) (by kernel_rfl)) ?_
  intro W base args ds gs before hval0 hW _ hsz0 _
  have hval : ∀ (j : Nat) t v, Try.f6.params[j]? = some t → args[j]? = some v → Value.okWide Try.prog W .any base t v := hval0
  have hsz : (DataW.weightsEach Try.prog (Try.f6.params.toList ++ Rows.leaseOnceSpec.plain.varTypes Try.prog) (ds ++ gs)).all (· ≤ reachBytes) = true := hsz0
  have hW' := hW
  obtain ⟨p, q, hA0, hV, rfl, _, _⟩ := hW
  have hA : DataW.TrodAll enc Try.prog W 0 (fun _ => true) true Try.f6.params.toList args.toList ds p := hA0
  rw [Try.params6] at hA hval hsz
  obtain ⟨v0, vs0, d0, ds0, p0, q0, hargs, rfl, rfl, h0, r0⟩ := trodAll_cons hA
  obtain ⟨v1, vs1, d1, ds1, p1, q1, rfl, rfl, rfl, h1, r1⟩ := trodAll_cons r0
  obtain ⟨v2, vs2, d2, ds2, p2, q2, rfl, rfl, rfl, h2, r2⟩ := trodAll_cons r1
  obtain ⟨rfl, rfl, rfl⟩ := trodAll_nil r2
  obtain rfl : args = #[v0, v1, v2] := by cases args; simp_all
  obtain ⟨rfl, rfl⟩ := trodVars_none hV
  have k0 := h0
  have lt0 : ∀ x ∈ p0, x.block < W.heap.size := by obtain ⟨m, hm⟩ := k0; exact DataW.trod_lt m _ _ _ hm
  obtain ⟨a0, rfl, w0, e0⟩ := open_lea (hval 0 23 v0 rfl rfl) h0
  obtain ⟨a1, rfl, rfl, rfl, w1⟩ := open_int Try.underlying3 (hval 1 3 v1 rfl rfl) h1
  obtain ⟨a2, rfl, rfl, rfl, w2⟩ := open_int Try.underlying3 (hval 2 3 v2 rfl rfl) h2
  clear hA0 hval0 hsz0
  refine (walk a0 a1 a2 W w0 w1 w2).mono fun e W' ⟨he, bel⟩ => ?_
  subst he
  exact ⟨_, rfl, _, _, _, [], _, [], hW', trodAll_mk1 (shut_bool Try.underlying4 _), (trodAll_cons_mk (Below.trod laidOut (by kernel_rfl) (of_decide_eq_true (by kernel_rfl)) k0 bel lt0) (trodAll_cons_mk (shut_int Try.underlying3 w1) (trodAll_cons_mk (shut_int Try.underlying3 w2) trodAll_mk0))), rfl, bel.frame _, fun h => by cases h⟩

theorem over : Rows.leaseOnceRow.holds Try.pinned (OpenSpec.ofChange Rows.leaseOnceSpec) :=
  OpenClaim.holds_of_wide 6 Try.f6 rfl rfl rfl rfl rfl rfl rfl ⟨rfl, rfl, rfl, rfl, rfl⟩ rfl rfl rfl rfl rfl (by kernel_rfl) Try.func6 (by kernel_rfl)
    (of_decide_eq_true (by kernel_rfl)) (by unfold Func.isWrapper; first | (rw [if_pos (by decide +kernel)]; kernel_rfl) | (rw [if_neg (by decide +kernel)]; exact ⟨rfl, rfl⟩))
    (fun os started H enc _ => lifted os started H enc)

/-- The given statement. -/
theorem proved : Rows.LeaseOnceSaid := over

end Go.Proofs.Ytlnkpgmflaekoaa.leaseOnce
namespace Go.Proofs.Ytlnkpgmflaekoaa
theorem leaseOnce_proved : Rows.LeaseOnceSaid := leaseOnce.proved
#print axioms leaseOnce_proved
end Go.Proofs.Ytlnkpgmflaekoaa
