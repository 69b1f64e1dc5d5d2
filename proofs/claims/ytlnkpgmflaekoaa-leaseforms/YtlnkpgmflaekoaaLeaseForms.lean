/-
  Proved here: pinfoldlaw12.LeaseForms answers true for every two numbers: leases that may not be, one thing at a time (P12.1).
  Conditions: none but the row's own.
-/
import Derived.Test.YtlnkpgmflaekoaaLeaBad
import Derived.WalkKit
import Derived.ProofKit
import Derived.OpenShut
import Derived.ShutString
import Derived.ChangeOld
import Derived.SizedLaws
import Derived.Carry
import Derived.RegionTactic
import Derived.Deep.DeepCutAuto
import Derived.Deep.CutRange
namespace Go.Proofs.Ytlnkpgmflaekoaa.leaseForms
open Go.ChangeShapes Go.WideShapes Go.ChangeAt Go.RowKit Go.Pin Go.PlainAid Go.ChangeMaps leaBad

/-- The last statement of a block: a cut may stand there. -/
theorem wp_unblock {P : Program} {s : Code} {n : Nat} {K : Act → World → Prop} {Q' : Exit → Act → World → Prop} {a : Act} {w : World} (h : s.wp P (Exit.then K (Exit.inBlock n (Exit.then K Q'))) a w) : s.wp P (Exit.inBlock n (Exit.then K Q')) a w := by
  refine wp_mono h ?_
  intro e a' w' hq
  cases e <;> exact hq

theorem tag_mod (a : Int) : ∃ J : Int, (IntKind.u64.wrap a).tmod 13 = J ∧ 0 ≤ J ∧ J < 13 := by
  have h0 : 0 ≤ IntKind.u64.wrap a := by
    show 0 ≤ a % _
    exact Int.emod_nonneg _ (by decide)
  exact ⟨_, rfl, Int.tmod_nonneg _ h0, Int.tmod_lt_of_pos _ (by omega)⟩

set_option maxRecDepth 100000 in
set_option maxHeartbeats 8000000 in
theorem walk (a0 a1 : Int) (w : World) (_w0 : (Lit.int .i64 a0).wf = true) (_w1 : (Lit.int .i64 a1).wf = true) : Calls Try.prog 4 #[.int .i64 a0, .int .i64 a1] w fun e w' => e = .returned (.bool true) ∧ Below w.heap.size w w' := by
  obtain ⟨I, hI, hI0, hI13⟩ : ∃ J : Int, (IntKind.u64.wrap a0).tmod 13 = J ∧ 0 ≤ J ∧ J < 13 := tag_mod a0
  have hm := i64_mask 10 a1 (by omega)
  obtain ⟨dd, hd, hd0, hd1⟩ : ∃ d : Int, a1 % 1024 = d ∧ 0 ≤ d ∧ d < 1024 := ⟨_, rfl, Int.emod_nonneg _ (by omega), Int.emod_lt_of_pos _ (by omega)⟩
  have hm' : bits .and .i64 a1 1023 = dd := by rw [← hd]; exact hm
  clear hm hd _w0 _w1
  go_enter Try.func4, Try.ntmps4
  go_wp2_with fail
  refine (awake12_yes _).mono ?_; rintro e x1 ⟨rfl, hb1⟩
  have B1 : Hid (Below w.heap.size w x1) := hb1
  clear hb1
  obtain ⟨x2, hx2⟩ : ∃ x, x1.alloc (.cells (cellsL gL) 23) = x := ⟨_, rfl⟩
  have Y2 : BoxL x2 x1.heap.size gL := by rw [← hx2]; exact BoxL.new x1 gL
  have b2 : Below x1.heap.size x1 x2 := by rw [← hx2]; exact (Below.refl _ _).alloc (Nat.le_refl _) _
  have s2 : x2.heap.size = x1.heap.size + 1 := by rw [← hx2]; simp
  obtain ⟨x3, hx3⟩ : ∃ x, x2.alloc (.cells (cellsL gL) 23) = x := ⟨_, rfl⟩
  have X3 : BoxL x3 x2.heap.size gL := by rw [← hx3]; exact BoxL.new x2 gL
  have b3 : Below x2.heap.size x2 x3 := by rw [← hx3]; exact (Below.refl _ _).alloc (Nat.le_refl _) _
  have S : Hid (St w x1.heap.size x2.heap.size x3 gL) := ⟨Y2.below b3, X3, by omega, by have := B1.out.size; omega, bel_trans (bel_trans B1.out b2) b3, by decide⟩
  have hY := Y2.all
  simp only [cellsL, gL] at hx2 hx3
  have Hx2 : Hid (_ = x2) := hx2
  have Hx3 : Hid (_ = x3) := hx3
  simp only [gL] at hY
  have HY : Hid (_ ∧ _) := hY
  clear hx2 hx3 X3 b2 b3 s2 hY Y2
  go_upto_region 5 with fail
  rw [Hx2.out]
  clear Hx2
  obtain ⟨y0, y1, y2, y3, y4, y5⟩ := HY.out
  go_upto_region 6 with fail
  rw [Hx3.out]
  clear Hx3 y0 y1 y2 y3 y4 y5 HY B1
  go_upto_if 19 with fail
  refine wp_unblock ?_
  clear hI
  generalize x1.heap.size = g at *
  generalize x2.heap.size = d at *
  go_cut [] from 13 to 90 (fun wx => ∃ l : Lea, Hid (St w g d wx l) ∧ Hid (mayLea l = false))
  case first =>
    obtain ⟨c0, c1, c2, c3, c4, c5⟩ := S.out.x.all
    have f0 := S.out.x.fz 0
    have f1 := S.out.x.fz 1
    have f2 := S.out.x.fz 2
    have f3 := S.out.x.fz 3
    have f4 := S.out.x.fz 4
    have f5 := S.out.x.fz 5
    simp only [gL] at c0 c1 c2 c3 c4 c5
    rcases (by omega : I = 0 ∨ I = 1 ∨ I = 2 ∨ I = 3 ∨ I = 4 ∨ I = 5 ∨ I = 6 ∨ I = 7 ∨ I = 8 ∨ I = 9 ∨ I = 10 ∨ I = 11 ∨ I = 12) with rfl | rfl | rfl | rfl | rfl | rfl | rfl | rfl | rfl | rfl | rfl | rfl | rfl
    · go_wp2_with fail
      go_meet
      exact ⟨_, S.out.field (l' := { gL with h := 2 - (1 + dd) }) 0 _ rfl (show gL.n.size ≤ 100 by decide), no_host (by omega)⟩
    · go_wp2_with fail
      go_meet
      exact ⟨_, S.out.field (l' := { gL with h := 254 + (1 + dd) }) 0 _ rfl (show gL.n.size ≤ 100 by decide), no_host (by omega)⟩
    · go_wp2_with fail
      go_meet
      exact ⟨_, S.out.field (l' := { gL with st := -(1 + dd) }) 1 _ rfl (show gL.n.size ≤ 100 by decide), no_state (by omega)⟩
    · go_wp2_with fail
      go_meet
      exact ⟨_, S.out.field (l' := { gL with st := 3 + (1 + dd) }) 1 _ rfl (show gL.n.size ≤ 100 by decide), no_state (by omega)⟩
    · go_wp2_with fail
      go_meet
      exact ⟨_, S.out.field (l' := { gL with c := ⟨#[]⟩ }) 2 _ rfl (show gL.n.size ≤ 100 by decide), no_none⟩
    · obtain ⟨n, hn⟩ : ∃ n : Nat, 16 + (1 + dd) = (n : Int) := ⟨(16 + (1 + dd)).toNat, by omega⟩
      obtain ⟨cs, MK, CV⟩ := made_all n (by omega)
      have hX := (S.out.below ((Below.refl x3.heap.size x3).alloc (Nat.le_refl _) (.cells cs 5)))
      have ca := hX.x.all.2.2.1
      have fa := hX.x.fz 2
      have HX : Hid _ := hX
      clear hX
      go_wp2_with fail
      go_meet
      exact ⟨_, HX.out.field (l' := { gL with c := mk (List.replicate n 0) }) 2 _ rfl (show gL.n.size ≤ 100 by decide), no_client (by rw [size_mk, List.length_replicate]; omega)⟩
    · go_wp2_with fail
      go_meet
      exact ⟨_, S.out.field (l' := { gL with u := -(1 + dd) }) 3 _ rfl (show gL.n.size ≤ 100 by decide), no_until (by omega)⟩
    · go_wp2_with fail
      go_meet
      exact ⟨_, S.out.field (l' := { gL with u := 1099511627776 + (1 + dd) }) 3 _ rfl (show gL.n.size ≤ 100 by decide), no_until (by omega)⟩
    · go_wp2_with fail
      go_meet
      exact ⟨_, S.out.field (l' := { gL with n := ⟨#[65]⟩ }) 4 _ rfl (by decide), no_great⟩
    · go_wp2_with fail
      go_meet
      exact ⟨_, S.out.field (l' := { gL with n := ⟨#[]⟩ }) 4 _ rfl (by decide), no_name⟩
    · go_wp2_with fail
      go_meet
      exact ⟨_, S.out.field (l' := { gL with st := 0 }) 1 _ rfl (show gL.n.size ≤ 100 by decide), no_free⟩
    · go_wp2_with fail
      go_meet
      exact ⟨_, S.out.field (l' := { gL with st := 3 }) 1 _ rfl (show gL.n.size ≤ 100 by decide), no_declined⟩
    · go_wp2_with fail
      go_meet
      exact ⟨_, ((((((S.out.field (l' := ⟨10, 2, ⟨#[109, 101]⟩, 5, ⟨#[97]⟩, true⟩) 0 _ rfl (by decide)).field (l' := ⟨10, 1, ⟨#[109, 101]⟩, 5, ⟨#[97]⟩, true⟩) 1 _ rfl (by decide)).field (l' := ⟨10, 1, ⟨#[]⟩, 5, ⟨#[97]⟩, true⟩) 2 _ rfl (by decide)).field (l' := ⟨10, 1, ⟨#[]⟩, 0, ⟨#[97]⟩, true⟩) 3 _ rfl (by decide)).field (l' := ⟨10, 1, ⟨#[]⟩, 0, ⟨#[]⟩, true⟩) 4 _ rfl (by decide)).field (l' := ⟨10, 1, ⟨#[]⟩, 0, ⟨#[]⟩, false⟩) 5 _ rfl (by decide)), no_offered⟩
  case rest =>
  obtain ⟨l, S', N'⟩ := hcut
  rename World => wx
  clear S hI0 hI13 hm' hd0 hd1
  have HG1 : Hid (∀ w, _) := fun w => lMay_is gL _ w (by unfold maxLen; decide) gL_may
  have HG2 : Hid (∀ w, _) := fun w => lLive_is gL 4 _ w (by unfold maxLen; decide) gL_4
  have HB1 : Hid (∀ w, _) := fun w => lMay_is l _ w (by have := S'.out.nm; unfold maxLen; omega) N'.out
  have HB2 : Hid (∀ w, _) := fun w => lLive_is l 0 _ w (by have := S'.out.nm; unfold maxLen; omega) (no_live N'.out 0)
  have hcell : Hid (∀ (w' : World), Below wx.heap.size wx w' → _) := fun w' hb => And.intro (S'.out.below hb).x.all (S'.out.below hb).y.all
  have B : Hid (Below w.heap.size w wx) := S'.out.b
  clear S' N'
  simp only [lv, cellsL, gL] at HG1 HG2 HB1 HB2 hcell
  go_wp2_with fail
  refine (num_any _ _).mono ?_; rintro e z0 ⟨rfl, h⟩; subst h
  obtain ⟨⟨c0, c1, c2, c3, c4, c5⟩, g0, g1, g2, g3, g4, g5⟩ := hcell.out _ (Below.refl _ _)
  go_wp2_with fail
  refine (HG1.out _).mono ?_; rintro e z1 ⟨rfl, hb⟩
  have B1 : Hid (Below z0.heap.size z0 z1) := hb
  clear hb c0 c1 c2 c3 c4 c5 g0 g1 g2 g3 g4 g5 HG1
  obtain ⟨⟨c0, c1, c2, c3, c4, c5⟩, g0, g1, g2, g3, g4, g5⟩ := hcell.out _ B1.out
  go_wp2_with fail
  refine (HB1.out _).mono ?_; rintro e z2 ⟨rfl, hb⟩
  have B2 : Hid (Below z0.heap.size z0 z2) := bel_trans B1.out hb
  clear hb c0 c1 c2 c3 c4 c5 g0 g1 g2 g3 g4 g5 HB1 B1
  obtain ⟨⟨c0, c1, c2, c3, c4, c5⟩, g0, g1, g2, g3, g4, g5⟩ := hcell.out _ B2.out
  go_wp2_with fail
  refine (HB2.out _).mono ?_; rintro e z3 ⟨rfl, hb⟩
  have B3 : Hid (Below z0.heap.size z0 z3) := bel_trans B2.out hb
  clear hb c0 c1 c2 c3 c4 c5 g0 g1 g2 g3 g4 g5 HB2 B2
  obtain ⟨⟨c0, c1, c2, c3, c4, c5⟩, g0, g1, g2, g3, g4, g5⟩ := hcell.out _ B3.out
  go_wp2_with fail
  refine (HG2.out _).mono ?_; rintro e z4 ⟨rfl, hb⟩
  go_wp2
  go_ret
  exact ⟨rfl, bel_trans B.out (bel_trans B3.out hb)⟩

theorem own : ownKnob Try.prog.godebug = none := by kernel_rfl
theorem laidOut : laidOutB Try.prog = true := by kernel_rfl

/-! ### The row's step -/
set_option maxRecDepth 100000 in
theorem lifted (os : Os) (started : os.Started) (H : Type) (enc : TypeId × Value → H) :
    ReturnsInHanded {} Try.checked os 4 .any (Rows.leaseFormsSpec.pre6 enc Try.prog Try.f4 Rows.leaseFormsRow.domain false) (Rows.leaseFormsSpec.post enc Try.prog Try.f4 false true false false) := by
  refine returnsInHanded_of_change_sized (C := Try.checked) own started (by kernel_rfl) Try.func4
    (ChangeSpec.witness6 (enc := enc) (C := Try.checked) false ⟨#[], #[.int .i64 0, .int .i64 0], []⟩ 8 (by kernel_rfl) (by kernel_rfl) (by kernel_rfl) (by kernel_rfl)) ?_
  intro W base args ds gs before hval0 hW _ hsz0 _
  have hval : ∀ (j : Nat) t v, Try.f4.params[j]? = some t → args[j]? = some v → Value.okWide Try.prog W .any base t v := hval0
  have hsz : (DataW.weightsEach Try.prog (Try.f4.params.toList ++ Rows.leaseFormsSpec.plain.varTypes Try.prog) (ds ++ gs)).all (· ≤ reachBytes) = true := hsz0
  have hW' := hW
  obtain ⟨p, q, hA0, hV, rfl, _, _⟩ := hW
  have hA : DataW.TrodAll enc Try.prog W 0 (fun _ => true) true Try.f4.params.toList args.toList ds p := hA0
  rw [Try.params4] at hA hval hsz
  obtain ⟨v0, vs0, d0, ds0, p0, q0, hargs, rfl, rfl, h0, r0⟩ := trodAll_cons hA
  obtain ⟨v1, vs1, d1, ds1, p1, q1, rfl, rfl, rfl, h1, r1⟩ := trodAll_cons r0
  obtain ⟨rfl, rfl, rfl⟩ := trodAll_nil r1
  obtain rfl : args = #[v0, v1] := by cases args; simp_all
  obtain ⟨rfl, rfl⟩ := trodVars_none hV
  obtain ⟨a0, rfl, rfl, rfl, w0⟩ := open_int Try.underlying3 (hval 0 3 v0 rfl rfl) h0
  obtain ⟨a1, rfl, rfl, rfl, w1⟩ := open_int Try.underlying3 (hval 1 3 v1 rfl rfl) h1
  clear hA0 hval0 hsz0
  refine (walk a0 a1 W w0 w1).mono fun e W' ⟨he, bel⟩ => ?_
  subst he
  exact ⟨_, rfl, _, _, _, [], [], [], hW', trodAll_mk1 (shut_bool Try.underlying4 _), (trodAll_cons_mk (shut_int Try.underlying3 w0) (trodAll_cons_mk (shut_int Try.underlying3 w1) trodAll_mk0)), rfl, bel.frame _, fun h => by cases h⟩

theorem over : Rows.leaseFormsRow.holds Try.pinned (OpenSpec.ofChange Rows.leaseFormsSpec) :=
  OpenClaim.holds_of_wide 4 Try.f4 rfl rfl rfl rfl rfl rfl rfl ⟨rfl, rfl, rfl, rfl, rfl⟩ rfl rfl rfl rfl rfl (by kernel_rfl) Try.func4 (by kernel_rfl)
    (of_decide_eq_true (by kernel_rfl)) (by unfold Func.isWrapper; first | (rw [if_pos (by decide +kernel)]; kernel_rfl) | (rw [if_neg (by decide +kernel)]; exact ⟨rfl, rfl⟩))
    (fun os started H enc _ => lifted os started H enc)

/-- The given statement. -/
theorem proved : Rows.LeaseFormsSaid := over

end Go.Proofs.Ytlnkpgmflaekoaa.leaseForms
namespace Go.Proofs.Ytlnkpgmflaekoaa
theorem leaseForms_proved : Rows.LeaseFormsSaid := leaseForms.proved
#print axioms leaseForms_proved
end Go.Proofs.Ytlnkpgmflaekoaa
