/-
  Proved here: pinfoldlaw11.ConfForms answers true for every two numbers: configurations that may not be, one thing at a time (P11.1).
  Conditions: none but the row's own.
-/
import Derived.Test.YtedbihckdbpebaaConfBad
import Derived.WalkKit
import Derived.ProofKit
import Derived.OpenShut
import Derived.ShutString
import Derived.ChangeOld
import Derived.SizedLaws
import Derived.Carry
import Derived.RegionTactic
import Derived.Deep.DeepCutAuto
import Derived.Deep.CutRange
namespace Go.Proofs.Ytedbihckdbpebaa.confForms
open Go.ChangeShapes Go.WideShapes Go.ChangeAt Go.RowKit Go.Pin Go.PlainAid Go.ChangeMaps confBad

/-- The last statement of a block: a cut may stand there. -/
theorem wp_unblock {P : Program} {s : Code} {n : Nat} {K : Act → World → Prop} {Q' : Exit → Act → World → Prop} {a : Act} {w : World} (h : s.wp P (Exit.then K (Exit.inBlock n (Exit.then K Q'))) a w) : s.wp P (Exit.inBlock n (Exit.then K Q')) a w := by
  refine wp_mono h ?_
  intro e a' w' hq
  cases e <;> exact hq

theorem tag_mod (a : Int) : ∃ J : Int, (IntKind.u64.wrap a).tmod 18 = J ∧ 0 ≤ J ∧ J < 18 := by
  have h0 : 0 ≤ IntKind.u64.wrap a := by
    show 0 ≤ a % _
    exact Int.emod_nonneg _ (by decide)
  exact ⟨_, rfl, Int.tmod_nonneg _ h0, Int.tmod_lt_of_pos _ (by omega)⟩

set_option maxRecDepth 100000 in
set_option maxHeartbeats 8000000 in
theorem walk (a0 a1 : Int) (w : World) (_w0 : (Lit.int .i64 a0).wf = true) (_w1 : (Lit.int .i64 a1).wf = true) : Calls Try.prog 5 #[.int .i64 a0, .int .i64 a1] w fun e w' => e = .returned (.bool true) ∧ Below w.heap.size w w' := by
  obtain ⟨I, hI, hI0, hI18⟩ : ∃ J : Int, (IntKind.u64.wrap a0).tmod 18 = J ∧ 0 ≤ J ∧ J < 18 := tag_mod a0
  have hm := i64_mask 10 a1 (by omega)
  obtain ⟨dd, hd, hd1⟩ : ∃ d : Int, a1 % 1024 = d ∧ 0 ≤ d ∧ d < 1024 := ⟨_, rfl, Int.emod_nonneg _ (by omega), Int.emod_lt_of_pos _ (by omega)⟩
  obtain ⟨hd0, hd1⟩ := hd1
  have hm' : bits .and .i64 a1 1023 = dd := by rw [← hd]; exact hm
  clear hm hd
  have HG : Hid (∀ w, _) := fun w => given11_c w
  simp only [cv, cellsC] at HG
  have hst : Hid (gC.st = [gR]) := rfl
  have hg0 : Hid (gC = ⟨10, 13, [12], [⟨⟨#[118, 105, 112]⟩, 13⟩], 100, ⟨#[108, 97, 110]⟩, [gR]⟩) := rfl
  go_enter Try.func5, Try.ntmps5
  go_wp2_with fail
  refine (awake11_yes _).mono ?_; rintro e x1 ⟨rfl, hb1⟩
  have B1 : Hid (Below w.heap.size w x1) := hb1
  clear hb1
  go_wp2_with fail
  refine (HG.out _).mono ?_; rintro e x2 ⟨⟨p, rfl, hR⟩, hb⟩
  have hX := BoxC.new x2 gC p
  obtain ⟨x3, hx3⟩ : ∃ w3, x2.alloc (.cells (cellsC gC p) 26) = w3 := ⟨_, rfl⟩
  rw [hx3] at hX
  have h2 : Below x2.heap.size x2 x3 := by rw [← hx3]; exact (Below.refl _ _).alloc (Nat.le_refl _) _
  have S : Hid (St w x1.heap.size x2.heap.size x3 gC p) := ⟨row_below hR.e h2, row_below hR.r h2, row_below hR.s h2, hX, fun k hk => by have := (World.ownsRow.lt hR.e k hk).2; omega, fun k hk => by have := (World.ownsRow.lt hR.r k hk).2; omega, fun k hk => by have := (World.ownsRow.lt hR.s k hk).2; omega, B1.out.size, hb.size, bel_trans (bel_trans B1.out hb) h2⟩
  simp only [cellsC] at hx3
  have Hx3 : Hid (_ = x3) := hx3
  clear hX hb h2 hx3 B1 hR
  go_upto_region 5 with fail
  rw [Hx3.out]
  clear Hx3
  go_upto_if 26 with fail
  refine wp_unblock ?_
  clear hI
  generalize x1.heap.size = base at *
  generalize x2.heap.size = d at *
  go_cut [] from 20 to 111 (fun wx => ∃ c' p', Hid (St w base d wx c' p') ∧ Hid (CfFits c') ∧ Hid (mayC c' = false))
  case first =>
    obtain ⟨c0, c1, c2, c3, c4, c5, c6⟩ := S.out.x.all
    have f0 := S.out.fz 0
    have f1 := S.out.fz 1
    have f2 := S.out.fz 2
    have f3 := S.out.fz 3
    have f4 := S.out.fz 4
    have f5 := S.out.fz 5
    have S' := S.out
    rw [hg0.out] at S'
    obtain ⟨g, hg, hgc, hgf⟩ := S'.at
    have g0 := hgc 0 (by omega)
    have g1 := hgc 1 (by omega)
    have g2 := hgc 2 (by omega)
    have g3 := hgc 3 (by omega)
    have g4 := hgc 4 (by omega)
    have g5 := hgc 5 (by omega)
    have g6 := hgc 6 (by omega)
    have k0 := hgf 0
    have k1 := hgf 1
    have k2 := hgf 2
    have k3 := hgf 3
    have k4 := hgf 4
    have k5 := hgf 5
    have k6 := hgf 6
    rw [hg] at c6
    simp only [gC, List.length_cons, List.length_nil, Nat.zero_add] at c0 c1 c2 c3 c4 c5 c6
    simp only [cellsR, gR, List.getElem?_cons_zero, List.getElem?_cons_succ] at g0 g1 g2 g3 g4 g5 g6
    have Hg : Hid (p.sa = some ⟨g, 0, none⟩) := hg
    clear S' hgc hgf hst hg0 HG hg
    rcases (by omega : I = 0 ∨ I = 1 ∨ I = 2 ∨ I = 3 ∨ I = 4 ∨ I = 5 ∨ I = 6 ∨ I = 7 ∨ I = 8 ∨ I = 9 ∨ I = 10 ∨ I = 11 ∨ I = 12 ∨ I = 13 ∨ I = 14 ∨ I = 15 ∨ I = 16 ∨ I = 17) with rfl | rfl | rfl | rfl | rfl | rfl | rfl | rfl | rfl | rfl | rfl | rfl | rfl | rfl | rfl | rfl | rfl | rfl
    · go_wp2_with fail
      go_meet
      exact ⟨_, _, S.out.field (c' := { gC with fi := 2 - (1 + dd) }) 0 _ rfl rfl rfl rfl, g_same (by decide), no_0 dd hd0⟩
    · go_wp2_with fail
      go_meet
      exact ⟨_, _, S.out.field (c' := { gC with la := 254 + (1 + dd) }) 1 _ rfl rfl rfl rfl, g_same (by decide), no_1 dd hd0⟩
    · go_wp2_with fail
      go_meet
      exact ⟨_, _, S.out.field (c' := { gC with la := 9 }) 1 _ rfl rfl rfl rfl, g_same (by decide), no_2⟩
    · go_wp2_with fail
      go_meet
      exact ⟨_, _, S.out.field (c' := { gC with la := 18 }) 1 _ rfl rfl rfl rfl, g_same (by decide), no_3⟩
    · have hX := S.out.x.below ((Below.refl x3.heap.size x3).alloc (Nat.le_refl _) (.cells #[.int .i64 9] 3))
      have ca := hX.all.2.2.1
      have fa := hX.fz 2
      clear hX
      go_wp2_with fail
      go_meet
      exact ⟨_, _, S.out.newE _ [9] rfl (by simp) (by simp), g_ex (by simp), no_4⟩
    · have hX := S.out.x.below ((Below.refl x3.heap.size x3).alloc (Nat.le_refl _) (.cells #[.int .i64 (13 + (1 + dd))] 3))
      have ca := hX.all.2.2.1
      have fa := hX.fz 2
      clear hX
      go_wp2_with fail
      go_meet
      exact ⟨_, _, S.out.newE _ [13 + (1 + dd)] rfl (by simp) (by simp), g_ex (by simp), no_5 dd hd0⟩
    · have hX := S.out.x.below ((Below.refl x3.heap.size x3).alloc (Nat.le_refl _) (.cells #[.int .i64 11, .int .i64 11] 3))
      have ca := hX.all.2.2.1
      have fa := hX.fz 2
      clear hX
      go_wp2_with fail
      go_meet
      exact ⟨_, _, S.out.newE _ [11, 11] rfl (by simp) (by simp), g_ex (by simp), no_6⟩
    · have hX := S.out.x.below ((Below.refl x3.heap.size x3).alloc (Nat.le_refl _) (.cells #[.string ⟨#[97]⟩, .int .i64 14] 47))
      have ca := hX.all.2.2.2.1
      have fa := hX.fz 3
      clear hX
      go_wp2_with fail
      go_meet
      exact ⟨_, _, S.out.newR _ [⟨⟨#[97]⟩, 14⟩] rfl (by simp) (by simp), g_rs (by simp) (by decide), no_7⟩
    · have hX := S.out.x.below ((Below.refl x3.heap.size x3).alloc (Nat.le_refl _) (.cells #[.string ⟨#[97]⟩, .int .i64 10, .string ⟨#[98]⟩, .int .i64 10] 47))
      have ca := hX.all.2.2.2.1
      have fa := hX.fz 3
      clear hX
      go_wp2_with fail
      go_meet
      exact ⟨_, _, S.out.newR _ [⟨⟨#[97]⟩, 10⟩, ⟨⟨#[98]⟩, 10⟩] rfl (by simp) (by simp), g_rs (by simp) (by decide), no_8⟩
    · have hX := S.out.x.below ((Below.refl x3.heap.size x3).alloc (Nat.le_refl _) (.cells #[.string ⟨#[97]⟩, .int .i64 10, .string ⟨#[97]⟩, .int .i64 11] 47))
      have ca := hX.all.2.2.2.1
      have fa := hX.fz 3
      clear hX
      go_wp2_with fail
      go_meet
      exact ⟨_, _, S.out.newR _ [⟨⟨#[97]⟩, 10⟩, ⟨⟨#[97]⟩, 11⟩] rfl (by simp) (by simp), g_rs (by simp) (by decide), no_9⟩
    · have hX := S.out.x.below ((Below.refl x3.heap.size x3).alloc (Nat.le_refl _) (.cells #[.string ⟨#[]⟩, .int .i64 10] 47))
      have ca := hX.all.2.2.2.1
      have fa := hX.fz 3
      clear hX
      go_wp2_with fail
      go_meet
      exact ⟨_, _, S.out.newR _ [⟨⟨#[]⟩, 10⟩] rfl (by simp) (by simp), g_rs (by simp) (by decide), no_10⟩
    · go_wp2_with fail
      go_meet
      exact ⟨_, _, S.out.field (c' := { gC with ti := 1 - (1 + dd) }) 4 _ rfl rfl rfl rfl, g_same (by decide), no_11 dd hd0⟩
    · go_wp2_with fail
      go_meet
      exact ⟨_, _, S.out.field (c' := { gC with ti := 1048576 + (1 + dd) }) 4 _ rfl rfl rfl rfl, g_same (by decide), no_12 dd hd0⟩
    · go_wp2_with fail
      go_meet
      exact ⟨_, _, S.out.field (c' := { gC with zo := ⟨#[97, 46, 98, 46, 99, 46, 100, 46, 101]⟩ }) 5 _ rfl rfl rfl rfl, g_same (by decide), no_13⟩
    · go_wp2_with fail
      go_meet
      exact ⟨_, _, S.out.stat (r' := { gR with n := ⟨#[108, 97, 110]⟩ }) Hg.out 0 _ rfl, g_st (by decide), no_14⟩
    · go_wp2_with fail
      go_meet
      exact ⟨_, _, S.out.stat (r' := { gR with n := ⟨#[119, 119, 119, 46, 110, 101, 116]⟩ }) Hg.out 0 _ rfl, g_st (by decide), no_15⟩
    · go_wp2_with fail
      go_meet
      exact ⟨_, _, (((((((S.out.stat (r' := ⟨⟨#[97, 46, 108, 97, 110]⟩, 1, 5, 7, ⟨#[]⟩, ⟨#[]⟩, 0⟩) Hg.out 0 _ rfl).stat (r' := ⟨⟨#[97, 46, 108, 97, 110]⟩, 2, 5, 7, ⟨#[]⟩, ⟨#[]⟩, 0⟩) Hg.out 1 _ rfl).stat (r' := ⟨⟨#[97, 46, 108, 97, 110]⟩, 2, 0, 7, ⟨#[]⟩, ⟨#[]⟩, 0⟩) Hg.out 2 _ rfl).stat (r' := ⟨⟨#[97, 46, 108, 97, 110]⟩, 2, 0, 0, ⟨#[]⟩, ⟨#[]⟩, 0⟩) Hg.out 3 _ rfl).stat (r' := ⟨⟨#[97, 46, 108, 97, 110]⟩, 2, 0, 0, ⟨#[98]⟩, ⟨#[]⟩, 0⟩) Hg.out 4 _ rfl).stat (r' := ⟨⟨#[97, 46, 108, 97, 110]⟩, 2, 0, 0, ⟨#[98]⟩, ⟨#[]⟩, 0⟩) Hg.out 5 _ rfl).stat (r' := ⟨⟨#[97, 46, 108, 97, 110]⟩, 2, 0, 0, ⟨#[98]⟩, ⟨#[]⟩, 0⟩) Hg.out 6 _ rfl), g_st (by decide), no_16⟩
    · go_wp2_with fail
      go_meet
      exact ⟨_, _, S.out.stat (r' := { gR with ttl := -(1 + dd) }) Hg.out 2 _ rfl, g_st (show gR.n.size ≤ 100 ∧ gR.tg.size ≤ 100 ∧ gR.tx.size ≤ 100 by decide), no_17 dd hd0⟩
  case rest =>
  obtain ⟨c', p', S', F', N'⟩ := hcut
  rename World => wx
  clear S hI0 hI18 hm' hst hg0
  have HO : Hid (∀ w', Below wx.heap.size wx w' → _) := fun w' hb => owner_is c' p' 13 _ _ w' (S'.out.lies.below hb) F'.out (owner_no 13 N'.out)
  have HV : Hid (∀ w', Below wx.heap.size wx w' → _) := fun w' hb => reserved_is c' p' ⟨#[118, 105, 112]⟩ _ _ w' (S'.out.lies.below hb) F'.out (reserved_no _ N'.out)
  have HM : Hid (∀ w', Below wx.heap.size wx w' → _) := fun w' hb => cMay_is c' p' _ w' (S'.out.lies.below hb) F'.out N'.out
  have HU : Hid (∀ w', Below wx.heap.size wx w' → _) := fun w' hb => usable_is c' p' 10 _ w' (S'.out.lies.below hb) F'.out (usable_no 10 N'.out)
  have HN : Hid (∀ (p : CPl) (w : World), CfLies w gC p → _) := fun p w h => cMay_is gC p _ w h gC_fits gC_may
  have X : Hid (BoxC wx d c' p') := S'.out.x
  have B : Hid (Below w.heap.size w wx) := S'.out.b
  have hcell : Hid (∀ (w' : World), BoxC w' d c' p' → _) := fun w' h => h.all
  clear S' F' N'
  simp only [cv, cellsC] at HO HV HM HU HN
  generalize gC = gg at *
  obtain ⟨c0, c1, c2, c3, c4, c5, c6⟩ := hcell.out _ X.out
  go_wp2_with fail
  refine (HO.out _ (Below.refl _ _)).mono ?_; rintro e y1 ⟨rfl, hb⟩
  have C1 : Hid (Below wx.heap.size wx y1) := hb
  clear hb c0 c1 c2 c3 c4 c5 c6 HO
  obtain ⟨c0, c1, c2, c3, c4, c5, c6⟩ := hcell.out _ (X.out.below C1.out)
  go_wp2_with fail
  refine (HV.out _ C1.out).mono ?_; rintro e y2 ⟨rfl, hb⟩
  have C2 : Hid (Below wx.heap.size wx y2) := bel_trans C1.out hb
  clear hb c0 c1 c2 c3 c4 c5 c6 HV C1
  obtain ⟨c0, c1, c2, c3, c4, c5, c6⟩ := hcell.out _ (X.out.below C2.out)
  go_wp2_with fail
  refine (HM.out _ C2.out).mono ?_; rintro e y3 ⟨rfl, hb⟩
  have C3 : Hid (Below wx.heap.size wx y3) := bel_trans C2.out hb
  clear hb c0 c1 c2 c3 c4 c5 c6 HM C2
  obtain ⟨c0, c1, c2, c3, c4, c5, c6⟩ := hcell.out _ (X.out.below C3.out)
  go_wp2_with fail
  refine (HU.out _ C3.out).mono ?_; rintro e y4 ⟨rfl, hb⟩
  have C4 : Hid (Below wx.heap.size wx y4) := bel_trans C3.out hb
  clear hb c0 c1 c2 c3 c4 c5 c6 HU C3
  go_wp2_with fail
  refine (HG.out _).mono ?_; rintro e y5 ⟨⟨p5, rfl, hR⟩, hb⟩
  have C5 : Hid (Below wx.heap.size wx y5) := bel_trans C4.out hb
  have L5 : Hid (CfLies y5 gg p5) := hR.lies
  clear hb hR C4 HG
  go_wp2_with fail
  refine (HN.out _ _ L5.out).mono ?_; rintro e y6 ⟨rfl, hb⟩
  go_wp2
  go_ret
  exact ⟨rfl, bel_trans B.out (bel_trans C5.out hb)⟩

theorem own : ownKnob Try.prog.godebug = none := by kernel_rfl
theorem laidOut : laidOutB Try.prog = true := by kernel_rfl

/-! ### The row's step -/
set_option maxRecDepth 100000 in
theorem lifted (os : Os) (started : os.Started) (H : Type) (enc : TypeId × Value → H) :
    ReturnsInHanded {} Try.checked os 5 .any (Rows.confFormsSpec.pre6 enc Try.prog Try.f5 Rows.confFormsRow.domain false) (Rows.confFormsSpec.post enc Try.prog Try.f5 false true false false) := by
  refine returnsInHanded_of_change_sized (C := Try.checked) own started (by kernel_rfl) Try.func5
    (ChangeSpec.witness6 (enc := enc) (C := Try.checked) false ⟨#[], #[.int .i64 0, .int .i64 0], []⟩ 8 (by kernel_rfl) (by kernel_rfl) (by kernel_rfl) (by kernel_rfl)) ?_
  intro W base args ds gs before hval0 hW _ hsz0 _
  have hval : ∀ (j : Nat) t v, Try.f5.params[j]? = some t → args[j]? = some v → Value.okWide Try.prog W .any base t v := hval0
  have hsz : (DataW.weightsEach Try.prog (Try.f5.params.toList ++ Rows.confFormsSpec.plain.varTypes Try.prog) (ds ++ gs)).all (· ≤ reachBytes) = true := hsz0
  have hW' := hW
  obtain ⟨p, q, hA0, hV, rfl, _, _⟩ := hW
  have hA : DataW.TrodAll enc Try.prog W 0 (fun _ => true) true Try.f5.params.toList args.toList ds p := hA0
  rw [Try.params5] at hA hval hsz
  obtain ⟨v0, vs0, d0, ds0, p0, q0, hargs, rfl, rfl, h0, r0⟩ := trodAll_cons hA
  obtain ⟨v1, vs1, d1, ds1, p1, q1, rfl, rfl, rfl, h1, r1⟩ := trodAll_cons r0
  obtain ⟨rfl, rfl, rfl⟩ := trodAll_nil r1
  obtain rfl : args = #[v0, v1] := by cases args; simp_all
  obtain ⟨rfl, rfl⟩ := trodVars_none hV
  obtain ⟨a0, rfl, rfl, rfl, w0⟩ := open_int Try.underlying3 (hval 0 3 v0 rfl rfl) h0
  obtain ⟨a1, rfl, rfl, rfl, w1⟩ := open_int Try.underlying3 (hval 1 3 v1 rfl rfl) h1
  clear hA0 hval0 hsz0
  refine (walk a0 a1 W w0 w1).mono fun e W' ⟨he, bel⟩ => ?_
  subst he
  exact ⟨_, rfl, _, _, _, [], [], [], hW', trodAll_mk1 (shut_bool Try.underlying4 _), (trodAll_cons_mk (shut_int Try.underlying3 w0) (trodAll_cons_mk (shut_int Try.underlying3 w1) trodAll_mk0)), rfl, bel.frame _, fun h => by cases h⟩

theorem over : Rows.confFormsRow.holds Try.pinned (OpenSpec.ofChange Rows.confFormsSpec) :=
  OpenClaim.holds_of_wide 5 Try.f5 rfl rfl rfl rfl rfl rfl rfl ⟨rfl, rfl, rfl, rfl, rfl⟩ rfl rfl rfl rfl rfl (by kernel_rfl) Try.func5 (by kernel_rfl)
    (of_decide_eq_true (by kernel_rfl)) (by unfold Func.isWrapper; first | (rw [if_pos (by decide +kernel)]; kernel_rfl) | (rw [if_neg (by decide +kernel)]; exact ⟨rfl, rfl⟩))
    (fun os started H enc _ => lifted os started H enc)

/-- The given statement. -/
theorem proved : Rows.ConfFormsSaid := over

end Go.Proofs.Ytedbihckdbpebaa.confForms
namespace Go.Proofs.Ytedbihckdbpebaa
theorem confForms_proved : Rows.ConfFormsSaid := confForms.proved
#print axioms confForms_proved
end Go.Proofs.Ytedbihckdbpebaa
