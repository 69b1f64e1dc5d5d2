/-
  Proved here: pinfoldlaw11.Confs answers true for every configuration, host, client and address (P11.1, P11.2): every call of package conf answers as the document's own reckoning.
  Conditions: the arguments' bulk is at most 1048576 (the second form).
-/
import Derived.Test.YtedbihckdbpebaaAwake11
import Derived.Test.YtedbihckdbpebaaConfOpen
import Derived.Test.YtedbihckdbpebaaConfRef3
import Derived.OpenShut
import Derived.ShutString
import Derived.ChangeOld
import Derived.SizedLaws
import Derived.Carry
import Derived.RegionTactic
import Derived.Deep.RegionHeld3
import Derived.Deep.QuietTactic
import Derived.BigQuiet
import Derived.Deep.CondSized
import Derived.JoinedCond
import Derived.Deep.DeepCutAuto
import Derived.Deep.CutRange
namespace Go.Proofs.Ytedbihckdbpebaa.confs
open Go.ChangeShapes Go.WideShapes Go.ChangeAt Go.RowKit Go.Pin Go.PlainAid Go.ChangeMaps

theorem rOwner_is (c : Cf) (p : CPl) (x : Int) (s : ByteArray) (b : Bool) (w : World) (hL : CfLies w c p) (hl : c.rs.length ≤ 10000000000000) (hz : c.zo.size ≤ 1048576) (hs : ∀ r ∈ c.st, r.n.size ≤ 1048576 ∧ r.tg.size ≤ 1048576) (h : ownerC c x = (s, b)) : Calls Try.prog 10 #[cv c p, .int .i64 x] w fun e w' => e = .returned (.tuple #[.string s, .bool b]) ∧ Below w.heap.size w w' := by
  have := rOwner_c c p x w hL hl hz hs
  rw [h] at this; exact this
theorem rReserved_is (c : Cf) (p : CPl) (x : ByteArray) (s : Int) (b : Bool) (w : World) (hL : CfLies w c p) (hl : c.rs.length ≤ 10000000000000) (hz : c.zo.size ≤ 1048576) (hs : ∀ r ∈ c.st, r.n.size ≤ 1048576 ∧ r.tg.size ≤ 1048576) (h : reservedC c x = (s, b)) : Calls Try.prog 12 #[cv c p, .string x] w fun e w' => e = .returned (.tuple #[.int .i64 s, .bool b]) ∧ Below w.heap.size w w' := by
  have := rReserved_c c p x w hL hl hz hs
  rw [h] at this; exact this
theorem rMay_is (c : Cf) (p : CPl) (b : Bool) (w : World) (hL : CfLies w c p) (hz : c.zo.size ≤ 1048576) (hs : ∀ r ∈ c.st, r.n.size ≤ 1048576 ∧ r.tg.size ≤ 1048576) (h : mayC c = b) : Calls Try.prog 16 #[cv c p] w fun e w' => e = .returned (.bool b) ∧ Below w.heap.size w w' := by
  rw [← h]; exact rMay_c c p w hL hz hs
theorem rUsable_is (c : Cf) (p : CPl) (x : Int) (b : Bool) (w : World) (hL : CfLies w c p) (hl : c.ex.length ≤ 10000000000000) (hz : c.zo.size ≤ 1048576) (hs : ∀ r ∈ c.st, r.n.size ≤ 1048576 ∧ r.tg.size ≤ 1048576) (h : usableC c x = b) : Calls Try.prog 18 #[cv c p, .int .i64 x] w fun e w' => e = .returned (.bool b) ∧ Below w.heap.size w w' := by
  rw [← h]; exact rUsable_c c p x w hL hl hz hs
theorem rAddress_is (x a e : Int) (w : World) (h : addrA x = (a, e)) : Calls Try.prog 14 #[.int .i64 x] w fun r w' => r = .returned (.tuple #[.int .i64 a, .int .i64 e]) ∧ w' = w := by
  have := rAddress_c x w
  rw [h] at this; exact this
theorem rHost_is (x h : Int) (w : World) (hh : hostA x = h) : Calls Try.prog 21 #[.int .i64 x] w fun r w' => r = .returned (.int .i64 h) ∧ w' = w := by
  rw [← hh]; exact rHost_c x w

set_option maxRecDepth 100000 in
set_option maxHeartbeats 8000000 in
theorem walk (c : Cf) (p : CPl) (h : Int) (s : ByteArray) (a : Int) (w : World) (hL : CfLies w c p) (hF : CfFits c) (hR : CfBulk c 1048576) (_w1 : (Lit.int .i64 h).wf = true) (_w2 : s.size ≤ 1048576) (_w3 : (Lit.int .i64 a).wf = true) :
    Calls Try.prog 3 #[cv c p, .int .i64 h, .string s, .int .i64 a] w fun e w' => e = .returned (.bool true) ∧ Below w.heap.size w w' := by
  clear _w1 _w2 _w3
  have le := hR.e
  have lr := hR.r
  have ls := hR.s
  have hs : ∀ r ∈ c.st, r.n.size ≤ 1048576 ∧ r.tg.size ≤ 1048576 := fun r hr => by have := hR.t r hr; omega
  have HC : Hid (∀ w', Below w.heap.size w w' → _) := fun w' hb => copyCf_c c p w' (hL.below hb) (by omega) (by omega) (by omega)
  obtain ⟨oS, oB, ho⟩ : ∃ s b, ownerC c h = (s, b) := ⟨_, _, rfl⟩
  obtain ⟨vI, vB, hv⟩ : ∃ i b, reservedC c s = (i, b) := ⟨_, _, rfl⟩
  obtain ⟨mB, hm⟩ : ∃ b, mayC c = b := ⟨_, rfl⟩
  obtain ⟨uB, hu⟩ : ∃ b, usableC c h = b := ⟨_, rfl⟩
  obtain ⟨aA, aE, ha⟩ : ∃ x e, addrA h = (x, e) := ⟨_, _, rfl⟩
  obtain ⟨hA, hh⟩ : ∃ x, hostA a = x := ⟨_, rfl⟩
  have HO1 : Hid (∀ w', Below w.heap.size w w' → _) := fun w' hb => rOwner_is c p h oS oB w' (hL.below hb) (by omega) hR.z hs ho
  have HV1 : Hid (∀ w', Below w.heap.size w w' → _) := fun w' hb => rReserved_is c p s vI vB w' (hL.below hb) (by omega) hR.z hs hv
  have HM1 : Hid (∀ w', Below w.heap.size w w' → _) := fun w' hb => rMay_is c p mB w' (hL.below hb) hR.z hs hm
  have HU1 : Hid (∀ w', Below w.heap.size w w' → _) := fun w' hb => rUsable_is c p h uB w' (hL.below hb) (by omega) hR.z hs hu
  have HO2 : Hid (∀ (w' : World) (q : CPl), CfLies w' c q → _) := fun w' q hl => owner_is c q h oS oB w' hl hF ho
  have HV2 : Hid (∀ (w' : World) (q : CPl), CfLies w' c q → _) := fun w' q hl => reserved_is c q s vI vB w' hl hF hv
  have HM2 : Hid (∀ (w' : World) (q : CPl), CfLies w' c q → _) := fun w' q hl => cMay_is c q mB w' hl hF hm
  have HU2 : Hid (∀ (w' : World) (q : CPl), CfLies w' c q → _) := fun w' q hl => usable_is c q h uB w' hl hF hu
  have HA1 : Hid (∀ w', _) := fun w' => rAddress_is h aA aE w' ha
  have HA2 : Hid (∀ w', _) := fun w' => address_is h aA aE w' ha
  have HH1 : Hid (∀ w', _) := fun w' => rHost_is a hA w' hh
  have HH2 : Hid (∀ w', _) := fun w' => host_is a hA w' hh
  have HQ : Hid (∀ (w' : World) (q : CPl), CfLies w' c q → CfLies w' c p → _) := fun w' q h1 h2 => sameCf_c c q p w' (by omega) (by omega) (by omega) h1 h2
  have HL1 : Hid (CfLies w c p) := hL
  clear ho hv hm hu ha hh
  have BX : Hid (BoxC (w.alloc (.cells (cellsC c p) 26)) w.heap.size c p) := BoxC.new w c p
  have B0 : Hid (Below w.heap.size w (w.alloc (.cells (cellsC c p) 26))) := (Below.refl w.heap.size w).alloc (Nat.le_refl _) _
  have hcell : Hid (∀ (w' : World) (b : Nat) (q : CPl), BoxC w' b c q → _) := fun w' b q h => h.all
  have hnew : Hid (∀ (w : World) (p : CPl), _) := fun w p => BoxC.new w c p
  clear hL hF hR hs le lr ls
  simp only [cv, cellsC] at *
  go_enter Try.func3, Try.ntmps3
  obtain ⟨w1, hw1⟩ : ∃ w1, w.alloc (.cells #[.int .i64 c.fi, .int .i64 c.la, .slice p.ea c.ex.length p.ec, .slice p.ra c.rs.length p.rc, .int .i64 c.ti, .string c.zo, .slice p.sa c.st.length p.sc] 26) = w1 := ⟨_, rfl⟩
  rw [hw1] at *
  clear hw1
  obtain ⟨c0, c1, c2, c3, c4, c5, c6⟩ := hcell.out _ _ _ BX.out
  go_wp2_with fail
  refine (HC.out _ B0.out).mono ?_; rintro e w2 ⟨⟨q, rfl, hR⟩, hb⟩
  have hX := hnew.out w2 q
  obtain ⟨wq, hwq⟩ : ∃ w3, w2.alloc (.cells #[.int .i64 c.fi, .int .i64 c.la, .slice q.ea c.ex.length q.ec, .slice q.ra c.rs.length q.rc, .int .i64 c.ti, .string c.zo, .slice q.sa c.st.length q.sc] 26) = w3 := ⟨_, rfl⟩
  rw [hwq] at hX
  have h2 : Below w2.heap.size w2 wq := by rw [← hwq]; exact (Below.refl _ _).alloc (Nat.le_refl _) _
  have Y : Hid (BoxC wq w2.heap.size c q) := hX
  have X : Hid (BoxC wq w.heap.size c p) := (BX.out.below hb).below h2
  have B : Hid (Below w.heap.size w wq) := bel_trans (bel_trans B0.out hb) h2
  have L1 : Hid (CfLies wq c p) := HL1.out.below B.out
  have L2 : Hid (CfLies wq c q) := hR.lies.below h2
  have Hwq : Hid (_ = wq) := hwq
  clear hX hR hb h2 hwq c0 c1 c2 c3 c4 c5 c6 HC hnew BX B0 HL1
  go_upto_region 2 with fail
  rw [Hwq.out]
  clear Hwq
  generalize w2.heap.size = d at *
  obtain ⟨d0, d1, d2, d3, d4, d5, d6⟩ := hcell.out _ _ _ Y.out
  go_wp2_with fail
  refine (HO2.out _ q L2.out).mono ?_; rintro e y1 ⟨rfl, hb⟩
  have C1 : Hid (Below wq.heap.size wq y1) := hb
  clear hb d0 d1 d2 d3 d4 d5 d6 HO2
  obtain ⟨c0, c1, c2, c3, c4, c5, c6⟩ := hcell.out _ _ _ (X.out.below C1.out)
  go_wp2_with fail
  refine (HO1.out _ (bel_trans B.out C1.out)).mono ?_; rintro e y2 ⟨rfl, hb⟩
  have C2 : Hid (Below wq.heap.size wq y2) := bel_trans C1.out hb
  clear hb c0 c1 c2 c3 c4 c5 c6 HO1 C1
  obtain ⟨d0, d1, d2, d3, d4, d5, d6⟩ := hcell.out _ _ _ (Y.out.below C2.out)
  go_wp2_with fail
  refine (HV2.out _ q (L2.out.below C2.out)).mono ?_; rintro e y3 ⟨rfl, hb⟩
  have C3 : Hid (Below wq.heap.size wq y3) := bel_trans C2.out hb
  clear hb d0 d1 d2 d3 d4 d5 d6 HV2 C2
  obtain ⟨c0, c1, c2, c3, c4, c5, c6⟩ := hcell.out _ _ _ (X.out.below C3.out)
  go_wp2_with fail
  refine (HV1.out _ (bel_trans B.out C3.out)).mono ?_; rintro e y4 ⟨rfl, hb⟩
  have C4 : Hid (Below wq.heap.size wq y4) := bel_trans C3.out hb
  clear hb c0 c1 c2 c3 c4 c5 c6 HV1 C3
  go_wp2_with fail
  refine (HA2.out _).mono ?_; rintro e z1 ⟨rfl, h⟩; subst h
  go_wp2_with fail
  refine (HA1.out _).mono ?_; rintro e z2 ⟨rfl, h⟩; subst h
  go_wp2_with fail
  have HS : Hid (∀ w', Below wq.heap.size wq w' → (w'.cell? ⟨w.heap.size, 0, none⟩ = some (.int .i64 c.fi) ∧ w'.cell? ⟨w.heap.size, 1, none⟩ = some (.int .i64 c.la) ∧ w'.cell? ⟨w.heap.size, 2, none⟩ = some (.slice p.ea c.ex.length p.ec) ∧ w'.cell? ⟨w.heap.size, 3, none⟩ = some (.slice p.ra c.rs.length p.rc) ∧ w'.cell? ⟨w.heap.size, 4, none⟩ = some (.int .i64 c.ti) ∧ w'.cell? ⟨w.heap.size, 5, none⟩ = some (.string c.zo) ∧ w'.cell? ⟨w.heap.size, 6, none⟩ = some (.slice p.sa c.st.length p.sc)) ∧ (w'.cell? ⟨d, 0, none⟩ = some (.int .i64 c.fi) ∧ w'.cell? ⟨d, 1, none⟩ = some (.int .i64 c.la) ∧ w'.cell? ⟨d, 2, none⟩ = some (.slice q.ea c.ex.length q.ec) ∧ w'.cell? ⟨d, 3, none⟩ = some (.slice q.ra c.rs.length q.rc) ∧ w'.cell? ⟨d, 4, none⟩ = some (.int .i64 c.ti) ∧ w'.cell? ⟨d, 5, none⟩ = some (.string c.zo) ∧ w'.cell? ⟨d, 6, none⟩ = some (.slice q.sa c.st.length q.sc)) ∧ Below wq.heap.size wq w') := fun w' hb => ⟨(X.out.below hb).all, (Y.out.below hb).all, hb⟩
  have KM2 : Hid (∀ (w' : World), Below wq.heap.size wq w' → _) := fun w' hb => HM2.out w' q (L2.out.below hb)
  have KM1 : Hid (∀ (w' : World), Below wq.heap.size wq w' → _) := fun w' hb => HM1.out w' (bel_trans B.out hb)
  have KU2 : Hid (∀ (w' : World), Below wq.heap.size wq w' → _) := fun w' hb => HU2.out w' q (L2.out.below hb)
  have KU1 : Hid (∀ (w' : World), Below wq.heap.size wq w' → _) := fun w' hb => HU1.out w' (bel_trans B.out hb)
  have KQ : Hid (∀ (w' : World), Below wq.heap.size wq w' → _) := fun w' hb => HQ.out w' q (L2.out.below hb) (L1.out.below hb)
  have C4d : Hid (Below wq.heap.size wq z2.drew) := C4.out.drew
  clear HM1 HM2 HU1 HU2 HQ HA1 HA2 C4 L1 L2 X Y hcell
  go_region_held3 (fun w' => (w'.cell? ⟨w.heap.size, 0, none⟩ = some (.int .i64 c.fi) ∧ w'.cell? ⟨w.heap.size, 1, none⟩ = some (.int .i64 c.la) ∧ w'.cell? ⟨w.heap.size, 2, none⟩ = some (.slice p.ea c.ex.length p.ec) ∧ w'.cell? ⟨w.heap.size, 3, none⟩ = some (.slice p.ra c.rs.length p.rc) ∧ w'.cell? ⟨w.heap.size, 4, none⟩ = some (.int .i64 c.ti) ∧ w'.cell? ⟨w.heap.size, 5, none⟩ = some (.string c.zo) ∧ w'.cell? ⟨w.heap.size, 6, none⟩ = some (.slice p.sa c.st.length p.sc)) ∧ (w'.cell? ⟨d, 0, none⟩ = some (.int .i64 c.fi) ∧ w'.cell? ⟨d, 1, none⟩ = some (.int .i64 c.la) ∧ w'.cell? ⟨d, 2, none⟩ = some (.slice q.ea c.ex.length q.ec) ∧ w'.cell? ⟨d, 3, none⟩ = some (.slice q.ra c.rs.length q.rc) ∧ w'.cell? ⟨d, 4, none⟩ = some (.int .i64 c.ti) ∧ w'.cell? ⟨d, 5, none⟩ = some (.string c.zo) ∧ w'.cell? ⟨d, 6, none⟩ = some (.slice q.sa c.st.length q.sc)) ∧ Below wq.heap.size wq w')
    (first | exact HS.out _ C4d.out | exact HS.out _ sB)
    (first
      | (go_at_call 15; have tB := (‹_ ∧ _ ∧ Below wq.heap.size wq _›).2.2; refine (KM2.out _ tB).mono ?_; rintro e wN ⟨rfl, hbN⟩; have sB := bel_trans tB hbN; clear tB hbN)
      | (go_at_call 16; have tB := (‹_ ∧ _ ∧ Below wq.heap.size wq _›).2.2; refine (KM1.out _ tB).mono ?_; rintro e wN ⟨rfl, hbN⟩; have sB := bel_trans tB hbN; clear tB hbN)
      | (go_at_call 17; have tB := (‹_ ∧ _ ∧ Below wq.heap.size wq _›).2.2; refine (KU2.out _ tB).mono ?_; rintro e wN ⟨rfl, hbN⟩; have sB := bel_trans tB hbN; clear tB hbN)
      | (go_at_call 18; have tB := (‹_ ∧ _ ∧ Below wq.heap.size wq _›).2.2; refine (KU1.out _ tB).mono ?_; rintro e wN ⟨rfl, hbN⟩; have sB := bel_trans tB hbN; clear tB hbN)
      | (go_at_call 19; have sB := (‹_ ∧ _ ∧ Below wq.heap.size wq _›).2.2; refine (num_any _ _).mono ?_; rintro e wN ⟨rfl, rfl⟩)
      | (go_at_call 20; have sB := (‹_ ∧ _ ∧ Below wq.heap.size wq _›).2.2; refine (HH2.out _).mono ?_; rintro e wN ⟨rfl, rfl⟩)
      | (go_at_call 21; have sB := (‹_ ∧ _ ∧ Below wq.heap.size wq _›).2.2; refine (HH1.out _).mono ?_; rintro e wN ⟨rfl, rfl⟩)
      | (go_at_call 22; have tB := (‹_ ∧ _ ∧ Below wq.heap.size wq _›).2.2; refine (KQ.out _ tB).mono ?_; rintro e wN ⟨rfl, hbN⟩; have sB := bel_trans tB hbN; clear tB hbN)
      | (go_at_call 23; have tB := (‹_ ∧ _ ∧ Below wq.heap.size wq _›).2.2; refine (awake11_yes _).mono ?_; rintro e wN ⟨rfl, hbN⟩; have sB := bel_trans tB hbN; clear tB hbN))
  all_goals
    have sF := (‹_ ∧ _ ∧ Below wq.heap.size wq _›).2.2
    go_wp2
    go_ret
    exact ⟨rfl, bel_trans B.out sF⟩

theorem own : ownKnob Try.prog.godebug = none := by kernel_rfl
theorem laidOut : laidOutB Try.prog = true := by kernel_rfl

/-! ### The row's step -/
set_option maxRecDepth 100000 in
theorem lifted (os : Os) (started : os.Started) (H : Type) (enc : TypeId × Value → H) (F : Stop.Interp) :
    ReturnsInHanded {} Try.checked os 3 .any ((Rows.OpenSpec.upto Rows.confsSpec).pre6 enc Try.prog Try.f3 Rows.confsUptoRow.domain false) (((Rows.OpenSpec.upto Rows.confsSpec).at F).post enc Try.prog Try.f3 false true false false) := by
  refine returnsInHanded_of_cond (C := Try.checked) (s := Rows.OpenSpec.upto Rows.confsSpec) (k := Rows.uptoSmall) rfl own started (by kernel_rfl) Try.func3
    (OpenSpec.witness (enc := enc) (C := Try.checked) (s := Rows.OpenSpec.upto Rows.confsSpec) (k := Rows.uptoSmall) rfl false ⟨#[], #[.agg #[.int .i64 0, .int .i64 0, .slice none 0 0, .slice none 0 0, .int .i64 0, .string ByteArray.empty, .slice none 0 0], .int .i64 0, .string ByteArray.empty, .int .i64 0], []⟩ 8 (by kernel_rfl) (by kernel_rfl) (by kernel_rfl)
      (x := ([.agg [.lit (.int .i64 0), .lit (.int .i64 0), .nil, .nil, .lit (.int .i64 0), .lit (.string []), .nil], .lit (.int .i64 0), .lit (.string []), .lit (.int .i64 0)], [], [])) (by kernel_rfl) rfl (by kernel_rfl)) ?_
  intro W base args ds gs before hval0 hW _ hk _
  have hval : ∀ (j : Nat) t v, Try.f3.params[j]? = some t → args[j]? = some v → Value.okWide Try.prog W .any base t v := hval0
  have hW' := hW
  obtain ⟨p, q, hA0, hV, rfl, _, _⟩ := hW
  have hA : DataW.TrodAll enc Try.prog W 0 (fun _ => true) true Try.f3.params.toList args.toList ds p := hA0
  rw [Try.params3] at hA hval
  obtain ⟨v0, vs0, d0, ds0, p0, q0, hargs, rfl, rfl, h0, r0⟩ := trodAll_cons hA
  obtain ⟨v1, vs1, d1, ds1, p1, q1, rfl, rfl, rfl, h1, r1⟩ := trodAll_cons r0
  obtain ⟨v2, vs2, d2, ds2, p2, q2, rfl, rfl, rfl, h2, r2⟩ := trodAll_cons r1
  obtain ⟨v3, vs3, d3, ds3, p3, q3, rfl, rfl, rfl, h3, r3⟩ := trodAll_cons r2
  obtain ⟨rfl, rfl, rfl⟩ := trodAll_nil r3
  obtain rfl : args = #[v0, v1, v2, v3] := by cases args; simp_all
  obtain ⟨rfl, rfl⟩ := trodVars_none hV
  have hb := of_decide_eq_true hk
  simp only [List.append_nil, Rows.uptoBulkAll] at hb
  have k0 := h0
  have lt0 : ∀ x ∈ p0, x.block < W.heap.size := by obtain ⟨m, hm⟩ := k0; exact DataW.trod_lt m _ _ _ hm
  obtain ⟨a0, A0, rfl, w0, f0, u0, g0⟩ := open_cf (hval 0 26 v0 rfl rfl) h0
  have b0 : CfBulk a0 1048576 := g0.mono (by omega)
  obtain ⟨a1, rfl, rfl, rfl, w1⟩ := open_int Try.underlying3 (hval 1 3 v1 rfl rfl) h1
  obtain ⟨a2, rfl, rfl, rfl, w2⟩ := open_string Try.underlying9 (hval 2 9 v2 rfl rfl) h2
  have l2 : a2.data.toList.length = a2.size := Array.length_toList
  obtain ⟨a3, rfl, rfl, rfl, w3⟩ := open_int Try.underlying3 (hval 3 3 v3 rfl rfl) h3
  simp only [Rows.uptoBulk] at hb
  have s2 : a2.size ≤ 1048576 := by omega
  clear hA0 hval0 hb hk
  refine (walk a0 A0 a1 a2 a3 W w0 f0 b0 w1 s2 w3).mono fun e W' ⟨he, bel⟩ => ?_
  subst he
  exact ⟨_, rfl, _, _, _, [], _, [], hW', trodAll_mk1 (shut_bool Try.underlying4 _), (trodAll_cons_mk (Below.trod laidOut (by kernel_rfl) (of_decide_eq_true (by kernel_rfl)) k0 bel lt0) (trodAll_cons_mk (shut_int Try.underlying3 w1) (trodAll_cons_mk (shut_string Try.underlying9 w2) (trodAll_cons_mk (shut_int Try.underlying3 w3) trodAll_mk0)))), rfl, bel.frame _, fun h => by cases h⟩

/-- The given statement. -/
theorem proved : Rows.ConfsUptoSaid :=
  OpenClaim.holds_of_cond 3 Try.f3 rfl rfl rfl rfl rfl rfl rfl ⟨rfl, rfl, rfl, rfl, rfl⟩ rfl rfl rfl rfl rfl (by kernel_rfl) Try.func3 (by kernel_rfl)
    (of_decide_eq_true (by kernel_rfl)) (by unfold Func.isWrapper; first | (rw [if_pos (by decide +kernel)]; kernel_rfl) | (rw [if_neg (by decide +kernel)]; exact ⟨rfl, rfl⟩))
    (fun os started H enc _ F => lifted os started H enc F)

end Go.Proofs.Ytedbihckdbpebaa.confs
namespace Go.Proofs.Ytedbihckdbpebaa
theorem confs_proved : Rows.ConfsUptoSaid := confs.proved
#print axioms confs_proved
end Go.Proofs.Ytedbihckdbpebaa
