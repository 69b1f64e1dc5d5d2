/-
  pinfoldlaw6.Opts, at every list of options, text and number: it returns true; what came in reads as it did. No condition.
-/
import Derived.Test.YtodjgbdjkncpgaaAwake6
import Derived.Test.YtodjgbdjkncpgaaOptOpen
import Derived.Test.YtodjgbdjkncpgaaOptLend
import Derived.WalkKit
import Derived.ProofKit
import Derived.OpenShut
import Derived.ShutString
import Derived.ChangeOld
import Derived.SizedLaws
import Derived.Carry
namespace Go.Proofs.Ytodjgbdjkncpgaa
namespace optsAll
open Go.ChangeShapes Go.WideShapes Go.ChangeAt Go.RowKit Go.Pin Go.PlainAid Go.ChangeMaps

theorem get_r (s : ByteArray) (w : World) (hs : s.size ≤ 1125899906842624) :
    Calls Try.prog 11 #[.string s] w fun e w' => (∃ v, e = .returned (.tuple #[v, .int .i64 (getA (bs s)).2]) ∧ Opts w' w.heap.size v (getA (bs s)).1) ∧ Below w.heap.size w w' := by
  have := oGet_c s w hs
  unfold getA
  cases h : getO (bs s) [] with
  | some os => rw [h] at this; exact this
  | none => rw [h] at this; exact this.mono fun e w' ⟨h1, h2⟩ => ⟨⟨_, h1, World.ownsRow_nil _ _ _ _⟩, h2⟩
theorem rget_r (s : ByteArray) (w : World) (hs : s.size ≤ 140737488351232) :
    Calls Try.prog 12 #[.string s] w fun e w' => (∃ v, e = .returned (.tuple #[v, .int .i64 (getA (bs s)).2]) ∧ Opts w' w.heap.size v (getA (bs s)).1) ∧ Below w.heap.size w w' := by
  have := rGet_c s w hs
  unfold getA
  cases h : getO (bs s) [] with
  | some os => rw [h] at this; exact this
  | none => rw [h] at this; exact this.mono fun e w' ⟨h1, h2⟩ => ⟨⟨_, h1, World.ownsRow_nil _ _ _ _⟩, h2⟩
theorem getA_len (s : List UInt8) : (getA s).1.length ≤ 32 := by
  unfold getA
  rw [read_is]
  cases getR s [] with
  | none => simp
  | some os =>
    simp only
    cases h : mayO os with
    | false => simp
    | true => simp only [if_true]; exact (show MayO os by simpa [mayO] using h).1
theorem from_prefix {w : World} {x : Addr} {os ms : List Opn} (h : OpFrom w x (os ++ ms)) : OpFrom w x os := fun j hj => by
  have := h j (by simp; omega)
  have e : opAt (os ++ ms) j = opAt os j := by
    unfold opAt; rw [List.getD_eq_getElem?_getD, List.getElem?_append_left hj, ← List.getD_eq_getElem?_getD]
  rwa [e] at this

set_option maxRecDepth 100000 in
set_option maxHeartbeats 1000000 in
theorem walk (a : Option Addr) (len cap : Nat) (os : List Opn) (s : ByteArray) (code : Int) (w : World) (h : IsOpts w a len os) (hs : s.size ≤ 140737488351232) (_wp : (Lit.int .i64 code).wf = true) : Calls Try.prog 3 #[.slice a len cap, .string s, .int .i64 code] w fun e w' => e = .returned (.bool true) ∧ Below w.heap.size w w' := by
  obtain ⟨rfl, hL, hlen, _⟩ := h
  have hlen2 : os.length ≤ 10000000000000 := by omega
  have HLd := lendOp_c a cap os w hlen hL
  have HP : Hid (∀ g c w', OpFrom w' ⟨g, 0, none⟩ os → _) := fun g c w' hf => oPut_c (some ⟨g, 0, none⟩) c os w' (.inr ⟨_, rfl, hf⟩)
  have HR : Hid (∀ w', Below w.heap.size w w' → _) := fun w' hb => rPut_c a cap os w' hlen2 (hL.below hb)
  have HG : Hid (∀ w, _) := fun w => get_r s w (by omega)
  have HH : Hid (∀ w, _) := fun w => rget_r s w hs
  have HF : Hid (∀ g c w', OpFrom w' ⟨g, 0, none⟩ os → _) := fun g c w' hf => oFind_c (some ⟨g, 0, none⟩) c os code w' hlen2 (.inr ⟨_, rfl, hf⟩)
  have HI : Hid (∀ w', Below w.heap.size w w' → _) := fun w' hb => rFind_c a cap os code w' hlen2 (hL.below hb)
  have HA32 : Hid ((getA (bs s)).1.length ≤ 32) := getA_len _
  have HK : Hid (∀ g c w', os.length + 2 ≤ c → OpFrom w' ⟨g, 0, none⟩ (os ++ marks) → Below w.heap.size w w' → _) := fun g c w' hc hf hb => keptOp_c g c cap a os w' hlen hc hf (hL.below hb)
  generalize (putA os).1 = PA at *
  generalize (putA os).2 = PE at *
  generalize (findA os code).1 = FA at *
  generalize (findA os code).2 = FE at *
  generalize (getA (bs s)).1 = GA at *
  generalize (getA (bs s)).2 = GE at *
  generalize mk PA = PS at *
  generalize mk FA = FS at *
  clear hL hlen hs
  go_enter Try.func3, Try.ntmps3
  go_wp2_with fail
  refine HLd.mono ?_; rintro e w1 ⟨⟨g, c, rfl, hO1⟩, hb1⟩
  obtain ⟨hf1, hc1, hg1, hg2⟩ := op_from hO1
  have F1 : Hid (OpFrom w1 ⟨g, 0, none⟩ (os ++ marks)) := hf1
  have B1 : Hid (Below w.heap.size w w1) := hb1
  have FX : Hid (∀ w', Below w1.heap.size w1 w' → OpFrom w' ⟨g, 0, none⟩ os) := fun w' hb => from_prefix (hf1.below hb)
  clear hb1 hf1 HLd hO1
  go_wp2_with fail
  refine (HP.out g c _ (FX.out _ (Below.refl _ _))).mono ?_; rintro e w2 ⟨rfl, hb2⟩
  have C2 : Hid (Below w1.heap.size w1 w2) := hb2
  clear hb2 HP
  go_wp2_with fail
  refine (HR.out _ (bel_trans B1.out C2.out)).mono ?_; rintro e w3 ⟨rfl, hb3⟩
  have C3 : Hid (Below w1.heap.size w1 w3) := bel_trans C2.out hb3
  clear hb3 HR C2
  go_wp2_with fail
  refine (HG.out _).mono ?_; rintro e w4 ⟨⟨v4, rfl, hO4⟩, hb4⟩
  obtain ⟨a4, c4, rfl, l4⟩ := hO4.lies
  have C4 : Hid (Below w1.heap.size w1 w4) := bel_trans C3.out hb4
  have O4 : Hid (Opts w4 w1.heap.size (.slice a4 GA.length c4) GA) := hO4.base C3.out.size
  clear hb4 HG C3 hO4 l4
  go_wp2_with fail
  refine (HH.out _).mono ?_; rintro e w5 ⟨⟨v5, rfl, hO5⟩, hb5⟩
  obtain ⟨a5, c5, rfl, l5⟩ := hO5.lies
  have C5 : Hid (Below w1.heap.size w1 w5) := bel_trans C4.out hb5
  have O5 : Hid (Opts w5 w1.heap.size (.slice a4 GA.length c4) GA) := O4.out.below hb5
  have L5 : Hid (OpLies w5 a5 GA) := l5
  clear hb5 HH C4 hO5 l5 O4
  go_wp2_with fail
  refine (HF.out g c _ (FX.out _ C5.out)).mono ?_; rintro e w6 ⟨rfl, hb6⟩
  have C6 : Hid (Below w1.heap.size w1 w6) := bel_trans C5.out hb6
  have O6 : Hid (Opts w6 w1.heap.size (.slice a4 GA.length c4) GA) := O5.out.below hb6
  have L6 : Hid (OpLies w6 a5 GA) := L5.out.below hb6
  clear hb6 HF C5 O5 L5
  go_wp2_with fail
  refine (HI.out _ (bel_trans B1.out C6.out)).mono ?_; rintro e w7 ⟨rfl, rfl⟩
  clear HI
  go_wp2_with (go_at_call 15; refine (num_any _ _).mono ?_; rintro e w9 ⟨rfl, rfl⟩)
  have LQ : Hid (OpLies w9 a4 GA) := by
    obtain ⟨a', c', e, hl⟩ := O6.out.lies
    simp only [Value.slice.injEq, true_and] at e
    show OpLies _ _ _
    rw [e.1]; exact hl
  refine (sameOp_c a4 a5 _ _ c4 c5 GA _ rfl rfl (by have := HA32.out; omega) LQ.out L6.out).mono ?_; rintro e w10 ⟨rfl, hb10⟩
  have C10 : Hid (Below w1.heap.size w1 w10) := bel_trans C6.out hb10
  have O10 : Hid (Opts w10 w1.heap.size (.slice a4 GA.length c4) GA) := O6.out.below hb10
  clear hb10 C6 O6 L6 LQ
  go_wp2_with (go_at_call 15; refine (num_any _ _).mono ?_; rintro e w11 ⟨rfl, rfl⟩)
  refine (spoilOp_c _ w1.heap.size GA _ (by have := HA32.out; omega) O10.out).mono ?_; rintro e w12 ⟨rfl, hb12⟩
  have C12 : Hid (Below w1.heap.size w1 w12) := C10.out.trans hb12
  have B12 : Hid (Below w.heap.size w w12) := bel_trans B1.out C12.out
  clear hb12 C10 O10
  go_wp2_with fail
  refine (HK.out g c _ hc1 (F1.out.below C12.out) B12.out).mono ?_; rintro e w13 ⟨rfl, hb13⟩
  have B13 : Hid (Below w.heap.size w w13) := bel_trans B12.out hb13
  clear hb13 C12 B12 HK F1 FX
  go_wp2_with fail
  refine (awake6_yes _).mono ?_; rintro e w14 ⟨rfl, hb14⟩
  have B14 : Hid (Below w.heap.size w w14) := bel_trans B13.out hb14
  clear hb14 B13
  go_wp2
  go_ret
  exact ⟨rfl, B14.out⟩
theorem own : ownKnob Try.prog.godebug = none := by kernel_rfl
theorem laidOut : laidOutB Try.prog = true := by kernel_rfl

/-! ### The row's step -/
set_option maxRecDepth 100000 in
theorem lifted (os : Os) (started : os.Started) (H : Type) (enc : TypeId × Value → H) :
    ReturnsInHanded {} Try.checked os 3 .any (Rows.optsSpec.pre6 enc Try.prog Try.f3 Rows.optsRow.domain false) (Rows.optsSpec.post enc Try.prog Try.f3 false true false false) := by
  refine returnsInHanded_of_change_sized (C := Try.checked) own started (by kernel_rfl) Try.func3
    (ChangeSpec.witness6 (enc := enc) (C := Try.checked) false ⟨#[], #[.slice none 0 0, .string ByteArray.empty, .int .i64 0], []⟩ 8 (by kernel_rfl) (by kernel_rfl) (by kernel_rfl) (by kernel_rfl)) ?_
  intro W base args ds gs before hval0 hW _ hsz0 _
  have hval : ∀ (j : Nat) t v, Try.f3.params[j]? = some t → args[j]? = some v → Value.okWide Try.prog W .any base t v := hval0
  have hsz : (DataW.weightsEach Try.prog (Try.f3.params.toList ++ Rows.optsSpec.plain.varTypes Try.prog) (ds ++ gs)).all (· ≤ reachBytes) = true := hsz0
  have hW' := hW
  obtain ⟨p, q, hA0, hV, rfl, _, _⟩ := hW
  have hA : DataW.TrodAll enc Try.prog W 0 (fun _ => true) true Try.f3.params.toList args.toList ds p := hA0
  rw [Try.params3] at hA hval hsz
  obtain ⟨v0, vs0, d0, ds0, p0, q0, hargs, rfl, rfl, h0, r0⟩ := trodAll_cons hA
  obtain ⟨v1, vs1, d1, ds1, p1, q1, rfl, rfl, rfl, h1, r1⟩ := trodAll_cons r0
  obtain ⟨v2, vs2, d2, ds2, p2, q2, rfl, rfl, rfl, h2, r2⟩ := trodAll_cons r1
  obtain ⟨rfl, rfl, rfl⟩ := trodAll_nil r2
  obtain rfl : args = #[v0, v1, v2] := by cases args; simp_all
  obtain ⟨rfl, rfl⟩ := trodVars_none hV
  obtain ⟨a0, len0, cap0, rfl⟩ := okWide_slice Try.underlying22 (hval 0 22 v0 rfl rfl)
  have k0 := h0
  have lt0 : ∀ x ∈ p0, x.block < W.heap.size := by obtain ⟨m, hm⟩ := k0; exact DataW.trod_lt m _ _ _ hm
  obtain ⟨z0, w0⟩ := open_opts h0 (fun es sp hd => by subst hd; exact sized_slice hsz (j := 0) rfl rfl Try.underlying22)
  obtain ⟨a1, rfl, rfl, rfl, w1⟩ := open_string Try.underlying9 (hval 1 9 v1 rfl rfl) h1
  have s1 : a1.size ≤ 140737488351232 := by have := sized_string hsz (j := 1) (t := 9) rfl rfl; simpa [reachBytes] using this
  obtain ⟨a2, rfl, rfl, rfl, w2⟩ := open_int Try.underlying3 (hval 2 3 v2 rfl rfl) h2
  clear hA0 hval0 hsz0
  refine (walk a0 len0 cap0 z0 a1 a2 W w0 s1 w2).mono fun e W' ⟨he, bel⟩ => ?_
  subst he
  exact ⟨_, rfl, _, _, _, [], _, [], hW', trodAll_mk1 (shut_bool Try.underlying4 _), (trodAll_cons_mk (Below.trod laidOut (by kernel_rfl) (of_decide_eq_true (by kernel_rfl)) k0 bel lt0) (trodAll_cons_mk (shut_string Try.underlying9 w1) (trodAll_cons_mk (shut_int Try.underlying3 w2) trodAll_mk0))), rfl, bel.frame _, fun h => by cases h⟩

theorem over : Rows.optsRow.holds Try.pinned (OpenSpec.ofChange Rows.optsSpec) :=
  OpenClaim.holds_of_wide 3 Try.f3 rfl rfl rfl rfl rfl rfl rfl ⟨rfl, rfl, rfl, rfl, rfl⟩ rfl rfl rfl rfl rfl (by kernel_rfl) Try.func3 (by kernel_rfl)
    (of_decide_eq_true (by kernel_rfl)) (by unfold Func.isWrapper; first | (rw [if_pos (by decide +kernel)]; kernel_rfl) | (rw [if_neg (by decide +kernel)]; exact ⟨rfl, rfl⟩))
    (fun os started H enc _ => lifted os started H enc)

/-- The given statement. -/
theorem proved : Rows.OptsSaid := over

end optsAll
theorem opts_proved : Rows.OptsSaid := optsAll.proved
end Go.Proofs.Ytodjgbdjkncpgaa
