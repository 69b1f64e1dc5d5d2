/-
  pinfoldlaw6.OptsBack, at every list of options, text and number: it returns true; what came in reads as it did. No condition.
-/
import Derived.Test.YtodjgbdjkncpgaaAwake6
import Derived.Test.YtodjgbdjkncpgaaOptOpen
import Derived.WalkKit
import Derived.ProofKit
import Derived.OpenShut
import Derived.ShutString
import Derived.ChangeOld
import Derived.SizedLaws
import Derived.Carry
namespace Go.Proofs.Ytodjgbdjkncpgaa
namespace optsBack
open Go.ChangeShapes Go.WideShapes Go.ChangeAt Go.RowKit Go.Pin Go.PlainAid Go.ChangeMaps

theorem put_len {os : List Opn} (h : MayO os) : (putO os).length ≤ 17000 := by
  have := body_max (os := os) (fun o ho => ((okO_iff _).1 (h.2.1 _ ho)).2.2)
  have := h.1
  simp only [putO, List.length_append, List.length_cons, List.length_nil]
  omega
/-- string(make([]byte, n)). -/
theorem made (w : World) (n : Nat) (hn : n ≤ 2000) : ∃ cs : Array Value, (Instr.makeSlice 40 (.int .i64 n) (.int .i64 n)).run Try.prog w = .ok (.slice (some ⟨w.heap.size, 0, none⟩) n n) (w.alloc (.cells cs 5)) ∧
    (convert 40 9 (.slice (some ⟨w.heap.size, 0, none⟩) n n)).run Try.prog (w.alloc (.cells cs 5)) = .ok (.string (mk (List.replicate n 0))) (w.alloc (.cells cs 5)) := by
  obtain ⟨i0, hi, hz0, hz1, hz2⟩ := info_parts Try.infoU8
  have hr := run_make (P := Try.prog) w 40 5 i0 (.int .u8 0) Try.underlying40 hi hz0 .i64 .i64 (n : Int) (n : Int) (by omega) (Int.le_refl _) (by rw [hz2]; omega) (by omega)
  rw [Int.toNat_natCast, hz1, Nat.mul_one] at hr
  have e : madeCells (Value.int .u8 0).cells n = (List.replicate n (Value.int .u8 0)).toArray := by
    apply Array.ext
    · simp [size_madeCells]
    · intro i h1 h2
      simp [madeCells, Value.cells, Nat.mod_one]
  rw [e] at hr
  refine ⟨_, hr, ?_⟩
  have := conv_new (P := Try.prog) w 40 9 5 5 n (List.replicate n 0) n (List.replicate n (Value.int .u8 0)).toArray (by simp) (by simp) Try.underlying40 Try.underlying5 Try.underlying9
  have e2 : str (List.replicate n 0) = mk (List.replicate n 0) := by simp [str, mk]
  rw [e2] at this
  exact this
theorem get_all {os : List Opn} (h : MayO os) (n : Nat) (bh : ByteArray) : getO (bs (mk (List.replicate n 0) ++ mk (putO os) ++ bh)) [] = some os := by
  have e : bs (mk (List.replicate n 0) ++ mk (putO os) ++ bh) = List.replicate n 0 ++ (putO os ++ bs bh) := by simp [bs, mk]
  rw [e, getO_pads, get_put h]
theorem put_last (os : List Opn) : ∃ n : Nat, (mk (putO os)).size = n + 1 ∧ bt (mk (putO os)) n = 255 := by
  refine ⟨(bodyO os).length, by rw [size_mk]; simp [putO], ?_⟩
  unfold bt
  rw [dif_pos (by rw [size_mk]; simp [putO])]
  have : (mk (putO os))[(bodyO os).length]'(by rw [size_mk]; simp [putO]) = (putO os)[(bodyO os).length]'(by simp [putO]) := rfl
  rw [this]
  simp [putO]

set_option maxRecDepth 100000 in
set_option maxHeartbeats 1000000 in
theorem walk_no (a : Option Addr) (cap : Nat) (os : List Opn) (bh : ByteArray) (pd : Int) (E : Int) (w : World) (hL : OpLies w a os) (hA : putA os = ([], E)) (hE : (E != 0) = true) : Calls Try.prog 4 #[.slice a os.length cap, .string bh, .int .i64 pd] w fun e w' => e = .returned (.bool true) ∧ Below w.heap.size w w' := by
  have HP : Hid (∀ w', Below w.heap.size w w' → _) := fun w' hb => oPut_c a cap os w' (hL.below hb)
  rw [hA] at HP
  simp only [mk] at HP
  clear hA hL
  go_enter Try.func4, Try.ntmps4
  go_wp2_with fail
  refine (awake6_yes _).mono ?_; rintro e w1 ⟨rfl, hb1⟩
  have B1 : Hid (Below w.heap.size w w1) := hb1
  clear hb1
  go_wp2_with fail
  refine (HP.out _ B1.out).mono ?_; rintro e w2 ⟨rfl, hb2⟩
  have B2 : Hid (Below w.heap.size w w2) := bel_trans B1.out hb2
  clear hb2 HP
  go_wp2_with (go_at_call 15; refine (num_any _ _).mono ?_; rintro e w7 ⟨rfl, rfl⟩)
  go_ret
  exact ⟨rfl, B2.out⟩

set_option maxRecDepth 100000 in
set_option maxHeartbeats 1000000 in
theorem walk_yes (a : Option Addr) (cap : Nat) (os : List Opn) (bh : ByteArray) (pd : Int) (w : World) (hL : OpLies w a os) (hm : MayO os) (hA : putA os = (putO os, 0)) (hbh : bh.size ≤ 140737488351232) : Calls Try.prog 4 #[.slice a os.length cap, .string bh, .int .i64 pd] w fun e w' => e = .returned (.bool true) ∧ Below w.heap.size w w' := by
  have HP : Hid (∀ w', Below w.heap.size w w' → _) := fun w' hb => oPut_c a cap os w' (hL.below hb)
  rw [hA] at HP
  simp only at HP
  have hmask : bits .and .i64 pd 15 = pd % 16 := i64_mask 4 pd (by omega)
  obtain ⟨n, hn⟩ : ∃ n : Nat, pd % 16 = n := ⟨(pd % 16).toNat, by omega⟩
  have hn16 : n < 16 := by omega
  have HG : Hid (_) := get_all hm n bh
  have HM : Hid (∀ w, _) := fun w => made w n (by omega)
  obtain ⟨z, hz1, hz2⟩ := put_last os
  have hlen : (mk (putO os)).size ≤ 17000 := by rw [size_mk]; exact put_len hm
  have hzl : (mk (List.replicate n (0 : UInt8))).size = n := by rw [size_mk]; simp
  have h32 : os.length ≤ 32 := hm.1
  generalize mk (putO os) = T at *
  generalize mk (List.replicate n (0 : UInt8)) = Z at *
  have HL : Hid (OpLies w a os) := hL
  have hcat : ¬ 9223372036854775807 < Z.size + T.size := by omega
  have hcat2 : ¬ 9223372036854775807 < Z.size + T.size + bh.size := by omega
  have HS : Hid ((Z ++ T ++ bh).size ≤ 1125899906842624) := by show _ ≤ _; simp only [ByteArray.size_append]; omega
  have HZ : Hid (T.size = z + 1 ∧ bt T z = 255) := ⟨hz1, hz2⟩
  clear hA hL hm hz2
  go_enter Try.func4, Try.ntmps4
  go_wp2_with fail
  refine (awake6_yes _).mono ?_; rintro e w1 ⟨rfl, hb1⟩
  have B1 : Hid (Below w.heap.size w w1) := hb1
  clear hb1
  go_wp2_with fail
  refine (HP.out _ B1.out).mono ?_; rintro e w2 ⟨rfl, hb2⟩
  have B2 : Hid (Below w.heap.size w w2) := bel_trans B1.out hb2
  obtain ⟨cs, hmk, hcv⟩ := HM.out w2
  clear hb2 HP B1
  go_wp2_with (go_at_call 15; refine (num_any _ _).mono ?_; rintro e w7 ⟨rfl, rfl⟩)
  refine (oGet_yes _ os _ HS.out HG.out).mono ?_; rintro e w3 ⟨⟨v1, rfl, k1⟩, hb3⟩
  obtain ⟨a1, c1, rfl, l1⟩ := k1.lies
  have L1 : Hid (OpLies w3 a1 os) := l1
  have B3 : Hid (Below w.heap.size w w3) := bel_trans (bel_trans B2.out ((Below.refl _ _).alloc (Nat.le_refl _) _)) hb3
  have L0 : Hid (OpLies w3 a os) := HL.out.below B3.out
  clear k1 l1 hb3 B2 HG HM hmk hcv HL
  go_wp2_with (go_at_call 15; refine (num_any _ _).mono ?_; rintro e w9 ⟨rfl, rfl⟩)
  refine (sameOp_c a1 a os.length os.length c1 cap os _ rfl rfl (by omega) L1.out L0.out).mono ?_; rintro e w8 ⟨rfl, hb8⟩
  have B8 : Hid (Below w.heap.size w w8) := bel_trans B3.out hb8
  clear hb8 L1 L0 B3
  go_wp2_with fail
  go_ret
  refine ⟨ret_bool ?_, B8.out⟩
  obtain ⟨h1, h2⟩ := HZ.out
  unfold bt at h2
  rw [dif_pos (by omega)] at h2
  rw [h2]
  rfl
theorem walk (a : Option Addr) (len cap : Nat) (os : List Opn) (bh : ByteArray) (pd : Int) (w : World) (h : IsOpts w a len os) (hbh : bh.size ≤ 140737488351232) (_wp : (Lit.int .i64 pd).wf = true) : Calls Try.prog 4 #[.slice a len cap, .string bh, .int .i64 pd] w fun e w' => e = .returned (.bool true) ∧ Below w.heap.size w w' := by
  obtain ⟨rfl, hL, _, _⟩ := h
  cases hm : mayO os with
  | false => exact walk_no a cap os bh pd 600 w hL (by unfold putA; rw [hm]; rfl) rfl
  | true =>
    have hm' : MayO os := by simpa [mayO] using hm
    by_cases hl : 1200 < (putO os).length
    · exact walk_no a cap os bh pd 601 w hL (by unfold putA; rw [hm, if_pos rfl, if_pos hl]) rfl
    · exact walk_yes a cap os bh pd w hL hm' (by unfold putA; rw [hm, if_pos rfl, if_neg hl]) hbh

theorem own : ownKnob Try.prog.godebug = none := by kernel_rfl
theorem laidOut : laidOutB Try.prog = true := by kernel_rfl

/-! ### The row's step -/
set_option maxRecDepth 100000 in
theorem lifted (os : Os) (started : os.Started) (H : Type) (enc : TypeId × Value → H) :
    ReturnsInHanded {} Try.checked os 4 .any (Rows.optsBackSpec.pre6 enc Try.prog Try.f4 Rows.optsBackRow.domain false) (Rows.optsBackSpec.post enc Try.prog Try.f4 false true false false) := by
  refine returnsInHanded_of_change_sized (C := Try.checked) own started (by kernel_rfl) Try.func4
    (ChangeSpec.witness6 (enc := enc) (C := Try.checked) false ⟨#[], #[.slice none 0 0, .string ByteArray.empty, .int .i64 0], []⟩ 8 (by kernel_rfl) (by kernel_rfl) (by kernel_rfl) (by kernel_rfl)) ?_
  intro W base args ds gs before hval0 hW _ hsz0 _
  have hval : ∀ (j : Nat) t v, Try.f4.params[j]? = some t → args[j]? = some v → Value.okWide Try.prog W .any base t v := hval0
  have hsz : (DataW.weightsEach Try.prog (Try.f4.params.toList ++ Rows.optsBackSpec.plain.varTypes Try.prog) (ds ++ gs)).all (· ≤ reachBytes) = true := hsz0
  have hW' := hW
  obtain ⟨p, q, hA0, hV, rfl, _, _⟩ := hW
  have hA : DataW.TrodAll enc Try.prog W 0 (fun _ => true) true Try.f4.params.toList args.toList ds p := hA0
  rw [Try.params4] at hA hval hsz
  obtain ⟨v0, vs0, d0, ds0, p0, q0, hargs, rfl, rfl, h0, r0⟩ := trodAll_cons hA
  obtain ⟨v1, vs1, d1, ds1, p1, q1, rfl, rfl, rfl, h1, r1⟩ := trodAll_cons r0
  obtain ⟨v2, vs2, d2, ds2, p2, q2, rfl, rfl, rfl, h2, r2⟩ := trodAll_cons r1
  obtain ⟨rfl, rfl, rfl⟩ := trodAll_nil r2
  obtain rfl : args = #[v0, v1, v2] := by cases args; simp_all
  obtain ⟨rfl, rfl⟩ := trodVars_none hV
  obtain ⟨a0, len0, cap0, rfl⟩ := okWide_slice Try.underlying22 (hval 0 22 v0 rfl rfl)
  have k0 := h0
  have lt0 : ∀ x ∈ p0, x.block < W.heap.size := by obtain ⟨m, hm⟩ := k0; exact DataW.trod_lt m _ _ _ hm
  obtain ⟨z0, w0⟩ := open_opts h0 (fun es sp hd => by subst hd; exact sized_slice hsz (j := 0) rfl rfl Try.underlying22)
  obtain ⟨a1, rfl, rfl, rfl, w1⟩ := open_string Try.underlying9 (hval 1 9 v1 rfl rfl) h1
  have s1 : a1.size ≤ 140737488351232 := by have := sized_string hsz (j := 1) (t := 9) rfl rfl; simpa [reachBytes] using this
  obtain ⟨a2, rfl, rfl, rfl, w2⟩ := open_int Try.underlying3 (hval 2 3 v2 rfl rfl) h2
  clear hA0 hval0 hsz0
  refine (walk a0 len0 cap0 z0 a1 a2 W w0 s1 w2).mono fun e W' ⟨he, bel⟩ => ?_
  subst he
  exact ⟨_, rfl, _, _, _, [], _, [], hW', trodAll_mk1 (shut_bool Try.underlying4 _), (trodAll_cons_mk (Below.trod laidOut (by kernel_rfl) (of_decide_eq_true (by kernel_rfl)) k0 bel lt0) (trodAll_cons_mk (shut_string Try.underlying9 w1) (trodAll_cons_mk (shut_int Try.underlying3 w2) trodAll_mk0))), rfl, bel.frame _, fun h => by cases h⟩

theorem over : Rows.optsBackRow.holds Try.pinned (OpenSpec.ofChange Rows.optsBackSpec) :=
  OpenClaim.holds_of_wide 4 Try.f4 rfl rfl rfl rfl rfl rfl rfl ⟨rfl, rfl, rfl, rfl, rfl⟩ rfl rfl rfl rfl rfl (by kernel_rfl) Try.func4 (by kernel_rfl)
    (of_decide_eq_true (by kernel_rfl)) (by unfold Func.isWrapper; first | (rw [if_pos (by decide +kernel)]; kernel_rfl) | (rw [if_neg (by decide +kernel)]; exact ⟨rfl, rfl⟩))
    (fun os started H enc _ => lifted os started H enc)

/-- The given statement. -/
theorem proved : Rows.OptsBackSaid := over

end optsBack
theorem optsBack_proved : Rows.OptsBackSaid := optsBack.proved
end Go.Proofs.Ytodjgbdjkncpgaa
