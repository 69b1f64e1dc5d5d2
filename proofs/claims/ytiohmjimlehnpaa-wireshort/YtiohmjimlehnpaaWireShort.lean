/-
  Proved here: pinfoldlaw3.WireShort answers true for every pair of texts (P3.1, P3.2, T1: with what is known a name is no longer than without; what is told of it is the same).
  Conditions: none but the row's own.
-/
import Derived.Test.YtiohmjimlehnpaaAwake3
import Derived.Test.YtiohmjimlehnpaaWireFacts
import Derived.OpenShut
import Derived.ShutString
import Derived.ChangeOld
import Derived.SizedLaws
namespace Go.Proofs.Ytiohmjimlehnpaa.wireShort
open Go.ChangeShapes Go.WideShapes Go.ChangeAt Go.RowKit Go.Pin Go.PlainAid
open Go.ChangeMaps (open_string shut_string)

/-- Put with nothing known, whatever it answers. -/
theorem wput_any (at_ : Int) (name : ByteArray) (w : World) (hs : name.size ≤ maxLen) : Calls Try.prog 11 #[.int .i64 at_, .slice none 0 0, .string name] w fun e w' => (∃ s v e0, e = .returned (.tuple #[.string s, v, .int .i64 e0])) ∧ Below w.heap.size w w' := by
  cases hm : mayPutL at_ [] (bs name) with
  | false => exact (wput_nil_no at_ 0 name w hs hm).mono fun e w' ⟨h1, h2⟩ => ⟨⟨_, _, _, h1⟩, h2⟩
  | true => exact (wput_nil at_ 0 _ name _ w hs hm rfl rfl).mono fun e w' ⟨⟨v, h1, _⟩, h2⟩ => ⟨⟨_, _, _, h1⟩, h2⟩

theorem walk_no (a0 a1 : ByteArray) (w : World) (w0 : a0.size ≤ maxLen) (w1 : a1.size ≤ maxLen) (hm : mayL (bs a0) = false) :
    Calls Try.prog 9 #[.string a0, .string a1] w fun e w' => e = .returned (.bool true) ∧ Below w.heap.size w w' := by
  have P1 : Hid (∀ w, _) := fun w => wput_nil_no 0 0 a0 w w0 (by simp [mayPutL, hm])
  have P2 : Hid (∀ w, _) := fun w => wput_any 0 a1 w w1
  go_enter Try.func9, Try.ntmps9
  go_wp2_with fail
  refine (awake_yes _).mono ?_; rintro e x1 ⟨rfl, B⟩
  go_wp2_with fail
  refine (P1.out _).mono ?_; rintro e x2 ⟨rfl, hb⟩
  replace B := bel_trans B hb
  clear hb
  go_wp2_with fail
  refine (P2.out _).mono ?_; rintro e x3 ⟨⟨s3, v3, e3, rfl⟩, hb⟩
  replace B := bel_trans B hb
  clear hb
  go_wp2_with fail
  refine (P2.out _).mono ?_; rintro e x4 ⟨⟨s4, v4, e4, rfl⟩, hb⟩
  replace B := bel_trans B hb
  clear hb
  go_wp2_with (go_at_call 16; refine (num_any _ _).mono ?_; rintro e w4 ⟨rfl, rfl⟩)
  go_ret
  exact ⟨rfl, B⟩

theorem good_all {s : List UInt8} {ks : List Kn} (h : Go.Pin.Good s ks) : ks.all knownL = true := List.all_eq_true.2 fun k hk => (h k hk).1
theorem good_len {s : List UInt8} {ks : List Kn} (h : Go.Pin.Good s ks) : ∀ k ∈ ks, k.1.length ≤ maxLen := by
  intro k hk
  obtain ⟨_, hm, _, _⟩ := known_bounds (h k hk).1
  rw [← join_labs hm]
  have := join_len _ (fun x hx => labsL_ok (l := k.1) hx)
  have := labsL_len k.1
  unfold maxLen; omega
theorem putN_len (ks : List Kn) : ∀ (ls : List (List UInt8)) (at_ : Int), (putN ks at_ ls).length ≤ ls.length
  | [], _ => by simp [putN]
  | p :: r, at_ => by
    have := putN_len ks r (at_ + 1 + p.length)
    rw [putN]
    split
    · simp
    · rw [List.length_append]
      split <;> simp <;> omega

theorem walk_half (a0 a1 : ByteArray) (w : World) (w0 : a0.size ≤ maxLen) (w1 : a1.size ≤ maxLen) (hm : mayL (bs a0) = true) (hn : mayL (bs a1) = false) :
    Calls Try.prog 9 #[.string a0, .string a1] w fun e w' => e = .returned (.bool true) ∧ Below w.heap.size w w' := by
  have hok := fun x (hx : x ∈ labsL (bs a0)) => labsL_ok hx
  have h8 := labsL_len (bs a0)
  have hg := put_good (s0 := []) (ks := []) (fun k hk => by cases hk) (labsL (bs a0)) [] hok h8
  simp only [List.nil_append, List.length_nil] at hg
  have hsl := putS_len [] (labsL (bs a0)) hok
  have hkl := putN_len [] (labsL (bs a0)) 0
  have P1 : Hid (∀ w, _) := fun w => wput_nil 0 0 (putN [] 0 (labsL (bs a0))) a0 (mk (putS [] (labsL (bs a0)))) w w0 (by simp [mayPutL, hm]) rfl rfl
  have hss := size_mk (putS [] (labsL (bs a0)))
  have P2 : Hid (∀ w a cap, KnLies w a (putN [] 0 (labsL (bs a0))) → _) := fun w a cap hk => wput_no ((putS [] (labsL (bs a0))).length : Nat) a cap (putN [] 0 (labsL (bs a0))) a1 w w1 (by omega) (good_len hg) hk (by simp [mayPutL, hn])
  have P3 : Hid (∀ w, _) := fun w => wput_nil_no ((putS [] (labsL (bs a0))).length : Nat) 0 a1 w w1 (by simp [mayPutL, hn])
  have hne : (mk (putS [] (labsL (bs a0)))).toList.isEmpty = false := empty_mk_no (by intro e; rw [e] at hsl; simp at hsl)
  generalize putS [] (labsL (bs a0)) = sL at *
  generalize putN [] 0 (labsL (bs a0)) = ks at *
  clear hok hg hm hn
  go_enter Try.func9, Try.ntmps9
  go_wp2_with fail
  refine (awake_yes _).mono ?_; rintro e x1 ⟨rfl, B⟩
  go_wp2_with fail
  refine (P1.out _).mono ?_; rintro e x2 ⟨⟨v, rfl, hk⟩, hb⟩
  replace B := bel_trans B hb
  obtain ⟨ka, kc, rfl, hli⟩ := hk.lies
  have Hk : Hid (KnLies x2 ka ks) := hli
  clear hb hk hli
  go_wp2_with fail
  refine (P2.out _ _ _ Hk.out).mono ?_; rintro e x3 ⟨rfl, hb⟩
  replace B := bel_trans B hb
  clear hb Hk
  go_wp2_with fail
  refine (P3.out _).mono ?_; rintro e x4 ⟨rfl, hb⟩
  replace B := bel_trans B hb
  clear hb
  go_wp2_with (go_at_call 16; refine (num_any _ _).mono ?_; rintro e w4 ⟨rfl, rfl⟩)
  go_ret
  exact ⟨rfl, B⟩

set_option maxHeartbeats 1000000 in
set_option maxRecDepth 100000 in
theorem walk_both (a0 a1 : ByteArray) (w : World) (w0 : a0.size ≤ maxLen) (w1 : a1.size ≤ maxLen) (hm : mayL (bs a0) = true) (hn : mayL (bs a1) = true) :
    Calls Try.prog 9 #[.string a0, .string a1] w fun e w' => e = .returned (.bool true) ∧ Below w.heap.size w w' := by
  have hok := fun x (hx : x ∈ labsL (bs a0)) => labsL_ok hx
  have h8 := labsL_len (bs a0)
  have hok1 := fun x (hx : x ∈ labsL (bs a1)) => labsL_ok hx
  have h81 := labsL_len (bs a1)
  have hg := put_good (s0 := []) (ks := []) (fun k hk => by cases hk) (labsL (bs a0)) [] hok h8
  simp only [List.nil_append, List.length_nil] at hg
  have hsl := putS_len [] (labsL (bs a0)) hok
  have hkl := putN_len [] (labsL (bs a0)) 0
  have P1 : Hid (∀ w, _) := fun w => wput_nil 0 0 (putN [] 0 (labsL (bs a0))) a0 (mk (putS [] (labsL (bs a0)))) w w0 (by simp [mayPutL, hm]) rfl rfl
  generalize hS : putS [] (labsL (bs a0)) = sL at *
  generalize hK : putN [] 0 (labsL (bs a0)) = ks at *
  have hg' : Go.Pin.Good sL ks := hg
  have P2 : Hid (∀ w a cap, KnLies w a ks → _) := fun w a cap hk => wput_is (sL.length : Nat) a ks.length cap ks _ a1 (mk (putS ks (labsL (bs a1)))) w rfl w1 (by omega) (good_len hg') hk (by simp [mayPutL, hn, good_all hg']; omega) rfl rfl
  have P3 : Hid (∀ w, _) := fun w => wput_nil (sL.length : Nat) 0 (putN [] (sL.length : Nat) (labsL (bs a1))) a1 (mk (putS [] (labsL (bs a1)))) w w1 (by simp [mayPutL, hn]; omega) rfl rfl
  have ht1 := (put_told hg' (labsL (bs a1)) [] sL.length hok1 h81 (Nat.le_refl _)).1
  have ht2 := (put_told (s0 := sL) (ks := []) (fun k hk => by cases hk) (labsL (bs a1)) [] sL.length hok1 h81 (Nat.le_refl _)).1
  simp only [List.append_nil] at ht1 ht2
  have g1 := get_told ht1 hok1 h81
  have g2 := get_told ht2 hok1 h81
  have hsh := putS_shorter ks (labsL (bs a1)) hok1
  have hl1 := putS_len ks (labsL (bs a1)) hok1
  have hl2 := putS_len [] (labsL (bs a1)) hok1
  rw [join_labs hn] at g1 g2
  generalize putS ks (labsL (bs a1)) = tL at *
  generalize putS [] (labsL (bs a1)) = uL at *
  have hc1 : mk sL ++ mk tL = mk (sL ++ tL) := mk_append _ _
  have hc2 : mk sL ++ mk uL = mk (sL ++ uL) := mk_append _ _
  have hs1 := size_mk sL
  have hs2 := size_mk tL
  have hs3 := size_mk uL
  have hs4 : (mk (sL ++ tL)).size = sL.length + tL.length := by rw [size_mk]; simp
  have hs5 : (mk (sL ++ uL)).size = sL.length + uL.length := by rw [size_mk]; simp
  have G1 : Hid (∀ w, _) := fun w => get_is (mk (sL ++ tL)) (sL.length : Nat) a1 ((sL.length : Int) + tL.length) 0 w (by omega) (by rw [bs_mk, getI, if_neg (by omega), Int.toNat_natCast, g1]; congr 2; simp)
  have G2 : Hid (∀ w, _) := fun w => get_is (mk (sL ++ uL)) (sL.length : Nat) a1 ((sL.length : Int) + uL.length) 0 w (by omega) (by rw [bs_mk, getI, if_neg (by omega), Int.toNat_natCast, g2]; congr 2; simp)
  have hos : Hid ((ks ++ putN ks (sL.length : Nat) (labsL (bs a1))).length ≥ ks.length) := by unfold Hid; simp
  generalize ks ++ putN ks (sL.length : Nat) (labsL (bs a1)) = os at *
  generalize hq1 : mk (sL ++ tL) = st at *
  generalize hq2 : mk (sL ++ uL) = su at *
  clear hok hok1 hg hg' ht1 ht2 g1 g2 hm hn hS hK hq1 hq2
  go_enter Try.func9, Try.ntmps9
  go_wp2_with fail
  refine (awake_yes _).mono ?_; rintro e x1 ⟨rfl, B⟩
  go_wp2_with fail
  refine (P1.out _).mono ?_; rintro e x2 ⟨⟨v, rfl, hk⟩, hb⟩
  replace B := bel_trans B hb
  obtain ⟨ka, kc, rfl, hli⟩ := hk.lies
  have Hk : Hid (KnLies x2 ka ks) := hli
  clear hb hk hli
  go_wp2_with fail
  refine (P2.out _ _ _ Hk.out).mono ?_; rintro e x3 ⟨⟨v3, rfl, hk3⟩, hb⟩
  obtain ⟨ka3, kc3, rfl⟩ := hk3.form
  replace B := bel_trans B hb
  clear hb Hk hk3
  go_wp2_with fail
  refine (P3.out _).mono ?_; rintro e x4 ⟨⟨v4, rfl, _⟩, hb⟩
  replace B := bel_trans B hb
  clear hb
  go_wp2_with (go_at_call 16; refine (num_any _ _).mono ?_; rintro e w4 ⟨rfl, rfl⟩)
  refine (G1.out _).mono ?_; rintro e x5 ⟨rfl, hb⟩
  replace B := bel_trans B hb
  clear hb
  go_wp2_with fail
  refine (G2.out _).mono ?_; rintro e x6 ⟨rfl, hb⟩
  replace B := bel_trans B hb
  clear hb
  have hos' := hos.out
  go_wp2_with (go_at_call 16; refine (num_any _ _).mono ?_; rintro e w4 ⟨rfl, rfl⟩)
  go_ret
  exact ⟨rfl, B⟩

theorem walk (a0 a1 : ByteArray) (w : World) (w0 : a0.size ≤ 140737488351232) (w1 : a1.size ≤ 140737488351232) :
    Calls Try.prog 9 #[.string a0, .string a1] w fun e w' => e = .returned (.bool true) ∧ Below w.heap.size w w' := by
  have m0 : a0.size ≤ maxLen := by unfold maxLen; omega
  have m1 : a1.size ≤ maxLen := by unfold maxLen; omega
  cases hm : mayL (bs a0) with
  | false => exact walk_no a0 a1 w m0 m1 hm
  | true =>
    cases hn : mayL (bs a1) with
    | false => exact walk_half a0 a1 w m0 m1 hm hn
    | true => exact walk_both a0 a1 w m0 m1 hm hn

theorem own : ownKnob Try.prog.godebug = none := by kernel_rfl
theorem laidOut : laidOutB Try.prog = true := by kernel_rfl

/-! ### The row's step -/
set_option maxRecDepth 100000 in
theorem lifted (os : Os) (started : os.Started) (H : Type) (enc : TypeId × Value → H) :
    ReturnsInHanded {} Try.checked os 9 .any (Rows.wireShortSpec.pre6 enc Try.prog Try.f9 Rows.wireShortRow.domain false) (Rows.wireShortSpec.post enc Try.prog Try.f9 false true false false) := by
  refine returnsInHanded_of_change_sized (C := Try.checked) own started (by kernel_rfl) Try.func9
    (ChangeSpec.witness6 (enc := enc) (C := Try.checked) false ⟨#[], #[.string ByteArray.empty, .string ByteArray.empty], []⟩ 8 (by kernel_rfl) (by kernel_rfl) (by kernel_rfl) (by kernel_rfl)) ?_
  intro W base args ds gs before hval0 hW _ hsz0 _
  have hval : ∀ (j : Nat) t v, Try.f9.params[j]? = some t → args[j]? = some v → Value.okWide Try.prog W .any base t v := hval0
  have hsz : (DataW.weightsEach Try.prog (Try.f9.params.toList ++ Rows.wireShortSpec.plain.varTypes Try.prog) (ds ++ gs)).all (· ≤ reachBytes) = true := hsz0
  have hW' := hW
  obtain ⟨p, q, hA0, hV, rfl, _, _⟩ := hW
  have hA : DataW.TrodAll enc Try.prog W 0 (fun _ => true) true Try.f9.params.toList args.toList ds p := hA0
  rw [Try.params9] at hA hval hsz
  obtain ⟨v0, vs0, d0, ds0, p0, q0, hargs, rfl, rfl, h0, r0⟩ := trodAll_cons hA
  obtain ⟨v1, vs1, d1, ds1, p1, q1, rfl, rfl, rfl, h1, r1⟩ := trodAll_cons r0
  obtain ⟨rfl, rfl, rfl⟩ := trodAll_nil r1
  obtain rfl : args = #[v0, v1] := by cases args; simp_all
  obtain ⟨rfl, rfl⟩ := trodVars_none hV
  obtain ⟨a0, rfl, rfl, rfl, w0⟩ := open_string Try.underlying9 (hval 0 9 v0 rfl rfl) h0
  have s0 : a0.size ≤ 140737488351232 := by have := sized_string hsz (j := 0) (t := 9) rfl rfl; simpa [reachBytes] using this
  obtain ⟨a1, rfl, rfl, rfl, w1⟩ := open_string Try.underlying9 (hval 1 9 v1 rfl rfl) h1
  have s1 : a1.size ≤ 140737488351232 := by have := sized_string hsz (j := 1) (t := 9) rfl rfl; simpa [reachBytes] using this
  clear hA0 hval0 hsz0
  refine (walk a0 a1 W s0 s1).mono fun e W' ⟨he, bel⟩ => ?_
  subst he
  exact ⟨_, rfl, _, _, _, [], [], [], hW', trodAll_mk1 (shut_bool Try.underlying4 _), (trodAll_cons_mk (shut_string Try.underlying9 w0) (trodAll_cons_mk (shut_string Try.underlying9 w1) trodAll_mk0)), rfl, bel.frame _, fun h => by cases h⟩

theorem over : Rows.wireShortRow.holds Try.pinned (OpenSpec.ofChange Rows.wireShortSpec) :=
  OpenClaim.holds_of_wide 9 Try.f9 rfl rfl rfl rfl rfl rfl rfl ⟨rfl, rfl, rfl, rfl, rfl⟩ rfl rfl rfl rfl rfl (by kernel_rfl) Try.func9 (by kernel_rfl)
    (of_decide_eq_true (by kernel_rfl)) (by unfold Func.isWrapper; first | (rw [if_pos (by decide +kernel)]; kernel_rfl) | (rw [if_neg (by decide +kernel)]; exact ⟨rfl, rfl⟩))
    (fun os started H enc _ => lifted os started H enc)

/-- The given statement. -/
theorem proved : Rows.WireShortSaid := over

end Go.Proofs.Ytiohmjimlehnpaa.wireShort
namespace Go.Proofs.Ytiohmjimlehnpaa
theorem wireShort_proved : Rows.WireShortSaid := wireShort.proved
#print axioms wireShort_proved
end Go.Proofs.Ytiohmjimlehnpaa
