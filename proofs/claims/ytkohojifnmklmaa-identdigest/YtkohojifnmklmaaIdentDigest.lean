/-
  Proved here: pinfoldlaw9.IdentDigest answers true for every two texts and numbers (P9.2, T3: a client that differs in one byte has another word).
  Conditions: none but the row's own.
-/
import Derived.Test.YtkohojifnmklmaaAwake9
import Derived.OpenShut
import Derived.ShutString
import Derived.ChangeOld
import Derived.SizedLaws
namespace Go.Proofs.Ytkohojifnmklmaa.identDigest
open Go.ChangeShapes Go.WideShapes Go.ChangeAt Go.RowKit Go.Pin Go.PlainAid
open Go.ChangeMaps (open_string shut_string)

/-- The bytes of a client, one of them turned. -/
theorem turned (s : ByteArray) (g cap I : Nat) (Y : Int) (w1 : World) (hI : I < s.size) (y0 : 0 ≤ Y) (y1 : Y < 256) (h : ∀ j, j < s.size → w1.cell? ⟨g, j, none⟩ = some (.int .u8 (bt s j)) ∧ w1.frozen? ⟨g, j, none⟩ = false) :
    (convert 37 9 (.slice (some ⟨g, 0, none⟩) s.size cap)).run Try.prog (w1.setCell ⟨g, I, none⟩ (.int .u8 Y)) = .ok (.string (mk ((bs s).set I (UInt8.ofNat Y.toNat)))) (w1.setCell ⟨g, I, none⟩ (.int .u8 Y)) := by
  have hl : ((bs s).set I (UInt8.ofNat Y.toNat)).length = s.size := by simp [length_bs]
  have := run_convert_bytes_back (P := Try.prog) (w1.setCell ⟨g, I, none⟩ (.int .u8 Y)) 37 9 5 ⟨g, 0, none⟩ cap ((bs s).set I (UInt8.ofNat Y.toNat)) Try.underlying37 Try.underlying5 Try.underlying9 (by
    intro j hj
    have hj' : j < s.size := by rw [← hl]; exact hj
    have hjb : j < (bs s).length := by rw [length_bs]; exact hj'
    rw [addr_add, Nat.zero_add]
    by_cases e : j = I
    · subst e
      rw [World.cell?_setCell_same _ _ _ (h j hj').1]
      have e2 : (((bs s).set j (UInt8.ofNat Y.toNat))[j]'hj) = UInt8.ofNat Y.toNat := by simp
      rw [e2, toNat_byte Y y0 y1]
      congr 2
      omega
    · rw [World.cell?_setCell_other _ _ _ _ (by intro e'; injection e' with _ e'; exact e e'.symm), (h j hj').1]
      have e2 : (((bs s).set I (UInt8.ofNat Y.toNat))[j]'hj) = (bs s)[j] := by rw [List.getElem_set_ne (by omega)]
      rw [e2, bt_is s j hj' hjb])
  rw [hl] at this
  exact this
theorem set_parts (l : List UInt8) (I : Nat) (h : I < l.length) (y : UInt8) : l = l.take I ++ l[I] :: l.drop (I + 1) ∧ l.set I y = l.take I ++ y :: l.drop (I + 1) := by
  constructor
  · rw [← List.drop_eq_getElem_cons h, List.take_append_drop]
  · rw [List.set_eq_take_append_cons_drop, if_pos h]
theorem xor_other {o m : Nat} (ho : o < 256) (hm : 1 ≤ m) (hm2 : m ≤ 128) : o ^^^ m ≠ o ∧ o ^^^ m < 256 := by
  refine ⟨fun e => ?_, Nat.xor_lt_two_pow (n := 8) ho (by omega)⟩
  have h1 := congrArg (o ^^^ ·) e
  simp only [← Nat.xor_assoc, Nat.xor_self, Nat.zero_xor] at h1
  omega

set_option maxHeartbeats 2000000 in
theorem walk (s n : ByteArray) (a2 a3 : Int) (w : World) (hs0 : s.size ≤ 140737488351232) (hn0 : n.size ≤ 140737488351232) (_w2 : (Lit.int .i64 a2).wf = true) (_w3 : (Lit.int .i64 a3).wf = true) :
    Calls Try.prog 6 #[.string s, .string n, .int .i64 a2, .int .i64 a3] w fun e w' => e = .returned (.bool true) ∧ Below w.heap.size w w' := by
  have hn : n.size ≤ maxLen := by unfold maxLen; omega
  have HW : Hid (∀ w, _) := fun w => awake9_yes w
  by_cases hm : (okI (bs s) && mayL (bs n)) = true
  · obtain ⟨h1, h2⟩ := Bool.and_eq_true_iff.1 hm
    have l1 := okI_len h1
    rw [length_bs] at l1
    obtain ⟨l0, l1⟩ := l1
    obtain ⟨I, hIe, hIl⟩ := pick_mod a2 s.size (by omega) (by omega)
    have hI : I < s.size := by omega
    have hIb : I < (bs s).length := by rw [length_bs]; exact hI
    obtain ⟨m, hmk, m0, m1⟩ : ∃ m : Int, bits .and .i64 a3 127 = m ∧ 0 ≤ m ∧ m ≤ 127 := ⟨a3 % 128, i64_mask 7 a3 (by omega), by omega, by omega⟩
    have b0 := bt_nonneg s I
    have b1 := bt_le s I
    have hx8 : bits .xor .u8 (bt s I) (1 + m) = (((bt s I).toNat ^^^ (1 + m).toNat : Nat) : Int) := u8_xor _ _ b0 (by omega) (by omega) (by omega)
    have hxo := xor_other (o := (bt s I).toNat) (m := (1 + m).toNat) (by omega) (by omega) (by omega)
    obtain ⟨Y, hY⟩ : ∃ Y : Int, bits .xor .u8 (bt s I) (1 + m) = Y := ⟨_, rfl⟩
    have y0 : 0 ≤ Y := by omega
    have y1 : Y < 256 := by omega
    have hyne : Y ≠ bt s I := by omega
    have hA : ∀ w, _ := fun w => dhcid_is s n (mk (dhcL (bs s) (bs n))) 0 w hn (by unfold dhcA; rw [hm, if_pos rfl])
    obtain ⟨T, hT⟩ : ∃ T, (bs s).set I (UInt8.ofNat Y.toNat) = T := ⟨_, rfl⟩
    have okT : okI T = true := by rw [← hT]; unfold okI at h1 ⊢; rw [List.length_set]; exact h1
    have hC : ∀ w, _ := fun w => dhcid_is (mk T) n (mk (dhcL T (bs n))) 0 w hn (by unfold dhcA; rw [bs_mk, okT, h2]; rfl)
    have hne : dhcL (bs s) (bs n) ≠ dhcL T (bs n) := by
      intro e
      obtain ⟨p1, p2⟩ := set_parts (bs s) I hIb (UInt8.ofNat Y.toNat)
      rw [hT] at p2
      rw [p1, p2] at e
      have := dhc_one e
      apply hyne
      rw [bt_is s I hI hIb]
      have h3 := congrArg UInt8.toNat this
      rw [toNat_byte Y y0 y1] at h3
      have h4 : ((bs s)[I]).toNat = Y.toNat := by
        rw [← h3]
      omega
    have e1 : ((mk (dhcL (bs s) (bs n))).toList == (mk (dhcL T (bs n))).toList) = false := eq_no (fun e => hne (mk_inj e))
    have z1 : (mk (dhcL (bs s) (bs n))).size = 7 := by rw [size_mk, dhcL_len]
    have HT : Hid (∀ (g cap : Nat) (w1 : World), (∀ j, j < s.size → w1.cell? ⟨g, j, none⟩ = some (.int .u8 (bt s j)) ∧ w1.frozen? ⟨g, j, none⟩ = false) → _) := fun g cap w1 h => turned s g cap I Y w1 hI y0 y1 h
    rw [hT] at HT
    have HA : Hid (∀ w, _) := hA
    have HC : Hid (∀ w, _) := hC
    have hIs : (I : Int) < (s.size : Int) := by omega
    have HB : Hid (∀ wq : World, _) := fun wq => bytes_new s wq
    generalize mk (dhcL (bs s) (bs n)) = S at *
    generalize mk (dhcL T (bs n)) = S2 at *
    generalize mk T = TT at *
    clear hA hC hne okT hT h1 h2 hm hn hx8 hxo hyne hIb
    go_enter Try.func6, Try.ntmps6
    go_wp2_with fail
    refine (HW.out _).mono ?_; rintro e w1 ⟨rfl, B⟩
    go_wp2_with fail
    refine (HA.out _).mono ?_; rintro e w2 ⟨rfl, hb⟩
    replace B := bel_trans B hb
    clear hb
    obtain ⟨w3, cap, hcv, hb3, hz3, hc3⟩ := HB.out w2
    have B3 := bel_trans B hb3
    obtain ⟨q1, q2⟩ := hc3 I (by omega)
    have HV := HT.out _ cap _ hc3
    have B4 : Hid (Below w.heap.size w (w3.setCell ⟨w2.heap.size, I, none⟩ (.int .u8 Y))) := B3.setCell B.size _
    clear hc3 B B3 hb3 HB HT
    go_wp2_with (go_at_call 12; refine (num_any _ _).mono ?_; rintro e w6 ⟨rfl, rfl⟩)
    generalize w3.setCell ⟨w6.heap.size, I, none⟩ (.int .u8 Y) = w4 at *
    refine (HC.out _).mono ?_; rintro e w5 ⟨rfl, hb⟩
    have B5 : Hid (Below w.heap.size w w5) := bel_trans B4.out hb
    clear hb B4 q1 q2 HV hcv
    go_wp2_with fail
    refine (HA.out _).mono ?_; rintro e w7 ⟨rfl, hb⟩
    have B7 : Hid (Below w.heap.size w w7) := bel_trans B5.out hb
    clear hb B5
    go_wp2_with (go_at_call 12; refine (num_any _ _).mono ?_; rintro e w8 ⟨rfl, rfl⟩)
    go_ret
    exact ⟨rfl, B7.out⟩
  · have hm' : (okI (bs s) && mayL (bs n)) = false := by simpa using hm
    have HA : Hid (∀ w, _) := fun w => dhcid_is s n ⟨#[]⟩ 900 w hn (by unfold dhcA; rw [hm', if_neg (by simp)])
    clear hm hm' hn
    go_enter Try.func6, Try.ntmps6
    go_wp2_with fail
    refine (HW.out _).mono ?_; rintro e w1 ⟨rfl, B⟩
    go_wp2_with fail
    refine (HA.out _).mono ?_; rintro e w2 ⟨rfl, hb⟩
    replace B := bel_trans B hb
    clear hb
    go_wp2_with (go_at_call 12; refine (num_any _ _).mono ?_; rintro e w6 ⟨rfl, rfl⟩)
    go_ret
    exact ⟨rfl, B⟩

theorem own : ownKnob Try.prog.godebug = none := by kernel_rfl
theorem laidOut : laidOutB Try.prog = true := by kernel_rfl

/-! ### The row's step -/
set_option maxRecDepth 100000 in
theorem lifted (os : Os) (started : os.Started) (H : Type) (enc : TypeId × Value → H) :
    ReturnsInHanded {} Try.checked os 6 .any (Rows.identDigestSpec.pre6 enc Try.prog Try.f6 Rows.identDigestRow.domain false) (Rows.identDigestSpec.post enc Try.prog Try.f6 false true false false) := by
  refine returnsInHanded_of_change_sized (C := Try.checked) own started (by kernel_rfl) Try.func6
    (ChangeSpec.witness6 (enc := enc) (C := Try.checked) false ⟨#[], #[.string ByteArray.empty, .string ByteArray.empty, .int .i64 0, .int .i64 0], []⟩ 8 (by kernel_rfl) (by kernel_rfl) (by kernel_rfl) (by kernel_rfl)) ?_
  intro W base args ds gs before hval0 hW _ hsz0 _
  have hval : ∀ (j : Nat) t v, Try.f6.params[j]? = some t → args[j]? = some v → Value.okWide Try.prog W .any base t v := hval0
  have hsz : (DataW.weightsEach Try.prog (Try.f6.params.toList ++ Rows.identDigestSpec.plain.varTypes Try.prog) (ds ++ gs)).all (· ≤ reachBytes) = true := hsz0
  have hW' := hW
  obtain ⟨p, q, hA0, hV, rfl, _, _⟩ := hW
  have hA : DataW.TrodAll enc Try.prog W 0 (fun _ => true) true Try.f6.params.toList args.toList ds p := hA0
  rw [Try.params6] at hA hval hsz
  obtain ⟨v0, vs0, d0, ds0, p0, q0, hargs, rfl, rfl, h0, r0⟩ := trodAll_cons hA
  obtain ⟨v1, vs1, d1, ds1, p1, q1, rfl, rfl, rfl, h1, r1⟩ := trodAll_cons r0
  obtain ⟨v2, vs2, d2, ds2, p2, q2, rfl, rfl, rfl, h2, r2⟩ := trodAll_cons r1
  obtain ⟨v3, vs3, d3, ds3, p3, q3, rfl, rfl, rfl, h3, r3⟩ := trodAll_cons r2
  obtain ⟨rfl, rfl, rfl⟩ := trodAll_nil r3
  obtain rfl : args = #[v0, v1, v2, v3] := by cases args; simp_all
  obtain ⟨rfl, rfl⟩ := trodVars_none hV
  obtain ⟨a0, rfl, rfl, rfl, w0⟩ := open_string Try.underlying9 (hval 0 9 v0 rfl rfl) h0
  have s0 : a0.size ≤ 140737488351232 := by have := sized_string hsz (j := 0) (t := 9) rfl rfl; simpa [reachBytes] using this
  obtain ⟨a1, rfl, rfl, rfl, w1⟩ := open_string Try.underlying9 (hval 1 9 v1 rfl rfl) h1
  have s1 : a1.size ≤ 140737488351232 := by have := sized_string hsz (j := 1) (t := 9) rfl rfl; simpa [reachBytes] using this
  obtain ⟨a2, rfl, rfl, rfl, w2⟩ := open_int Try.underlying3 (hval 2 3 v2 rfl rfl) h2
  obtain ⟨a3, rfl, rfl, rfl, w3⟩ := open_int Try.underlying3 (hval 3 3 v3 rfl rfl) h3
  clear hA0 hval0 hsz0
  refine (walk a0 a1 a2 a3 W s0 s1 w2 w3).mono fun e W' ⟨he, bel⟩ => ?_
  subst he
  exact ⟨_, rfl, _, _, _, [], [], [], hW', trodAll_mk1 (shut_bool Try.underlying4 _), (trodAll_cons_mk (shut_string Try.underlying9 w0) (trodAll_cons_mk (shut_string Try.underlying9 w1) (trodAll_cons_mk (shut_int Try.underlying3 w2) (trodAll_cons_mk (shut_int Try.underlying3 w3) trodAll_mk0)))), rfl, bel.frame _, fun h => by cases h⟩

theorem over : Rows.identDigestRow.holds Try.pinned (OpenSpec.ofChange Rows.identDigestSpec) :=
  OpenClaim.holds_of_wide 6 Try.f6 rfl rfl rfl rfl rfl rfl rfl ⟨rfl, rfl, rfl, rfl, rfl⟩ rfl rfl rfl rfl rfl (by kernel_rfl) Try.func6 (by kernel_rfl)
    (of_decide_eq_true (by kernel_rfl)) (by unfold Func.isWrapper; first | (rw [if_pos (by decide +kernel)]; kernel_rfl) | (rw [if_neg (by decide +kernel)]; exact ⟨rfl, rfl⟩))
    (fun os started H enc _ => lifted os started H enc)

/-- The given statement. -/
theorem proved : Rows.IdentDigestSaid := over

end Go.Proofs.Ytkohojifnmklmaa.identDigest
namespace Go.Proofs.Ytkohojifnmklmaa
theorem identDigest_proved : Rows.IdentDigestSaid := identDigest.proved
#print axioms identDigest_proved
end Go.Proofs.Ytkohojifnmklmaa
