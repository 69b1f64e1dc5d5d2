/-
  pinfoldlaw7.PacketBack, at every packet and text: it returns true; what came in reads as it did. No condition.
-/
import Derived.Test.YtghbaojilhgllaaAwake7
import Derived.Test.YtghbaojilhgllaaPackOpen
import Derived.WalkKit
import Derived.ProofKit
import Derived.OpenShut
import Derived.ShutString
import Derived.ChangeOld
import Derived.SizedLaws
import Derived.Carry
namespace Go.Proofs.Ytghbaojilhgllaa
namespace packetBack
open Go.ChangeShapes Go.WideShapes Go.ChangeAt Go.RowKit Go.Pin Go.PlainAid Go.ChangeMaps

set_option maxRecDepth 100000 in
set_option maxHeartbeats 2000000 in
theorem walk_no (p : Pk) (a : Option Addr) (c : Nat) (bh : ByteArray) (w : World) (hL : OpLies w a p.os) (hch : p.ch.size ≤ maxLen) (hA : putP p = ([], 700)) : Calls Try.prog 5 #[pv p a c, .string bh] w fun e w' => e = .returned (.bool true) ∧ Below w.heap.size w w' := by
  have HP : Hid (∀ w', Below w.heap.size w w' → _) := fun w' hb => pPut_c p a c w' (hL.below hb) hch
  rw [hA] at HP
  simp only [mk] at HP
  have BX : Hid (BoxP (w.alloc (.cells (cellsP p a c) 40)) w.heap.size p a c) := BoxP.new w p a c
  have B0 : Hid (Below w.heap.size w (w.alloc (.cells (cellsP p a c) 40))) := (Below.refl w.heap.size w).alloc (Nat.le_refl _) _
  have hcell : Hid (∀ w', BoxP w' w.heap.size p a c → _) := fun w' h => h.all
  clear hA hL hch
  simp only [pv, cellsP] at *
  go_enter Try.func5, Try.ntmps5
  go_wp2_with fail
  refine (awake7_yes _).mono ?_; rintro e w1 ⟨rfl, hb⟩
  have B1 : Hid (Below w.heap.size w w1) := bel_trans B0.out hb
  obtain ⟨c0, c1, c2, c3, c4, c5, c6, c7, c8, c9, c10, c11⟩ := hcell.out _ (BX.out.below hb)
  clear hb B0 BX
  go_wp2_with fail
  refine (HP.out _ B1.out).mono ?_; rintro e w2 ⟨rfl, hb⟩
  have B2 : Hid (Below w.heap.size w w2) := bel_trans B1.out hb
  clear hb B1 c0 c1 c2 c3 c4 c5 c6 c7 c8 c9 c10 c11 HP
  go_wp2_with (go_at_call 13; refine (num_any _ _).mono ?_; rintro e w7 ⟨rfl, rfl⟩)
  go_ret
  exact ⟨rfl, B2.out⟩
set_option maxRecDepth 100000 in
set_option maxHeartbeats 4000000 in
theorem walk_yes (p : Pk) (a : Option Addr) (c : Nat) (bh : ByteArray) (w : World) (hL : OpLies w a p.os) (hm : mayP p = true) (hA : putP p = (headP p ++ putO p.os, 0)) (hl : (putO p.os).length ≤ 1200) (hbh : bh.size ≤ 140737488351232) : Calls Try.prog 5 #[pv p a c, .string bh] w fun e w' => e = .returned (.bool true) ∧ Below w.heap.size w w' := by
  obtain ⟨_, _, _, h16, ho⟩ := (mayP_iff p).1 hm
  have HP : Hid (∀ w', Below w.heap.size w w' → _) := fun w' hb => pPut_c p a c w' (hL.below hb) (by unfold maxLen; omega)
  rw [hA] at HP
  simp only at HP
  have h32 : p.os.length ≤ 32 := ho.1
  have hpo : 1 ≤ (putO p.os).length := by simp [putO]
  have hsz : (mk (headP p ++ putO p.os)).size = 240 + (putO p.os).length := by rw [size_mk, List.length_append, head_len p h16]
  have HG : Hid ((∀ o ∈ p.os, o.1 ≠ 52) → ∀ w, Calls Try.prog 17 #[.string (mk (headP p ++ putO p.os) ++ bh)] w fun e w' => (∃ a c, e = .returned (.tuple #[pv p a c, .int .i64 0]) ∧ Opts w' w.heap.size (.slice a p.os.length c) p.os) ∧ Below w.heap.size w w') := fun h52 w => pGet_yes _ p w (by rw [ByteArray.size_append]; omega) (by
    have e : mk (headP p ++ putO p.os) ++ bh = mk (headP p ++ putO p.os ++ bs bh) := by apply bs_inj; simp [bs, mk]
    rw [e]; exact get_putP hm h52 (bs bh))
  have HS : Hid (∀ (a2 : Option Addr) (c2 : Nat) (w' : World), Below w.heap.size w w' → OpLies w' a2 p.os → _) := fun a2 c2 w' hb h2 => samePk_c p a2 a c2 c w' (by omega) h2 (hL.below hb)
  have HL : Hid (∀ w', Below w.heap.size w w' → OpLies w' a p.os) := fun w' hb => hL.below hb
  obtain ⟨S, hS⟩ : ∃ S, mk (headP p ++ putO p.os) = S := ⟨_, rfl⟩
  rw [hS] at HP HG hsz
  have hS240 : 240 < S.size := by omega
  have hcat : ¬ 9223372036854775807 < S.size + bh.size := by omega
  have BX : Hid (BoxP (w.alloc (.cells (cellsP p a c) 40)) w.heap.size p a c) := BoxP.new w p a c
  have B0 : Hid (Below w.heap.size w (w.alloc (.cells (cellsP p a c) 40))) := (Below.refl w.heap.size w).alloc (Nat.le_refl _) _
  have hcell : Hid (∀ w', BoxP w' w.heap.size p a c → _) := fun w' h => h.all
  have hbel : Hid (∀ w' w'', BoxP w' w.heap.size p a c → Below w'.heap.size w' w'' → BoxP w'' w.heap.size p a c) := fun w' w'' h1 h2 => h1.below h2
  clear hA hL hm h16 ho hpo hsz hS hl
  simp only [pv, cellsP] at *
  go_enter Try.func5, Try.ntmps5
  go_wp2_with fail
  refine (awake7_yes _).mono ?_; rintro e w1 ⟨rfl, hb⟩
  have B1 : Hid (Below w.heap.size w w1) := bel_trans B0.out hb
  have X1 : Hid (BoxP w1 w.heap.size p a c) := hbel.out _ _ BX.out hb
  obtain ⟨c0, c1, c2, c3, c4, c5, c6, c7, c8, c9, c10, c11⟩ := hcell.out _ X1.out
  clear hb B0 BX
  go_wp2_with fail
  refine (HP.out _ B1.out).mono ?_; rintro e w2 ⟨rfl, hb⟩
  have B2 : Hid (Below w.heap.size w w2) := bel_trans B1.out hb
  have X2 : Hid (BoxP w2 w.heap.size p a c) := hbel.out _ _ X1.out hb
  clear hb B1 X1 c0 c1 c2 c3 c4 c5 c6 c7 c8 c9 c10 c11 HP
  go_wp2_with (go_at_call 13; refine (num_any _ _).mono ?_; rintro e w7 ⟨rfl, rfl⟩)
  go_loopw [7] (fun i wr => ∃ j : Nat, j ≤ p.os.length ∧ i = .int .i64 j ∧ Hid (∀ k, k < j → (opAt p.os k).1 ≠ 52) ∧ w7 = wr) (fun i _ => p.os.length - (intOf i).toNat)
  case atStart => exact ⟨0, Nat.zero_le _, rfl, fun k hk => by omega, rfl⟩
  case round =>
    obtain ⟨j, hj, rfl, hall, rfl⟩ := hrel
    obtain ⟨c0, c1, c2, c3, c4, c5, c6, c7, c8, c9, c10, c11⟩ := hcell.out _ X2.out
    by_cases hlt : j < p.os.length
    · obtain ⟨x0, rfl, hf⟩ : ∃ x0, a = some x0 ∧ OpFrom w7 x0 p.os := by
        rcases HL.out _ B2.out with h | ⟨x0, h1, h2⟩
        · rw [h] at hlt; simp at hlt
        · exact ⟨x0, h1, h2⟩
      obtain ⟨g0, g1⟩ := hf j hlt
      have hlt' : (j : Int) < (p.os.length : Int) := by omega
      by_cases h52 : (opAt p.os j).1 = 52
      · rw [h52] at g0
        go_wp2
        go_ret
        exact ⟨rfl, B2.out⟩
      · have hne : ((opAt p.os j).1 == 52) = false := by simpa using h52
        have hall' : Hid (∀ k, k < j + 1 → (opAt p.os k).1 ≠ 52) := fun k hk => by by_cases e : k = j; (subst e; exact h52); exact hall.out k (by omega)
        generalize (opAt p.os j).1 = oc at *
        go_wp2
        exact ⟨⟨j + 1, by omega, by go_num, hall', trivial⟩, by simp [intOf]; omega⟩
    · obtain rfl : j = p.os.length := by omega
      have hno : ∀ o ∈ p.os, o.1 ≠ 52 := fun o ho => by
        obtain ⟨k, hk, rfl⟩ := List.getElem_of_mem ho
        have := hall.out k hk
        unfold opAt at this
        rw [List.getD_eq_getElem?_getD, List.getElem?_eq_getElem hk] at this
        exact this
      have HG' := HG.out hno
      clear hall hno HG
      go_wp2_with fail
      refine (HG' _).mono ?_; rintro e w3 ⟨⟨a4, cc4, rfl, hO⟩, hb⟩
      have hA : Below w3.heap.size w3 (w3.alloc (.cells #[.int .i64 p.op, .int .i64 p.ht, .int .i64 p.ho, .int .i64 p.xid, .int .i64 p.sc, .int .i64 p.fl, .int .i64 p.ci, .int .i64 p.yi, .int .i64 p.si, .int .i64 p.gi, .string p.ch, .slice a4 p.os.length cc4] 40)) := (Below.refl _ _).alloc (Nat.le_refl _) _
      have B4 : Hid (Below w.heap.size w (w3.alloc (.cells #[.int .i64 p.op, .int .i64 p.ht, .int .i64 p.ho, .int .i64 p.xid, .int .i64 p.sc, .int .i64 p.fl, .int .i64 p.ci, .int .i64 p.yi, .int .i64 p.si, .int .i64 p.gi, .string p.ch, .slice a4 p.os.length cc4] 40))) := bel_trans (bel_trans B2.out hb) hA
      have X4 : Hid (BoxP (w3.alloc (.cells #[.int .i64 p.op, .int .i64 p.ht, .int .i64 p.ho, .int .i64 p.xid, .int .i64 p.sc, .int .i64 p.fl, .int .i64 p.ci, .int .i64 p.yi, .int .i64 p.si, .int .i64 p.gi, .string p.ch, .slice a4 p.os.length cc4] 40)) w.heap.size p a c) := hbel.out _ _ (hbel.out _ _ X2.out hb) hA
      have Y4 : Hid (BoxP (w3.alloc (.cells #[.int .i64 p.op, .int .i64 p.ht, .int .i64 p.ho, .int .i64 p.xid, .int .i64 p.sc, .int .i64 p.fl, .int .i64 p.ci, .int .i64 p.yi, .int .i64 p.si, .int .i64 p.gi, .string p.ch, .slice a4 p.os.length cc4] 40)) w3.heap.size p a4 cc4) := BoxP.new w3 p a4 cc4
      have L4 : Hid (OpLies (w3.alloc (.cells #[.int .i64 p.op, .int .i64 p.ht, .int .i64 p.ho, .int .i64 p.xid, .int .i64 p.sc, .int .i64 p.fl, .int .i64 p.ci, .int .i64 p.yi, .int .i64 p.si, .int .i64 p.gi, .string p.ch, .slice a4 p.os.length cc4] 40)) a4 p.os) := hO.rowlies.lies.below hA
      have K4 := Y4.out.all
      clear hO hb hA B2 X2 c0 c1 c2 c3 c4 c5 c6 c7 c8 c9 c10 c11 HG'
      go_wp2_with fail
      generalize w3.alloc (.cells #[.int .i64 p.op, .int .i64 p.ht, .int .i64 p.ho, .int .i64 p.xid, .int .i64 p.sc, .int .i64 p.fl, .int .i64 p.ci, .int .i64 p.yi, .int .i64 p.si, .int .i64 p.gi, .string p.ch, .slice a4 p.os.length cc4] 40) = w4 at *
      generalize w3.heap.size = q4 at *
      obtain ⟨c0, c1, c2, c3, c4, c5, c6, c7, c8, c9, c10, c11⟩ := hcell.out _ X4.out
      obtain ⟨d0, d1, d2, d3, d4, d5, d6, d7, d8, d9, d10, d11⟩ := K4
      go_wp2_with (go_at_call 13; refine (num_any _ _).mono ?_; rintro e w8 ⟨rfl, rfl⟩)
      refine (HS.out _ _ _ B4.out L4.out).mono ?_; rintro e w9 ⟨rfl, hb⟩
      have B9 := bel_trans B4.out hb
      clear hb
      go_wp2
      go_ret
      exact ⟨ret_bool (by simp; omega), B9⟩
theorem walk (p : Pk) (a : Option Addr) (c : Nat) (bh : ByteArray) (w : World) (hL : OpLies w a p.os) (hch : p.ch.size ≤ maxLen) (_ho : ∀ o ∈ p.os, o.2.length ≤ maxLen) (_hl : p.os.length * 24 ≤ 140737488351232) (hbh : bh.size ≤ 140737488351232) : Calls Try.prog 5 #[pv p a c, .string bh] w fun e w' => e = .returned (.bool true) ∧ Below w.heap.size w w' := by
  cases h : mayP p && decide ((putA p.os).2 = 0) with
  | false => exact walk_no p a c bh w hL hch (by unfold putP; rw [h]; rfl)
  | true =>
    have hA : putP p = (headP p ++ putO p.os, 0) := by unfold putP; rw [h]; rfl
    simp only [Bool.and_eq_true, decide_eq_true_eq] at h
    exact walk_yes p a c bh w hL h.1 hA ((putA_cases p.os).2.1.1 h.2).2 hbh

theorem own : ownKnob Try.prog.godebug = none := by kernel_rfl
theorem laidOut : laidOutB Try.prog = true := by kernel_rfl

/-! ### The row's step -/
set_option maxRecDepth 100000 in
theorem lifted (os : Os) (started : os.Started) (H : Type) (enc : TypeId × Value → H) :
    ReturnsInHanded {} Try.checked os 5 .any (Rows.packetBackSpec.pre6 enc Try.prog Try.f5 Rows.packetBackRow.domain false) (Rows.packetBackSpec.post enc Try.prog Try.f5 false true false false) := by
  refine returnsInHanded_of_change_sized (C := Try.checked) own started (by kernel_rfl) Try.func5
    (ChangeSpec.witness6 (enc := enc) (C := Try.checked) false ⟨#[], #[.agg #[.int .i64 0, .int .i64 0, .int .i64 0, .int .i64 0, .int .i64 0, .int .i64 0, .int .i64 0, .int .i64 0, .int .i64 0, .int .i64 0, .string ByteArray.empty, .slice none 0 0], .string ByteArray.empty], []⟩ 8 (by kernel_rfl) (by kernel_rfl) (by kernel_rfl) (by kernel_rfl)) ?_
  intro W base args ds gs before hval0 hW _ hsz0 _
  have hval : ∀ (j : Nat) t v, Try.f5.params[j]? = some t → args[j]? = some v → Value.okWide Try.prog W .any base t v := hval0
  have hsz : (DataW.weightsEach Try.prog (Try.f5.params.toList ++ Rows.packetBackSpec.plain.varTypes Try.prog) (ds ++ gs)).all (· ≤ reachBytes) = true := hsz0
  have hW' := hW
  obtain ⟨p, q, hA0, hV, rfl, _, _⟩ := hW
  have hA : DataW.TrodAll enc Try.prog W 0 (fun _ => true) true Try.f5.params.toList args.toList ds p := hA0
  rw [Try.params5] at hA hval hsz
  obtain ⟨v0, vs0, d0, ds0, p0, q0, hargs, rfl, rfl, h0, r0⟩ := trodAll_cons hA
  obtain ⟨v1, vs1, d1, ds1, p1, q1, rfl, rfl, rfl, h1, r1⟩ := trodAll_cons r0
  obtain ⟨rfl, rfl, rfl⟩ := trodAll_nil r1
  obtain rfl : args = #[v0, v1] := by cases args; simp_all
  obtain ⟨rfl, rfl⟩ := trodVars_none hV
  have k0 := h0
  have lt0 : ∀ x ∈ p0, x.block < W.heap.size := by obtain ⟨m, hm⟩ := k0; exact DataW.trod_lt m _ _ _ hm
  obtain ⟨a0, A0, C0, rfl, w0, f0, g0, u0⟩ := open_pk (hval 0 40 v0 rfl rfl) h0
  have b0 : a0.os.length * 24 ≤ 140737488351232 := u0 (fun n hn => by have := List.all_eq_true.1 hsz n (DataW.weights_mem_each (j := 0) (t := 40) (d := d0) rfl rfl n hn); simpa using this)
  obtain ⟨a1, rfl, rfl, rfl, w1⟩ := open_string Try.underlying9 (hval 1 9 v1 rfl rfl) h1
  have s1 : a1.size ≤ 140737488351232 := by have := sized_string hsz (j := 1) (t := 9) rfl rfl; simpa [reachBytes] using this
  clear hA0 hval0 hsz0
  refine (walk a0 A0 C0 a1 W w0 f0 g0 b0 s1).mono fun e W' ⟨he, bel⟩ => ?_
  subst he
  exact ⟨_, rfl, _, _, _, [], _, [], hW', trodAll_mk1 (shut_bool Try.underlying4 _), (trodAll_cons_mk (Below.trod laidOut (by kernel_rfl) (of_decide_eq_true (by kernel_rfl)) k0 bel lt0) (trodAll_cons_mk (shut_string Try.underlying9 w1) trodAll_mk0)), rfl, bel.frame _, fun h => by cases h⟩

theorem over : Rows.packetBackRow.holds Try.pinned (OpenSpec.ofChange Rows.packetBackSpec) :=
  OpenClaim.holds_of_wide 5 Try.f5 rfl rfl rfl rfl rfl rfl rfl ⟨rfl, rfl, rfl, rfl, rfl⟩ rfl rfl rfl rfl rfl (by kernel_rfl) Try.func5 (by kernel_rfl)
    (of_decide_eq_true (by kernel_rfl)) (by unfold Func.isWrapper; first | (rw [if_pos (by decide +kernel)]; kernel_rfl) | (rw [if_neg (by decide +kernel)]; exact ⟨rfl, rfl⟩))
    (fun os started H enc _ => lifted os started H enc)

/-- The given statement. -/
theorem proved : Rows.PacketBackSaid := over

end packetBack
theorem packetBack_proved : Rows.PacketBackSaid := packetBack.proved
end Go.Proofs.Ytghbaojilhgllaa
