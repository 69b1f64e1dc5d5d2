/-
  Proved here: pinfoldlaw9.Idents answers true for every packet and every two texts, all of bulk at most 1048576 (P9.1, P9.2, R4: Client and Dhcid answer what the document's own functions do; the packet stays).
  Conditions: none but the row's own (its second form: sizes up to 1048576).
-/
import Derived.Test.YtkohojifnmklmaaAwake9
import Derived.Test.YtkohojifnmklmaaIdRef
import Derived.Test.YtkohojifnmklmaaPackOpen
import Derived.Test.YtkohojifnmklmaaPackSame
import Derived.Test.YtkohojifnmklmaaPackCopy
import Derived.WalkKit
import Derived.ProofKit
import Derived.OpenShut
import Derived.ShutString
import Derived.JoinedCond
import Derived.Deep.CondSized
import Derived.ChangeOld
import Derived.SizedLaws
import Derived.Carry
namespace Go.Proofs.Ytkohojifnmklmaa
namespace idents
open Go.ChangeShapes Go.WideShapes Go.ChangeAt Go.RowKit Go.Pin Go.PlainAid Go.ChangeMaps

set_option maxRecDepth 100000 in
set_option maxHeartbeats 4000000 in
theorem walk (p : Pk) (a : Option Addr) (c : Nat) (s n : ByteArray) (w : World) (hL : OpLies w a p.os) (hch : p.ch.size ≤ maxLen) (_ho : ∀ o ∈ p.os, o.2.length ≤ maxLen) (hl : p.os.length * 24 ≤ 140737488351232) (_hs : s.size ≤ 1048576) (hn : n.size ≤ 1048576) :
    Calls Try.prog 3 #[pv p a c, .string s, .string n] w fun e w' => e = .returned (.bool true) ∧ Below w.heap.size w w' := by
  have hl2 : p.os.length ≤ 10000000000000 := by omega
  have HCP : Hid (∀ w', Below w.heap.size w w' → _) := fun w' hb => copyPk_c p a c w' hl (hL.below hb)
  have HP : Hid (∀ (a2 : Option Addr) (c2 : Nat) (w' : World), OpLies w' a2 p.os → _) := fun a2 c2 w' h => client_c p a2 c2 w' h hch
  have HR : Hid (∀ w', Below w.heap.size w w' → _) := fun w' hb => rClient_c p a c w' (hL.below hb) hl2 hch
  have HD : Hid (∀ w, _) := fun w => dhcid_c s n w (by unfold maxLen; omega)
  have HE : Hid (∀ w, _) := fun w => rDhcid_c s n w hn
  have HW : Hid (∀ w, _) := fun w => awake9_yes w
  have HS : Hid (∀ (a2 : Option Addr) (c2 : Nat) (w' : World), OpLies w' a2 p.os → Below w.heap.size w w' → _) := fun a2 c2 w' h hb => samePk_c p a2 a c2 c w' hl2 h (hL.below hb)
  generalize clientA p = A at *
  generalize dhcA (bs s) (bs n) = D at *
  obtain ⟨AS, AE⟩ := A
  obtain ⟨DS, DE⟩ := D
  have BX : Hid (BoxP (w.alloc (.cells (cellsP p a c) 24)) w.heap.size p a c) := BoxP.new w p a c
  have B0 : Hid (Below w.heap.size w (w.alloc (.cells (cellsP p a c) 24))) := (Below.refl w.heap.size w).alloc (Nat.le_refl _) _
  have hcell : Hid (∀ (w' : World) (b : Nat) (q : Pk) (a : Option Addr) (c : Nat), BoxP w' b q a c → _) := fun w' b q a c h => h.all
  clear hL hch _ho _hs hn
  simp only [pv, cellsP] at *
  go_enter Try.func3, Try.ntmps3
  obtain ⟨w0, hw0⟩ : ∃ w0, w.alloc (.cells #[.int .i64 p.op, .int .i64 p.ht, .int .i64 p.ho, .int .i64 p.xid, .int .i64 p.sc, .int .i64 p.fl, .int .i64 p.ci, .int .i64 p.yi, .int .i64 p.si, .int .i64 p.gi, .string p.ch, .slice a p.os.length c] 24) = w0 := ⟨_, rfl⟩
  rw [hw0] at BX B0
  obtain ⟨c0, c1, c2, c3, c4, c5, c6, c7, c8, c9, c10, c11⟩ := hcell.out _ _ _ _ _ BX.out
  go_wp2_with fail
  refine (HCP.out _ B0.out).mono ?_; rintro e w1 ⟨⟨a1, n1, rfl, hO1⟩, hb⟩
  have X1 : Hid (BoxP w1 w.heap.size p a c) := BX.out.below hb
  have B1 : Hid (Below w.heap.size w w1) := bel_trans B0.out hb
  have L1 : Hid (OpLies w1 a1 p.os) := by
    obtain ⟨a', c', e, h⟩ := hO1.lies
    simp only [Value.slice.injEq] at e
    show OpLies _ _ _
    rw [e.1]; exact h
  clear hb hO1 BX B0 hw0 c0 c1 c2 c3 c4 c5 c6 c7 c8 c9 c10 c11 HCP
  obtain ⟨w2, hw2⟩ : ∃ w2, w1.alloc (.cells #[.int .i64 p.op, .int .i64 p.ht, .int .i64 p.ho, .int .i64 p.xid, .int .i64 p.sc, .int .i64 p.fl, .int .i64 p.ci, .int .i64 p.yi, .int .i64 p.si, .int .i64 p.gi, .string p.ch, .slice a1 p.os.length n1] 24) = w2 := ⟨_, rfl⟩
  have hb2 : Below w1.heap.size w1 w2 := by rw [← hw2]; exact (Below.refl _ _).alloc (Nat.le_refl _) _
  have X2 : Hid (BoxP w2 w.heap.size p a c) := X1.out.below hb2
  have Y2 : Hid (BoxP w2 w1.heap.size p a1 n1) := by
    show BoxP _ _ _ _ _
    rw [← hw2]; exact BoxP.new w1 p a1 n1
  have L2 : Hid (OpLies w2 a1 p.os) := L1.out.below hb2
  have B2 : Hid (Below w.heap.size w w2) := bel_trans B1.out hb2
  obtain ⟨d0, d1, d2, d3, d4, d5, d6, d7, d8, d9, d10, d11⟩ := hcell.out _ _ _ _ _ Y2.out
  clear hb2 X1 B1 L1
  go_wp2_with fail
  generalize w1.heap.size = bx at *
  refine (HP.out _ _ _ L2.out).mono ?_; rintro e w3 ⟨rfl, hb⟩
  have X3 : Hid (BoxP w3 w.heap.size p a c) := X2.out.below hb
  have Y3 : Hid (BoxP w3 bx p a1 n1) := Y2.out.below hb
  have L3 : Hid (OpLies w3 a1 p.os) := L2.out.below hb
  have B3 : Hid (Below w.heap.size w w3) := bel_trans B2.out hb
  clear hb X2 Y2 L2 B2 hw2 d0 d1 d2 d3 d4 d5 d6 d7 d8 d9 d10 d11 HP
  obtain ⟨c0, c1, c2, c3, c4, c5, c6, c7, c8, c9, c10, c11⟩ := hcell.out _ _ _ _ _ X3.out
  go_wp2_with fail
  refine (HR.out _ B3.out).mono ?_; rintro e w4 ⟨rfl, hb⟩
  have X4 : Hid (BoxP w4 w.heap.size p a c) := X3.out.below hb
  have Y4 : Hid (BoxP w4 bx p a1 n1) := Y3.out.below hb
  have L4 : Hid (OpLies w4 a1 p.os) := L3.out.below hb
  have B4 : Hid (Below w.heap.size w w4) := bel_trans B3.out hb
  clear hb X3 Y3 L3 B3 c0 c1 c2 c3 c4 c5 c6 c7 c8 c9 c10 c11 HR
  go_wp2_with fail
  refine (HD.out _).mono ?_; rintro e w5 ⟨rfl, hb⟩
  have X5 : Hid (BoxP w5 w.heap.size p a c) := X4.out.below hb
  have Y5 : Hid (BoxP w5 bx p a1 n1) := Y4.out.below hb
  have L5 : Hid (OpLies w5 a1 p.os) := L4.out.below hb
  have B5 : Hid (Below w.heap.size w w5) := bel_trans B4.out hb
  clear hb X4 Y4 L4 B4 HD
  go_wp2_with fail
  refine (HE.out _).mono ?_; rintro e w6 ⟨rfl, hb⟩
  have X6 : Hid (BoxP w6 w.heap.size p a c) := X5.out.below hb
  have Y6 : Hid (BoxP w6 bx p a1 n1) := Y5.out.below hb
  have L6 : Hid (OpLies w6 a1 p.os) := L5.out.below hb
  have B6 : Hid (Below w.heap.size w w6) := bel_trans B5.out hb
  clear hb X5 Y5 L5 B5 HE
  obtain ⟨c0, c1, c2, c3, c4, c5, c6, c7, c8, c9, c10, c11⟩ := hcell.out _ _ _ _ _ X6.out
  obtain ⟨d0, d1, d2, d3, d4, d5, d6, d7, d8, d9, d10, d11⟩ := hcell.out _ _ _ _ _ Y6.out
  go_wp2_with (first | (go_at_call 12; refine (num_any _ _).mono ?_; rintro e wz ⟨rfl, rfl⟩) | fail)
  refine (HS.out _ _ _ L6.out B6.out).mono ?_; rintro e w7 ⟨rfl, hb⟩
  have B7 : Hid (Below w.heap.size w w7) := bel_trans B6.out hb
  clear hb X6 Y6 L6 B6 HS c0 c1 c2 c3 c4 c5 c6 c7 c8 c9 c10 c11 d0 d1 d2 d3 d4 d5 d6 d7 d8 d9 d10 d11
  go_wp2_with fail
  refine (HW.out _).mono ?_; rintro e w8 ⟨rfl, hb⟩
  go_wp2
  go_ret
  exact ⟨rfl, bel_trans B7.out hb⟩

theorem own : ownKnob Try.prog.godebug = none := by kernel_rfl
theorem laidOut : laidOutB Try.prog = true := by kernel_rfl

/-! ### The row's step -/
set_option maxRecDepth 100000 in
theorem lifted (os : Os) (started : os.Started) (H : Type) (enc : TypeId × Value → H) (F : Stop.Interp) :
    ReturnsInHanded {} Try.checked os 3 .any ((Rows.OpenSpec.upto Rows.identsSpec).pre6 enc Try.prog Try.f3 Rows.identsUptoRow.domain false) (((Rows.OpenSpec.upto Rows.identsSpec).at F).post enc Try.prog Try.f3 false true false false) := by
  refine returnsInHanded_of_cond_sized (C := Try.checked) (s := Rows.OpenSpec.upto Rows.identsSpec) (k := Rows.uptoSmall) rfl own started (by kernel_rfl) Try.func3
    (OpenSpec.witness (enc := enc) (C := Try.checked) (s := Rows.OpenSpec.upto Rows.identsSpec) (k := Rows.uptoSmall) rfl false ⟨#[], #[.agg #[.int .i64 0, .int .i64 0, .int .i64 0, .int .i64 0, .int .i64 0, .int .i64 0, .int .i64 0, .int .i64 0, .int .i64 0, .int .i64 0, .string ByteArray.empty, .slice none 0 0], .string ByteArray.empty, .string ByteArray.empty], []⟩ 8 (by kernel_rfl) (by kernel_rfl) (by kernel_rfl)
      (x := ([.agg [.lit (.int .i64 0), .lit (.int .i64 0), .lit (.int .i64 0), .lit (.int .i64 0), .lit (.int .i64 0), .lit (.int .i64 0), .lit (.int .i64 0), .lit (.int .i64 0), .lit (.int .i64 0), .lit (.int .i64 0), .lit (.string []), .nil], .lit (.string []), .lit (.string [])], [], [])) (by kernel_rfl) rfl (by kernel_rfl)) ?_
  intro W base args ds gs before hval0 hW _ hk hsz0 _
  have hval : ∀ (j : Nat) t v, Try.f3.params[j]? = some t → args[j]? = some v → Value.okWide Try.prog W .any base t v := hval0
  have hsz : (DataW.weightsEach Try.prog (Try.f3.params.toList ++ Rows.identsSpec.plain.varTypes Try.prog) (ds ++ gs)).all (· ≤ reachBytes) = true := hsz0
  have hW' := hW
  obtain ⟨p, q, hA0, hV, rfl, _, _⟩ := hW
  have hA : DataW.TrodAll enc Try.prog W 0 (fun _ => true) true Try.f3.params.toList args.toList ds p := hA0
  rw [Try.params3] at hA hval hsz
  obtain ⟨v0, vs0, d0, ds0, p0, q0, hargs, rfl, rfl, h0, r0⟩ := trodAll_cons hA
  obtain ⟨v1, vs1, d1, ds1, p1, q1, rfl, rfl, rfl, h1, r1⟩ := trodAll_cons r0
  obtain ⟨v2, vs2, d2, ds2, p2, q2, rfl, rfl, rfl, h2, r2⟩ := trodAll_cons r1
  obtain ⟨rfl, rfl, rfl⟩ := trodAll_nil r2
  obtain rfl : args = #[v0, v1, v2] := by cases args; simp_all
  obtain ⟨rfl, rfl⟩ := trodVars_none hV
  have hb := of_decide_eq_true hk
  simp only [List.append_nil, Rows.uptoBulkAll] at hb
  have k0 := h0
  have lt0 : ∀ x ∈ p0, x.block < W.heap.size := by obtain ⟨m, hm⟩ := k0; exact DataW.trod_lt m _ _ _ hm
  obtain ⟨a0, A0, C0, rfl, w0, f0, g0, u0⟩ := open_pk (hval 0 24 v0 rfl rfl) h0
  have b0 : a0.os.length * 24 ≤ 140737488351232 := u0 (fun n hn => by have := List.all_eq_true.1 hsz n (DataW.weights_mem_each (j := 0) (t := 24) (d := d0) rfl rfl n hn); simpa using this)
  obtain ⟨a1, rfl, rfl, rfl, w1⟩ := open_string Try.underlying9 (hval 1 9 v1 rfl rfl) h1
  have l1 : a1.data.toList.length = a1.size := Array.length_toList
  obtain ⟨a2, rfl, rfl, rfl, w2⟩ := open_string Try.underlying9 (hval 2 9 v2 rfl rfl) h2
  have l2 : a2.data.toList.length = a2.size := Array.length_toList
  simp only [Rows.uptoBulk] at hb
  have s1 : a1.size ≤ 1048576 := by omega
  have s2 : a2.size ≤ 1048576 := by omega
  clear hA0 hval0 hb hk hsz0
  refine (walk a0 A0 C0 a1 a2 W w0 f0 g0 b0 s1 s2).mono fun e W' ⟨he, bel⟩ => ?_
  subst he
  exact ⟨_, rfl, _, _, _, [], _, [], hW', trodAll_mk1 (shut_bool Try.underlying4 _), (trodAll_cons_mk (Below.trod laidOut (by kernel_rfl) (of_decide_eq_true (by kernel_rfl)) k0 bel lt0) (trodAll_cons_mk (shut_string Try.underlying9 w1) (trodAll_cons_mk (shut_string Try.underlying9 w2) trodAll_mk0))), rfl, bel.frame _, fun h => by cases h⟩

/-- The given statement. -/
theorem proved : Rows.IdentsUptoSaid :=
  OpenClaim.holds_of_cond 3 Try.f3 rfl rfl rfl rfl rfl rfl rfl ⟨rfl, rfl, rfl, rfl, rfl⟩ rfl rfl rfl rfl rfl (by kernel_rfl) Try.func3 (by kernel_rfl)
    (of_decide_eq_true (by kernel_rfl)) (by unfold Func.isWrapper; first | (rw [if_pos (by decide +kernel)]; kernel_rfl) | (rw [if_neg (by decide +kernel)]; exact ⟨rfl, rfl⟩))
    (fun os started H enc _ F => lifted os started H enc F)

end idents
theorem idents_proved : Rows.IdentsUptoSaid := idents.proved
#print axioms idents_proved
end Go.Proofs.Ytkohojifnmklmaa
