/-
  pinfoldlaw5.DnsCut, at every message, number and text: it returns true; what came in reads as it did. No condition; the row's listed variable (rr.soaTimes) is tied to the program's text by the given tie.
-/
import Derived.Test.YtgidbcjeaeiinaaGreatDoorCards
import Derived.Test.YtgidbcjeaeiinaaGreatDoorTie
import Derived.Test.YtgidbcjeaeiinaaGreatDoorAwake5
import Derived.Test.YtgidbcjeaeiinaaGreatDoorBDns
import Derived.Test.YtgidbcjeaeiinaaGreatDoorDnsOpen
import Derived.WalkKit
import Derived.ProofKit
import Derived.OpenShut
import Derived.ShutString
import Derived.ChangeOld
import Derived.SizedLaws
import Derived.Carry
import Derived.Deep.DeepHandedRow
import Derived.Lib.LaidTab
namespace Go.Proofs.YtgidbcjeaeiinaaGreatDoor
set_option maxRecDepth 100000
namespace dnsCut
open Go.ChangeShapes Go.WideShapes Go.ChangeAt Go.RowKit Go.Pin Go.PlainAid Go.ChangeMaps

set_option maxHeartbeats 1000000 in
theorem walk_no (m : Msg) (p : Pl) (a : Int) (t : ByteArray) (w : World) (hl : MsgLies w m p) (hf : MsgFits m) (hL : Laid w) (h : mayM m = false) : Calls Tryz.prog 7 #[mv m p, .int .i64 a, .string t] w fun e w' => e = .returned (.bool true) ∧ Below w.heap.size w w' := by
  have HP : Hid (∀ w', Below w.heap.size w w' → _) := fun w' hb => dPut_is m p 65535 _ _ w' hf (hl.below hb) (hL.below hb) (putM_no h 65535)
  have HL : Hid (Laid w) := hL
  have B0 : Hid (Below w.heap.size w (w.alloc (.cells (cellsM m p) 25))) := (Below.refl w.heap.size w).alloc (Nat.le_refl _) _
  have X0 : Hid (BoxM (w.alloc (.cells (cellsM m p) 25)) w.heap.size m p) := BoxM.new w m p
  have hbel : Hid (∀ w' w'', BoxM w' w.heap.size m p → Below w'.heap.size w' w'' → BoxM w'' w.heap.size m p) := fun w' w'' h1 h2 => h1.below h2
  have hcell : Hid (∀ w', BoxM w' w.heap.size m p → _) := fun w' h => h.all
  clear hl hf hL h
  obtain ⟨id, rsp, op, au, tr, re, co, qs, an, sv, ad, sz⟩ := m
  obtain ⟨pqa, pqc, paa, pac, psa, psc, pda, pdc⟩ := p
  simp only [mv, cellsM] at *
  go_enter Tryz.func7, Tryz.ntmps7
  go_wp2_with fail
  refine (awake5_yes _ (HL.out.below B0.out)).mono ?_; rintro e w1 ⟨rfl, hb1⟩
  have B1 : Hid (Below w.heap.size w w1) := bel_trans B0.out hb1
  have X1 : Hid (_) := hbel.out _ _ X0.out hb1
  clear hb1 B0 X0
  obtain ⟨c0, c1, c2, c3, c4, c5, c6, c7, c8, c9, c10, c11⟩ := hcell.out _ X1.out
  go_wp2_with fail
  refine (HP.out _ B1.out).mono ?_; rintro e w2 ⟨rfl, hb2⟩
  have B2 := bel_trans B1.out hb2
  clear hb2 c0 c1 c2 c3 c4 c5 c6 c7 c8 c9 c10 c11
  go_wp2_with (go_at_call 14; refine (num_any _ _).mono ?_; rintro e w7 ⟨rfl, rfl⟩)
  go_ret
  exact ⟨rfl, B2⟩

theorem ext_take (S : ByteArray) (k : Nat) : S.extract 0 k = mk ((bs S).take k) := by
  apply bs_inj
  simp [bs, mk]

set_option maxHeartbeats 2000000 in
theorem walk_yes (m : Msg) (p : Pl) (a : Int) (t : ByteArray) (w : World) (hl : MsgLies w m p) (hf : MsgFits m) (ht : t.size ≤ 140737488351232) (hL : Laid w) (h : MayM m) : Calls Tryz.prog 7 #[mv m p, .int .i64 a, .string t] w fun e w' => e = .returned (.bool true) ∧ Below w.heap.size w w' := by
  have HP : Hid (∀ w', Below w.heap.size w w' → _) := fun w' hb => dPut_is m p 65535 _ _ w' hf (hl.below hb) (hL.below hb) (putM_max h)
  obtain ⟨_, l12, l60⟩ := getM_written h
  rw [← size_mk] at l12 l60
  have hcut := fun k hk => getM_cut h k hk
  have hon := getM_on h (bs (⟨#[0]⟩ ++ t)) (by rw [bs_app]; simp [bs])
  have e1 : writtenM m = bs (mk (writtenM m)) := (bs_mk _).symm
  rw [← size_mk] at hcut
  rw [e1, ← bs_app, mk_bs] at hon
  rw [e1] at hcut
  rw [mk_bs] at hcut
  clear e1
  generalize mk (writtenM m) = S at *
  obtain ⟨I, hI, hIl⟩ := pick_mod a S.size (by omega) (by omega)
  have hcut' := hcut I (by omega)
  rw [← ext_take] at hcut'
  rw [← ByteArray.append_assoc] at hon
  have HG1 : Hid (∀ w', Laid w' → _) := fun w' hL => dGet_no (S.extract 0 I) w' (by simp; omega) hL hcut'
  have HG2 : Hid (∀ w', Laid w' → _) := fun w' hL => dGet_no (S ++ ⟨#[0]⟩ ++ t) w' (by simp only [ByteArray.size_append]; have : (⟨#[0]⟩ : ByteArray).size = 1 := rfl; omega) hL hon
  have HL : Hid (Laid w) := hL
  have B0 : Hid (Below w.heap.size w (w.alloc (.cells (cellsM m p) 25))) := (Below.refl w.heap.size w).alloc (Nat.le_refl _) _
  have X0 : Hid (BoxM (w.alloc (.cells (cellsM m p) 25)) w.heap.size m p) := BoxM.new w m p
  have hbel : Hid (∀ w' w'', BoxM w' w.heap.size m p → Below w'.heap.size w' w'' → BoxM w'' w.heap.size m p) := fun w' w'' h1 h2 => h1.below h2
  have hcell : Hid (∀ w', BoxM w' w.heap.size m p → _) := fun w' h => h.all
  clear hl hf hL h hcut hcut' hon
  obtain ⟨id, rsp, op, au, tr, re, co, qs, an, sv, ad, sz⟩ := m
  obtain ⟨pqa, pqc, paa, pac, psa, psc, pda, pdc⟩ := p
  simp only [mv, cellsM] at *
  go_enter Tryz.func7, Tryz.ntmps7
  go_wp2_with fail
  refine (awake5_yes _ (HL.out.below B0.out)).mono ?_; rintro e w1 ⟨rfl, hb1⟩
  have B1 : Hid (Below w.heap.size w w1) := bel_trans B0.out hb1
  have X1 : Hid (_) := hbel.out _ _ X0.out hb1
  clear hb1 B0 X0
  obtain ⟨c0, c1, c2, c3, c4, c5, c6, c7, c8, c9, c10, c11⟩ := hcell.out _ X1.out
  go_wp2_with fail
  refine (HP.out _ B1.out).mono ?_; rintro e w2 ⟨rfl, hb2⟩
  have B2 : Hid (Below w.heap.size w w2) := bel_trans B1.out hb2
  clear hb2 c0 c1 c2 c3 c4 c5 c6 c7 c8 c9 c10 c11 B1 X1 HP hcell hbel
  have hz : ¬ S.size < 12 := by omega
  go_wp2_with (go_at_call 14; refine (num_any _ _).mono ?_; rintro e w7 ⟨rfl, rfl⟩)
  refine (HG1.out _ (HL.out.below B2.out)).mono ?_; rintro e w3 ⟨rfl, hb3⟩
  have B3 : Hid (Below w.heap.size w w3) := bel_trans B2.out hb3
  clear hb3 B2
  go_wp2_with fail
  have A4 := B3.out.alloc B3.out.size (.cells #[.int .i64 0, .bool false, .int .i64 0, .bool false, .bool false, .bool false, .int .i64 0, .slice none 0 0, .slice none 0 0, .slice none 0 0, .slice none 0 0, .int .i64 0] 25)
  refine (HG2.out _ (HL.out.below A4)).mono ?_; rintro e w4 ⟨rfl, hb4⟩
  have B4 : Hid (Below w.heap.size w w4) := bel_trans A4 hb4
  clear hb4 A4
  go_wp2_with (go_at_call 14; refine (num_any _ _).mono ?_; rintro e w7 ⟨rfl, rfl⟩)
  go_ret
  exact ⟨rfl, B4.out.alloc B4.out.size _⟩

theorem walk (m : Msg) (p : Pl) (a : Int) (t : ByteArray) (w : World) (hl : MsgLies w m p) (hf : MsgFits m) (_wa : (Lit.int .i64 a).wf = true) (ht : t.size ≤ 140737488351232) (hL : Laid w) : Calls Tryz.prog 7 #[mv m p, .int .i64 a, .string t] w fun e w' => e = .returned (.bool true) ∧ Below w.heap.size w w' := by
  cases h : mayM m with
  | false => exact walk_no m p a t w hl hf hL h
  | true => exact walk_yes m p a t w hl hf ht hL ((mayM_iff m).1 h)

theorem own : ownKnob Tryz.prog.godebug = none := by kernel_rfl
theorem laidOut : laidOutB Tryz.prog = true := by kernel_rfl
theorem gTab : Tryz.prog.globalNamed "pinfold/rr.soaTimes" = some 0 := by kernel_rfl
theorem gTabType : (Tryz.prog.globals[0]?).map (·.type) = some 116 := by kernel_rfl
theorem cellsTab : Tryz.prog.cellsOf 116 = 4 := by kernel_rfl
theorem cellsInt : Tryz.prog.cellsOf 3 = 1 := by kernel_rfl
/-- What the row's list gives. -/
theorem table {W : World} (h : laidMetH Tryz.prog Rows.dnsCutRow.laid W) : Laid W := by
  have t : Lib.TabIs Tryz.prog W "pinfold/rr.soaTimes" .i64 [60, 60, 600, 60] := Lib.tabIs_of_head (rest := []) gTab gTabType Tryz.underlying116 Tryz.underlying3 cellsInt cellsTab h
  exact ⟨t.cell gTab 0 (by decide), t.cell gTab 1 (by decide), t.cell gTab 2 (by decide), t.cell gTab 3 (by decide)⟩
/-- A world for the witness: the table holds what its initialiser lays. -/
noncomputable def laidWorld (os : Os) : World :=
  { World.holding Tryz.prog os ⟨#[], #[], []⟩ with heap := (World.holding Tryz.prog os ⟨#[], #[], []⟩).heap.modify 0 fun
      | .cells _ t frozen => .cells #[.int .i64 60, .int .i64 60, .int .i64 600, .int .i64 60] t frozen
      | o => o }
theorem laid_met (os : Os) : laidMet Tryz.prog Rows.dnsCutRow.laid ((laidWorld os).forCall (fun _ _ => 0) ⟨#[], #[.agg #[.int .i64 0, .bool false, .int .i64 0, .bool false, .bool false, .bool false, .int .i64 0, .slice none 0 0, .slice none 0 0, .slice none 0 0, .slice none 0 0, .int .i64 0], .int .i64 0, .string ByteArray.empty], []⟩).memory :=
  laidMet_of_run' 8 (by kernel_rfl) (by kernel_rfl)
theorem reads (os : Os) {H : Type} (enc : TypeId × Value → H) : ∃ places, DataW.whole enc Tryz.prog ((laidWorld os).forCall (fun _ _ => 0) ⟨#[], #[.agg #[.int .i64 0, .bool false, .int .i64 0, .bool false, .bool false, .bool false, .int .i64 0, .slice none 0 0, .slice none 0 0, .slice none 0 0, .slice none 0 0, .int .i64 0], .int .i64 0, .string ByteArray.empty], []⟩).memory Tryz.f7.params.toList Rows.dnsCutSpec.vars false (#[.agg #[.int .i64 0, .bool false, .int .i64 0, .bool false, .bool false, .bool false, .int .i64 0, .slice none 0 0, .slice none 0 0, .slice none 0 0, .slice none 0 0, .int .i64 0], .int .i64 0, .string ByteArray.empty] : Array Value).toList 8 = some ([.agg [.lit (.int .i64 0), .lit (.bool false), .lit (.int .i64 0), .lit (.bool false), .lit (.bool false), .lit (.bool false), .lit (.int .i64 0), .nil, .nil, .nil, .nil, .lit (.int .i64 0)], .lit (.int .i64 0), .lit (.string [])], [], places) :=
  ⟨[], by kernel_rfl⟩

/-! ### The row's step -/
set_option maxRecDepth 100000 in
theorem lifted (os : Os) (started : os.Started) (H : Type) (enc : TypeId × Value → H) (F : Stop.Interp) :
    ReturnsInHanded {} Tryz.checked os 7 .any ((OpenSpec.ofChange Rows.dnsCutSpec).preRow enc Tryz.prog Tryz.f7 Rows.dnsCutRow.domain false Rows.dnsCutRow.laid) (((OpenSpec.ofChange Rows.dnsCutSpec).at F).post enc Tryz.prog Tryz.f7 false true false false) := by
  obtain ⟨places, hx⟩ := reads os enc
  refine returnsInHanded_of_row (C := Tryz.checked) (s := OpenSpec.ofChange Rows.dnsCutSpec) own started (by kernel_rfl) Tryz.func7
    (witness_row_at (enc := enc) (C := Tryz.checked) false (laidWorld os) #[.agg #[.int .i64 0, .bool false, .int .i64 0, .bool false, .bool false, .bool false, .int .i64 0, .slice none 0 0, .slice none 0 0, .slice none 0 0, .slice none 0 0, .int .i64 0], .int .i64 0, .string ByteArray.empty] rfl (by kernel_rfl) (by kernel_rfl) (by kernel_rfl)
      (OpenSpec.preRow_of_cond 8 hx (by kernel_rfl) (fun k hk => by cases hk) (by kernel_rfl) (laid_met os))) ?_
  intro W base args ds gs before hval0 hW _ hcond hsz0 hL _ _
  have hLaid := table hL
  have hval : ∀ (j : Nat) t v, Tryz.f7.params[j]? = some t → args[j]? = some v → Value.okWide Tryz.prog W .any base t v := hval0
  have hsz : (DataW.weightsEach Tryz.prog (Tryz.f7.params.toList ++ Rows.dnsCutSpec.plain.varTypes Tryz.prog) (ds ++ gs)).all (· ≤ reachBytes) = true := hsz0
  have hW' := hW
  obtain ⟨p, q, hA0, hV, rfl, _, _⟩ := hW
  have hA : DataW.TrodAll enc Tryz.prog W 0 (fun _ => true) true Tryz.f7.params.toList args.toList ds p := hA0
  rw [Tryz.params7] at hA hval hsz
  obtain ⟨v0, vs0, d0, ds0, p0, q0, hargs, rfl, rfl, h0, r0⟩ := trodAll_cons hA
  obtain ⟨v1, vs1, d1, ds1, p1, q1, rfl, rfl, rfl, h1, r1⟩ := trodAll_cons r0
  obtain ⟨v2, vs2, d2, ds2, p2, q2, rfl, rfl, rfl, h2, r2⟩ := trodAll_cons r1
  obtain ⟨rfl, rfl, rfl⟩ := trodAll_nil r2
  obtain rfl : args = #[v0, v1, v2] := by cases args; simp_all
  obtain ⟨rfl, rfl⟩ := trodVars_none hV
  have k0 := h0
  have lt0 : ∀ x ∈ p0, x.block < W.heap.size := by obtain ⟨m, hm⟩ := k0; exact DataW.trod_lt m _ _ _ hm
  obtain ⟨a0, P0, rfl, w0, f0, u0⟩ := open_msg (hval 0 25 v0 rfl rfl) h0
  obtain ⟨a1, rfl, rfl, rfl, w1⟩ := open_int Tryz.underlying3 (hval 1 3 v1 rfl rfl) h1
  obtain ⟨a2, rfl, rfl, rfl, w2⟩ := open_string Tryz.underlying9 (hval 2 9 v2 rfl rfl) h2
  have s2 : a2.size ≤ 140737488351232 := by have := sized_string hsz (j := 2) (t := 9) rfl rfl; simpa [reachBytes] using this
  clear hA0 hval0 hsz0 hcond
  refine (walk a0 P0 a1 a2 W w0 f0 w1 s2 hLaid).mono fun e W' ⟨he, bel⟩ => ?_
  subst he
  exact ⟨_, rfl, _, _, _, [], _, [], hW', trodAll_mk1 (shut_bool Tryz.underlying4 _), (trodAll_cons_mk (Below.trod laidOut (by kernel_rfl) (of_decide_eq_true (by kernel_rfl)) k0 bel lt0) (trodAll_cons_mk (shut_int Tryz.underlying3 w1) (trodAll_cons_mk (shut_string Tryz.underlying9 w2) trodAll_mk0))), rfl, bel.frame _, fun h => by cases h⟩

theorem said : Rows.DnsCutSaid :=
  OpenClaim.holds_of_cond 7 Tryz.f7 rfl rfl rfl rfl rfl rfl rfl ⟨rfl, rfl, rfl, rfl, rfl⟩ rfl rfl rfl rfl rfl (by kernel_rfl) Tryz.func7 (by kernel_rfl)
    (of_decide_eq_true (by kernel_rfl)) (by unfold Func.isWrapper; first | (rw [if_pos (by decide +kernel)]; kernel_rfl) | (rw [if_neg (by decide +kernel)]; exact ⟨rfl, rfl⟩))
    (fun os started H enc _ F => by rw [OpenClaim.pre_eq_preRow]; exact lifted os started H enc F)
/-- No parameter wants a stand-in. -/
theorem plain (f : FuncId) (fn : Func) (hf : Tryz.pinned.checked.prog.funcNamed "pinfold/pinfoldlaw5.DnsCut" = some f) (hfn : Tryz.pinned.checked.prog.funcs[f]? = some fn) :
    false = Tryz.pinned.checked.prog.looks [] ∧ ∀ (j : Nat) t, fn.params[j]? = some t → Tryz.pinned.checked.prog.wantsStandIn t = false := by
  obtain rfl : f = 7 := Option.some.inj ((show Tryz.prog.funcNamed "pinfold/pinfoldlaw5.DnsCut" = some 7 by kernel_rfl).symm.trans hf) |>.symm
  obtain rfl : fn = Tryz.f7 := (Option.some.inj (Tryz.func7.symm.trans hfn)).symm
  refine ⟨by kernel_rfl, fun j t ht => ?_⟩
  rw [Tryz.params7] at ht
  have hm := Array.mem_of_getElem? ht
  simp at hm
  repeat' (refine Or.elim hm (fun hm => ?_) (fun hm => ?_))
  all_goals (subst hm; exact (show Tryz.prog.wantsStandIn _ = false by kernel_rfl))
/-- The given statement. -/
theorem card : Rows.DnsCutCardSaid :=
  Claim7.holds_tied_plain_at .later [] _ _ _ _ said (fun _ h => by cases h) (by kernel_rfl) (fun _ h => by cases h) dnsCut_row_tie rfl ⟨rfl, rfl⟩ (by kernel_rfl) rfl plain (by kernel_rfl)

end dnsCut
theorem dnsCut_proved : Rows.DnsCutCardSaid := dnsCut.card
end Go.Proofs.YtgidbcjeaeiinaaGreatDoor
