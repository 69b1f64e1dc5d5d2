/-
  pinfoldlaw4.RrCut, at every record, number and text: it returns true; what came in reads as it did. No condition; the row's listed variable (rr.soaTimes) is tied to the program's text by the given tie.
-/
import Derived.Test.YtgidbcjeaeiinaaDoorCards
import Derived.Test.YtgidbcjeaeiinaaDoorTie
import Derived.Test.YtgidbcjeaeiinaaDoorAwake4
import Derived.Test.YtgidbcjeaeiinaaDoorRrOpen
import Derived.WalkKit
import Derived.ProofKit
import Derived.OpenShut
import Derived.ShutString
import Derived.ChangeOld
import Derived.SizedLaws
import Derived.Carry
import Derived.Deep.DeepHandedRow
import Derived.Lib.LaidTab
namespace Go.Proofs.YtgidbcjeaeiinaaDoor
set_option maxRecDepth 100000
namespace rrCut
open Go.ChangeShapes Go.WideShapes Go.ChangeAt Go.RowKit Go.Pin Go.PlainAid Go.ChangeMaps

set_option maxHeartbeats 1000000 in
theorem walk_no (r : Rec) (a1 : Int) (a2 : ByteArray) (w : World) (hr : IsRec r) (hL : Laid w) (h : putL 0 [] r = none) : Calls Tryd.prog 6 #[rv r, .int .i64 a1, .string a2] w fun e w' => e = .returned (.bool true) ∧ Below w.heap.size w w' := by
  have HP : Hid (∀ w, Laid w → _) := fun w hL => rrPut_nilno 0 0 r w hr.1 hr.2.1 (by decide) hL h
  have HL : Hid (Laid w) := hL
  have B0 : Hid (Boxed (w.alloc (.cells #[.string r.n, .int .i64 r.ty, .int .i64 r.ttl, .int .i64 r.ad, .string r.tg, .string r.tx, .int .i64 r.se] 24)) w.heap.size r) := Boxed.new w r
  have hcell : Hid (∀ (w' : World) (c : Nat), Boxed w' c r → (w'.cell? ⟨c, 0, none⟩ = some (.string r.n) ∧ w'.cell? ⟨c, 1, none⟩ = some (.int .i64 r.ty) ∧ w'.cell? ⟨c, 2, none⟩ = some (.int .i64 r.ttl) ∧ w'.cell? ⟨c, 3, none⟩ = some (.int .i64 r.ad) ∧ w'.cell? ⟨c, 4, none⟩ = some (.string r.tg) ∧ w'.cell? ⟨c, 5, none⟩ = some (.string r.tx) ∧ w'.cell? ⟨c, 6, none⟩ = some (.int .i64 r.se))) := fun w' c h => ⟨h.cell 0, h.cell 1, h.cell 2, h.cell 3, h.cell 4, h.cell 5, h.cell 6⟩
  clear hr hL h
  obtain ⟨n, ty, ttl, ad, tg, tx, se⟩ := r
  simp only [rv] at *
  go_enter Tryd.func6, Tryd.ntmps6
  go_wp2_with fail
  have BA := (Below.refl w.heap.size w).alloc (Nat.le_refl _) (.cells #[.string n, .int .i64 ty, .int .i64 ttl, .int .i64 ad, .string tg, .string tx, .int .i64 se] 24)
  refine (awake_yes _ (HL.out.below BA)).mono ?_; rintro e w1 ⟨rfl, hb1⟩
  have XA : Hid (Boxed w1 w.heap.size ⟨n, ty, ttl, ad, tg, tx, se⟩) := B0.out.below hb1
  have B1 : Hid (Below w.heap.size w w1) := bel_trans BA hb1
  clear BA hb1 B0
  obtain ⟨x0, x1, x2, x3, x4, x5, x6⟩ := hcell.out _ _ XA.out
  go_wp2_with fail
  refine (HP.out _ (HL.out.below B1.out)).mono ?_; rintro e w2 ⟨rfl, hb2⟩
  have B2 := bel_trans B1.out hb2
  clear x0 x1 x2 x3 x4 x5 x6 hb2
  go_wp2_with (go_at_call 14; refine (num_any _ _).mono ?_; rintro e w7 ⟨rfl, rfl⟩)
  go_ret
  exact ⟨rfl, B2⟩

theorem ext_take (S : ByteArray) (k : Nat) : S.extract 0 k = mk ((bs S).take k) := by
  apply bs_inj
  simp [bs, mk]

set_option maxHeartbeats 2000000 in
theorem walk_yes (r : Rec) (a1 : Int) (a2 : ByteArray) (w : World) (hr : IsRec r) (s2 : a2.size ≤ 140737488351232) (hL : Laid w) (S : ByteArray) (ks : List Kn) (h : putL 0 [] r = some (bs S, ks)) : Calls Tryd.prog 6 #[rv r, .int .i64 a1, .string a2] w fun e w' => e = .returned (.bool true) ∧ Below w.heap.size w w' := by
  have hlen := putL_len h
  rw [length_bs] at hlen
  have HP : Hid (∀ w, Laid w → _) := fun w hL => rrPut_nil 0 0 ks r S w hr.1 hr.2.1 (by decide) hL h
  obtain ⟨I, hI, hlt⟩ := pick_mod a1 S.size (by omega) (by omega)
  have hcut := put_cut h I (by rw [length_bs]; omega)
  rw [← ext_take] at hcut
  have HG1 : Hid (∀ w, Laid w → _) := fun w hL => rrGet_no (S.extract 0 I) 0 w (by simp; omega) hL (by decide) hcut
  have hgot := (put_get (A := []) good_nil h (bs a2)).1
  simp only [List.nil_append, List.length_nil] at hgot
  rw [← bs_app, mk_bs, length_bs] at hgot
  have HG2 : Hid (∀ w, Laid w → _) := fun w hL => rrGet_yes (S ++ a2) 0 r S.size w (by simp; omega) hL (by decide) hgot
  have hq := eql_rec r r
  have hsame : Hid (sameR r r = true) := (sameR_iff r r).2 rfl
  rw [hsame.out] at hq
  have HL : Hid (Laid w) := hL
  have hpos : 1 ≤ S.size := hlen.1
  have hS5 : S.size ≤ 500 := hlen.2.1
  have B0 : Hid (Boxed (w.alloc (.cells #[.string r.n, .int .i64 r.ty, .int .i64 r.ttl, .int .i64 r.ad, .string r.tg, .string r.tx, .int .i64 r.se] 24)) w.heap.size r) := Boxed.new w r
  have hcell : Hid (∀ (w' : World) (c : Nat), Boxed w' c r → (w'.cell? ⟨c, 0, none⟩ = some (.string r.n) ∧ w'.cell? ⟨c, 1, none⟩ = some (.int .i64 r.ty) ∧ w'.cell? ⟨c, 2, none⟩ = some (.int .i64 r.ttl) ∧ w'.cell? ⟨c, 3, none⟩ = some (.int .i64 r.ad) ∧ w'.cell? ⟨c, 4, none⟩ = some (.string r.tg) ∧ w'.cell? ⟨c, 5, none⟩ = some (.string r.tx) ∧ w'.cell? ⟨c, 6, none⟩ = some (.int .i64 r.se))) := fun w' c h => ⟨h.cell 0, h.cell 1, h.cell 2, h.cell 3, h.cell 4, h.cell 5, h.cell 6⟩
  clear hr hL h hlen hcut hgot hsame
  obtain ⟨n, ty, ttl, ad, tg, tx, se⟩ := r
  simp only [rv] at *
  go_enter Tryd.func6, Tryd.ntmps6
  go_wp2_with fail
  have BA := (Below.refl w.heap.size w).alloc (Nat.le_refl _) (.cells #[.string n, .int .i64 ty, .int .i64 ttl, .int .i64 ad, .string tg, .string tx, .int .i64 se] 24)
  refine (awake_yes _ (HL.out.below BA)).mono ?_; rintro e w1 ⟨rfl, hb1⟩
  have XA : Hid (Boxed w1 w.heap.size ⟨n, ty, ttl, ad, tg, tx, se⟩) := B0.out.below hb1
  have B1 : Hid (Below w.heap.size w w1) := bel_trans BA hb1
  clear BA hb1 B0
  obtain ⟨x0, x1, x2, x3, x4, x5, x6⟩ := hcell.out _ _ XA.out
  go_wp2_with fail
  refine (HP.out _ (HL.out.below B1.out)).mono ?_; rintro e w2 ⟨⟨v2, rfl, _⟩, hb2⟩
  have XA2 : Hid (Boxed w2 w.heap.size ⟨n, ty, ttl, ad, tg, tx, se⟩) := XA.out.below hb2
  have B2 : Hid (Below w.heap.size w w2) := bel_trans B1.out hb2
  clear x0 x1 x2 x3 x4 x5 x6 hb2 XA B1
  go_wp2_with (go_at_call 14; refine (num_any _ _).mono ?_; rintro e w7 ⟨rfl, rfl⟩)
  refine (HG1.out _ (HL.out.below B2.out)).mono ?_; rintro e w3 ⟨rfl, hb3⟩
  have XA3 : Hid (Boxed w3 w.heap.size ⟨n, ty, ttl, ad, tg, tx, se⟩) := XA2.out.below hb3
  have B3 : Hid (Below w.heap.size w w3) := bel_trans B2.out hb3
  clear hb3 XA2 B2
  simp only [zeroR]
  go_wp2_with fail
  have BA := (Below.refl w3.heap.size w3).alloc (Nat.le_refl _) (.cells #[.string ⟨#[]⟩, .int .i64 0, .int .i64 0, .int .i64 0, .string ⟨#[]⟩, .string ⟨#[]⟩, .int .i64 0] 24)
  refine (HG2.out _ ((HL.out.below B3.out).below BA)).mono ?_; rintro e w4 ⟨rfl, hb4⟩
  have XA4 : Hid (Boxed w4 w.heap.size ⟨n, ty, ttl, ad, tg, tx, se⟩) := (XA3.out.below BA).below hb4
  have B4 : Hid (Below w.heap.size w w4) := bel_trans B3.out (bel_trans BA hb4)
  clear hb4 XA3 B3 BA
  obtain ⟨x0, x1, x2, x3, x4, x5, x6⟩ := hcell.out _ _ XA4.out
  have hl4 : w.heap.size < w4.heap.size := XA4.out.lt
  go_wp2_with (go_at_call 14; refine (num_any _ _).mono ?_; rintro e w7 ⟨rfl, rfl⟩)
  go_ret
  exact ⟨rfl, B4.out.alloc B4.out.size _⟩

theorem walk (r : Rec) (a1 : Int) (a2 : ByteArray) (w : World) (hr : IsRec r) (_w1 : (Lit.int .i64 a1).wf = true) (s2 : a2.size ≤ 140737488351232) (hL : Laid w) : Calls Tryd.prog 6 #[rv r, .int .i64 a1, .string a2] w fun e w' => e = .returned (.bool true) ∧ Below w.heap.size w w' := by
  cases h : putL 0 [] r with
  | none => exact walk_no r a1 a2 w hr hL h
  | some q =>
    obtain ⟨P, ks⟩ := q
    exact walk_yes r a1 a2 w hr s2 hL (mk P) ks (by rw [bs_mk]; exact h)

theorem own : ownKnob Tryd.prog.godebug = none := by kernel_rfl
theorem laidOut : laidOutB Tryd.prog = true := by kernel_rfl
theorem gTab : Tryd.prog.globalNamed "pinfold/rr.soaTimes" = some 0 := by kernel_rfl
theorem gTabType : (Tryd.prog.globals[0]?).map (·.type) = some 84 := by kernel_rfl
theorem cellsTab : Tryd.prog.cellsOf 84 = 4 := by kernel_rfl
theorem cellsInt : Tryd.prog.cellsOf 3 = 1 := by kernel_rfl
/-- What the row's list gives. -/
theorem table {W : World} (h : laidMetH Tryd.prog Rows.rrCutRow.laid W) : Laid W := by
  have t : Lib.TabIs Tryd.prog W "pinfold/rr.soaTimes" .i64 [60, 60, 600, 60] := Lib.tabIs_of_head (rest := []) gTab gTabType Tryd.underlying84 Tryd.underlying3 cellsInt cellsTab h
  exact ⟨t.cell gTab 0 (by decide), t.cell gTab 1 (by decide), t.cell gTab 2 (by decide), t.cell gTab 3 (by decide)⟩
/-- A world for the witness: the table holds what its initialiser lays. -/
noncomputable def laidWorld (os : Os) : World :=
  { World.holding Tryd.prog os ⟨#[], #[], []⟩ with heap := (World.holding Tryd.prog os ⟨#[], #[], []⟩).heap.modify 0 fun
      | .cells _ t frozen => .cells #[.int .i64 60, .int .i64 60, .int .i64 600, .int .i64 60] t frozen
      | o => o }
theorem laid_met (os : Os) : laidMet Tryd.prog Rows.rrCutRow.laid ((laidWorld os).forCall (fun _ _ => 0) ⟨#[], #[.agg #[.string ByteArray.empty, .int .i64 0, .int .i64 0, .int .i64 0, .string ByteArray.empty, .string ByteArray.empty, .int .i64 0], .int .i64 0, .string ByteArray.empty], []⟩).memory :=
  laidMet_of_run' 8 (by kernel_rfl) (by kernel_rfl)
theorem reads (os : Os) {H : Type} (enc : TypeId × Value → H) : ∃ places, DataW.whole enc Tryd.prog ((laidWorld os).forCall (fun _ _ => 0) ⟨#[], #[.agg #[.string ByteArray.empty, .int .i64 0, .int .i64 0, .int .i64 0, .string ByteArray.empty, .string ByteArray.empty, .int .i64 0], .int .i64 0, .string ByteArray.empty], []⟩).memory Tryd.f6.params.toList Rows.rrCutSpec.vars false (#[.agg #[.string ByteArray.empty, .int .i64 0, .int .i64 0, .int .i64 0, .string ByteArray.empty, .string ByteArray.empty, .int .i64 0], .int .i64 0, .string ByteArray.empty] : Array Value).toList 8 = some ([.agg [.lit (.string []), .lit (.int .i64 0), .lit (.int .i64 0), .lit (.int .i64 0), .lit (.string []), .lit (.string []), .lit (.int .i64 0)], .lit (.int .i64 0), .lit (.string [])], [], places) :=
  ⟨[], by kernel_rfl⟩

/-! ### The row's step -/
set_option maxRecDepth 100000 in
theorem lifted (os : Os) (started : os.Started) (H : Type) (enc : TypeId × Value → H) (F : Stop.Interp) :
    ReturnsInHanded {} Tryd.checked os 6 .any ((OpenSpec.ofChange Rows.rrCutSpec).preRow enc Tryd.prog Tryd.f6 Rows.rrCutRow.domain false Rows.rrCutRow.laid) (((OpenSpec.ofChange Rows.rrCutSpec).at F).post enc Tryd.prog Tryd.f6 false true false false) := by
  obtain ⟨places, hx⟩ := reads os enc
  refine returnsInHanded_of_row (C := Tryd.checked) (s := OpenSpec.ofChange Rows.rrCutSpec) own started (by kernel_rfl) Tryd.func6
    (witness_row_at (enc := enc) (C := Tryd.checked) false (laidWorld os) #[.agg #[.string ByteArray.empty, .int .i64 0, .int .i64 0, .int .i64 0, .string ByteArray.empty, .string ByteArray.empty, .int .i64 0], .int .i64 0, .string ByteArray.empty] rfl (by kernel_rfl) (by kernel_rfl) (by kernel_rfl)
      (OpenSpec.preRow_of_cond 8 hx (by kernel_rfl) (fun k hk => by cases hk) (by kernel_rfl) (laid_met os))) ?_
  intro W base args ds gs before hval0 hW _ hcond hsz0 hL _ _
  have hLaid := table hL
  have hval : ∀ (j : Nat) t v, Tryd.f6.params[j]? = some t → args[j]? = some v → Value.okWide Tryd.prog W .any base t v := hval0
  have hsz : (DataW.weightsEach Tryd.prog (Tryd.f6.params.toList ++ Rows.rrCutSpec.plain.varTypes Tryd.prog) (ds ++ gs)).all (· ≤ reachBytes) = true := hsz0
  have hW' := hW
  obtain ⟨p, q, hA0, hV, rfl, _, _⟩ := hW
  have hA : DataW.TrodAll enc Tryd.prog W 0 (fun _ => true) true Tryd.f6.params.toList args.toList ds p := hA0
  rw [Tryd.params6] at hA hval hsz
  obtain ⟨v0, vs0, d0, ds0, p0, q0, hargs, rfl, rfl, h0, r0⟩ := trodAll_cons hA
  obtain ⟨v1, vs1, d1, ds1, p1, q1, rfl, rfl, rfl, h1, r1⟩ := trodAll_cons r0
  obtain ⟨v2, vs2, d2, ds2, p2, q2, rfl, rfl, rfl, h2, r2⟩ := trodAll_cons r1
  obtain ⟨rfl, rfl, rfl⟩ := trodAll_nil r2
  obtain rfl : args = #[v0, v1, v2] := by cases args; simp_all
  obtain ⟨rfl, rfl⟩ := trodVars_none hV
  have k0 := h0
  have lt0 : ∀ x ∈ p0, x.block < W.heap.size := by obtain ⟨m, hm⟩ := k0; exact DataW.trod_lt m _ _ _ hm
  obtain ⟨a0, rfl, w0, e0⟩ := open_rec (hval 0 24 v0 rfl rfl) h0
  obtain ⟨a1, rfl, rfl, rfl, w1⟩ := open_int Tryd.underlying3 (hval 1 3 v1 rfl rfl) h1
  obtain ⟨a2, rfl, rfl, rfl, w2⟩ := open_string Tryd.underlying9 (hval 2 9 v2 rfl rfl) h2
  have s2 : a2.size ≤ 140737488351232 := by have := sized_string hsz (j := 2) (t := 9) rfl rfl; simpa [reachBytes] using this
  clear hA0 hval0 hsz0 hcond
  refine (walk a0 a1 a2 W w0 w1 s2 hLaid).mono fun e W' ⟨he, bel⟩ => ?_
  subst he
  exact ⟨_, rfl, _, _, _, [], _, [], hW', trodAll_mk1 (shut_bool Tryd.underlying4 _), (trodAll_cons_mk (Below.trod laidOut (by kernel_rfl) (of_decide_eq_true (by kernel_rfl)) k0 bel lt0) (trodAll_cons_mk (shut_int Tryd.underlying3 w1) (trodAll_cons_mk (shut_string Tryd.underlying9 w2) trodAll_mk0))), rfl, bel.frame _, fun h => by cases h⟩

theorem said : Rows.RrCutSaid :=
  OpenClaim.holds_of_cond 6 Tryd.f6 rfl rfl rfl rfl rfl rfl rfl ⟨rfl, rfl, rfl, rfl, rfl⟩ rfl rfl rfl rfl rfl (by kernel_rfl) Tryd.func6 (by kernel_rfl)
    (of_decide_eq_true (by kernel_rfl)) (by unfold Func.isWrapper; first | (rw [if_pos (by decide +kernel)]; kernel_rfl) | (rw [if_neg (by decide +kernel)]; exact ⟨rfl, rfl⟩))
    (fun os started H enc _ F => by rw [OpenClaim.pre_eq_preRow]; exact lifted os started H enc F)
/-- No parameter wants a stand-in. -/
theorem plain (f : FuncId) (fn : Func) (hf : Tryd.pinned.checked.prog.funcNamed "pinfold/pinfoldlaw4.RrCut" = some f) (hfn : Tryd.pinned.checked.prog.funcs[f]? = some fn) :
    false = Tryd.pinned.checked.prog.looks [] ∧ ∀ (j : Nat) t, fn.params[j]? = some t → Tryd.pinned.checked.prog.wantsStandIn t = false := by
  obtain rfl : f = 6 := Option.some.inj ((show Tryd.prog.funcNamed "pinfold/pinfoldlaw4.RrCut" = some 6 by kernel_rfl).symm.trans hf) |>.symm
  obtain rfl : fn = Tryd.f6 := (Option.some.inj (Tryd.func6.symm.trans hfn)).symm
  refine ⟨by kernel_rfl, fun j t ht => ?_⟩
  rw [Tryd.params6] at ht
  have hm := Array.mem_of_getElem? ht
  simp at hm
  repeat' (refine Or.elim hm (fun hm => ?_) (fun hm => ?_))
  all_goals (subst hm; exact (show Tryd.prog.wantsStandIn _ = false by kernel_rfl))
/-- The given statement. -/
theorem card : Rows.RrCutCardSaid :=
  Claim7.holds_tied_plain_at .later [] _ _ _ _ said (fun _ h => by cases h) (by kernel_rfl) (fun _ h => by cases h) rrCut_row_tie rfl ⟨rfl, rfl⟩ (by kernel_rfl) rfl plain (by kernel_rfl)

end rrCut
theorem rrCut_proved : Rows.RrCutCardSaid := rrCut.card
end Go.Proofs.YtgidbcjeaeiinaaDoor
