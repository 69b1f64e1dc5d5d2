/-
  pinfoldlaw4.RrUnlike, at every two records: it returns true; what came in reads as it did. No condition; the row's listed variable (rr.soaTimes) is tied to the program's text by the given tie.
-/
import Derived.Test.YtgidbcjeaeiinaaDoorCards
import Derived.Test.YtgidbcjeaeiinaaDoorTie
import Derived.Test.YtgidbcjeaeiinaaDoorAwake4
import Derived.Test.YtgidbcjeaeiinaaDoorRrOpen
import Derived.WalkKit
import Derived.ProofKit
import Derived.OpenShut
import Derived.Carry
import Derived.Deep.DeepHandedRow
import Derived.Lib.LaidTab
namespace Go.Proofs.YtgidbcjeaeiinaaDoor
set_option maxRecDepth 100000
namespace rrUnlike
open Go.ChangeShapes Go.WideShapes Go.ChangeAt Go.RowKit Go.Pin Go.PlainAid

/-- What Put answers of a record at the front of a message. -/
theorem front (r : Rec) (hr : IsRec r) : ∃ (S : ByteArray) (E : Int), (∀ w, Laid w → Calls Tryd.prog 9 #[.int .i64 0, .slice none 0 0, rv r] w fun e w' => (∃ v, e = .returned (.tuple #[.string S, v, .int .i64 E])) ∧ Below w.heap.size w w') ∧
    ((E = 400 ∧ S = ⟨#[]⟩) ∨ (E = 0 ∧ ∃ ks, putL 0 [] r = some (bs S, ks))) := by
  cases h : putL 0 [] r with
  | none => exact ⟨⟨#[]⟩, 400, fun w hL => (rrPut_nilno 0 0 r w hr.1 hr.2.1 (by decide) hL h).mono fun e w' ⟨h1, h2⟩ => ⟨⟨_, h1⟩, h2⟩, .inl ⟨rfl, rfl⟩⟩
  | some q =>
    obtain ⟨P, ks⟩ := q
    exact ⟨mk P, 0, fun w hL => (rrPut_nil 0 0 ks r (mk P) w hr.1 hr.2.1 (by decide) hL (by rw [bs_mk]; exact h)).mono fun e w' ⟨⟨v, h1, _⟩, h2⟩ => ⟨⟨v, h1⟩, h2⟩, .inr ⟨rfl, ks, by rw [bs_mk]⟩⟩
theorem unlike {a b : Rec} {S T : ByteArray} {k l : List Kn} (h1 : putL 0 [] a = some (bs S, k)) (h2 : putL 0 [] b = some (bs T, l)) : (S.toList == T.toList) = sameR a b := by
  have g1 := (put_get (A := []) good_nil h1 []).1
  have g2 := (put_get (A := []) good_nil h2 []).1
  simp only [List.nil_append, List.append_nil, mk_bs] at g1 g2
  cases hs : sameR a b with
  | true =>
    have := (sameR_iff a b).1 hs
    subst this
    rw [h1] at h2
    simp only [Option.some.injEq, Prod.mk.injEq] at h2
    exact eq_yes (bs_inj h2.1)
  | false =>
    refine eq_no fun e => ?_
    subst e
    rw [g1] at g2
    simp only [Option.some.injEq, Prod.mk.injEq] at g2
    rw [(sameR_iff a b).2 g2.1] at hs
    cases hs

set_option maxHeartbeats 1000000 in
theorem walk (a b : Rec) (w : World) (ha : IsRec a) (hb : IsRec b) (hL : Laid w) : Calls Tryd.prog 7 #[rv a, rv b] w fun e w' => e = .returned (.bool true) ∧ Below w.heap.size w w' := by
  obtain ⟨S, E, HA, hA⟩ := front a ha
  obtain ⟨T, D, HB, hB⟩ := front b hb
  have HA' : Hid (_) := HA
  have HB' : Hid (_) := HB
  have hq := eql_rec a b
  have hsame : Hid (E = 0 → D = 0 → (S.toList == T.toList) = sameR a b) := by
    intro e1 e2
    rcases hA with ⟨h, _⟩ | ⟨_, k, h1⟩
    · omega
    · rcases hB with ⟨h, _⟩ | ⟨_, l, h2⟩
      · omega
      · exact unlike h1 h2
  have hA2 : (E = 400 ∧ S = ⟨#[]⟩) ∨ E = 0 := by rcases hA with h | h; exact .inl h; exact .inr h.1
  have hB2 : (D = 400 ∧ T = ⟨#[]⟩) ∨ D = 0 := by rcases hB with h | h; exact .inl h; exact .inr h.1
  generalize hV : sameR a b = V at *
  have HL : Hid (Laid w) := hL
  have B0 : Hid (Boxed (w.alloc (.cells #[.string a.n, .int .i64 a.ty, .int .i64 a.ttl, .int .i64 a.ad, .string a.tg, .string a.tx, .int .i64 a.se] 24)) w.heap.size a) := Boxed.new w a
  have hcell : ∀ (r : Rec) (w' : World) (c : Nat), Boxed w' c r → (w'.cell? ⟨c, 0, none⟩ = some (.string r.n) ∧ w'.cell? ⟨c, 1, none⟩ = some (.int .i64 r.ty) ∧ w'.cell? ⟨c, 2, none⟩ = some (.int .i64 r.ttl) ∧ w'.cell? ⟨c, 3, none⟩ = some (.int .i64 r.ad) ∧ w'.cell? ⟨c, 4, none⟩ = some (.string r.tg) ∧ w'.cell? ⟨c, 5, none⟩ = some (.string r.tx) ∧ w'.cell? ⟨c, 6, none⟩ = some (.int .i64 r.se)) := fun r w' c h => ⟨h.cell 0, h.cell 1, h.cell 2, h.cell 3, h.cell 4, h.cell 5, h.cell 6⟩
  have hcell' : Hid (_) := hcell
  clear hcell hA hB HA HB hL hV ha hb
  obtain ⟨n, ty, ttl, ad, tg, tx, se⟩ := a
  obtain ⟨n', ty', ttl', ad', tg', tx', se'⟩ := b
  simp only [rv] at *
  go_enter Tryd.func7, Tryd.ntmps7
  go_wp2_with fail
  have BA := ((Below.refl w.heap.size w).alloc (Nat.le_refl _) (.cells #[.string n, .int .i64 ty, .int .i64 ttl, .int .i64 ad, .string tg, .string tx, .int .i64 se] 24)).alloc (by simp) (.cells #[.string n', .int .i64 ty', .int .i64 ttl', .int .i64 ad', .string tg', .string tx', .int .i64 se'] 24)
  refine (awake_yes _ (HL.out.below BA)).mono ?_; rintro e w1 ⟨rfl, hb1⟩
  have XA : Hid (Boxed w1 w.heap.size ⟨n, ty, ttl, ad, tg, tx, se⟩) := (B0.out.below ((Below.refl _ _).alloc (Nat.le_refl _) _)).below hb1
  have XB : Hid (Boxed w1 (w.heap.size + 1) ⟨n', ty', ttl', ad', tg', tx', se'⟩) := by
    have := (Boxed.new (w.alloc (.cells #[.string n, .int .i64 ty, .int .i64 ttl, .int .i64 ad, .string tg, .string tx, .int .i64 se] 24)) ⟨n', ty', ttl', ad', tg', tx', se'⟩).below hb1
    show Boxed _ _ _
    simpa using this
  have B1 : Hid (Below w.heap.size w w1) := bel_trans BA hb1
  clear BA hb1 B0
  obtain ⟨x0, x1, x2, x3, x4, x5, x6⟩ := hcell'.out _ _ _ XA.out
  obtain ⟨y0, y1, y2, y3, y4, y5, y6⟩ := hcell'.out _ _ _ XB.out
  simp only at x0 x1 x2 x3 x4 x5 x6 y0 y1 y2 y3 y4 y5 y6
  go_wp2_with fail
  refine (HA'.out _ (HL.out.below B1.out)).mono ?_; rintro e w2 ⟨⟨v2, rfl⟩, hb2⟩
  have XA2 : Hid (Boxed w2 w.heap.size ⟨n, ty, ttl, ad, tg, tx, se⟩) := XA.out.below hb2
  have XB2 : Hid (Boxed w2 (w.heap.size + 1) ⟨n', ty', ttl', ad', tg', tx', se'⟩) := XB.out.below hb2
  have B2 : Hid (Below w.heap.size w w2) := bel_trans B1.out hb2
  clear x0 x1 x2 x3 x4 x5 x6 y0 y1 y2 y3 y4 y5 y6 XA XB B1 hb2
  obtain ⟨x0, x1, x2, x3, x4, x5, x6⟩ := hcell'.out _ _ _ XA2.out
  obtain ⟨y0, y1, y2, y3, y4, y5, y6⟩ := hcell'.out _ _ _ XB2.out
  simp only at x0 x1 x2 x3 x4 x5 x6 y0 y1 y2 y3 y4 y5 y6
  go_wp2_with fail
  refine (HB'.out _ (HL.out.below B2.out)).mono ?_; rintro e w3 ⟨⟨v3, rfl⟩, hb3⟩
  have XA3 : Hid (Boxed w3 w.heap.size ⟨n, ty, ttl, ad, tg, tx, se⟩) := XA2.out.below hb3
  have XB3 : Hid (Boxed w3 (w.heap.size + 1) ⟨n', ty', ttl', ad', tg', tx', se'⟩) := XB2.out.below hb3
  have B3 : Hid (Below w.heap.size w w3) := bel_trans B2.out hb3
  clear x0 x1 x2 x3 x4 x5 x6 y0 y1 y2 y3 y4 y5 y6 XA2 XB2 B2 hb3
  obtain ⟨x0, x1, x2, x3, x4, x5, x6⟩ := hcell'.out _ _ _ XA3.out
  obtain ⟨y0, y1, y2, y3, y4, y5, y6⟩ := hcell'.out _ _ _ XB3.out
  simp only at x0 x1 x2 x3 x4 x5 x6 y0 y1 y2 y3 y4 y5 y6
  rcases hA2 with ⟨rfl, rfl⟩ | rfl <;> rcases hB2 with ⟨rfl, rfl⟩ | rfl
  · go_wp2_with (go_at_call 14; refine (num_any _ _).mono ?_; rintro e w7 ⟨rfl, rfl⟩)
    go_ret
    exact ⟨rfl, B3.out⟩
  · go_wp2_with (go_at_call 14; refine (num_any _ _).mono ?_; rintro e w7 ⟨rfl, rfl⟩)
    go_ret
    exact ⟨rfl, B3.out⟩
  · go_wp2_with (go_at_call 14; refine (num_any _ _).mono ?_; rintro e w7 ⟨rfl, rfl⟩)
    go_ret
    exact ⟨rfl, B3.out⟩
  · have hs := hsame.out rfl rfl
    go_wp2_with (go_at_call 14; refine (num_any _ _).mono ?_; rintro e w7 ⟨rfl, rfl⟩)
    go_ret
    exact ⟨ret_bool (by simp), B3.out⟩

theorem own : ownKnob Tryd.prog.godebug = none := by kernel_rfl
theorem laidOut : laidOutB Tryd.prog = true := by kernel_rfl
theorem gTab : Tryd.prog.globalNamed "pinfold/rr.soaTimes" = some 0 := by kernel_rfl
theorem gTabType : (Tryd.prog.globals[0]?).map (·.type) = some 84 := by kernel_rfl
theorem cellsTab : Tryd.prog.cellsOf 84 = 4 := by kernel_rfl
theorem cellsInt : Tryd.prog.cellsOf 3 = 1 := by kernel_rfl
/-- What the row's list gives. -/
theorem table {W : World} (h : laidMetH Tryd.prog Rows.rrUnlikeRow.laid W) : Laid W := by
  have t : Lib.TabIs Tryd.prog W "pinfold/rr.soaTimes" .i64 [60, 60, 600, 60] := Lib.tabIs_of_head (rest := []) gTab gTabType Tryd.underlying84 Tryd.underlying3 cellsInt cellsTab h
  exact ⟨t.cell gTab 0 (by decide), t.cell gTab 1 (by decide), t.cell gTab 2 (by decide), t.cell gTab 3 (by decide)⟩
/-- A world for the witness: the table holds what its initialiser lays. -/
noncomputable def laidWorld (os : Os) : World :=
  { World.holding Tryd.prog os ⟨#[], #[], []⟩ with heap := (World.holding Tryd.prog os ⟨#[], #[], []⟩).heap.modify 0 fun
      | .cells _ t frozen => .cells #[.int .i64 60, .int .i64 60, .int .i64 600, .int .i64 60] t frozen
      | o => o }
theorem laid_met (os : Os) : laidMet Tryd.prog Rows.rrUnlikeRow.laid ((laidWorld os).forCall (fun _ _ => 0) ⟨#[], #[.agg #[.string ByteArray.empty, .int .i64 0, .int .i64 0, .int .i64 0, .string ByteArray.empty, .string ByteArray.empty, .int .i64 0], .agg #[.string ByteArray.empty, .int .i64 0, .int .i64 0, .int .i64 0, .string ByteArray.empty, .string ByteArray.empty, .int .i64 0]], []⟩).memory :=
  laidMet_of_run' 8 (by kernel_rfl) (by kernel_rfl)
theorem reads (os : Os) {H : Type} (enc : TypeId × Value → H) : ∃ places, DataW.whole enc Tryd.prog ((laidWorld os).forCall (fun _ _ => 0) ⟨#[], #[.agg #[.string ByteArray.empty, .int .i64 0, .int .i64 0, .int .i64 0, .string ByteArray.empty, .string ByteArray.empty, .int .i64 0], .agg #[.string ByteArray.empty, .int .i64 0, .int .i64 0, .int .i64 0, .string ByteArray.empty, .string ByteArray.empty, .int .i64 0]], []⟩).memory Tryd.f7.params.toList Rows.rrUnlikeSpec.vars false (#[.agg #[.string ByteArray.empty, .int .i64 0, .int .i64 0, .int .i64 0, .string ByteArray.empty, .string ByteArray.empty, .int .i64 0], .agg #[.string ByteArray.empty, .int .i64 0, .int .i64 0, .int .i64 0, .string ByteArray.empty, .string ByteArray.empty, .int .i64 0]] : Array Value).toList 8 = some ([.agg [.lit (.string []), .lit (.int .i64 0), .lit (.int .i64 0), .lit (.int .i64 0), .lit (.string []), .lit (.string []), .lit (.int .i64 0)], .agg [.lit (.string []), .lit (.int .i64 0), .lit (.int .i64 0), .lit (.int .i64 0), .lit (.string []), .lit (.string []), .lit (.int .i64 0)]], [], places) :=
  ⟨[], by kernel_rfl⟩

/-! ### The row's step -/
set_option maxRecDepth 100000 in
theorem lifted (os : Os) (started : os.Started) (H : Type) (enc : TypeId × Value → H) (F : Stop.Interp) :
    ReturnsInHanded {} Tryd.checked os 7 .any ((OpenSpec.ofChange Rows.rrUnlikeSpec).preRow enc Tryd.prog Tryd.f7 Rows.rrUnlikeRow.domain false Rows.rrUnlikeRow.laid) (((OpenSpec.ofChange Rows.rrUnlikeSpec).at F).post enc Tryd.prog Tryd.f7 false true false false) := by
  obtain ⟨places, hx⟩ := reads os enc
  refine returnsInHanded_of_row (C := Tryd.checked) (s := OpenSpec.ofChange Rows.rrUnlikeSpec) own started (by kernel_rfl) Tryd.func7
    (witness_row_at (enc := enc) (C := Tryd.checked) false (laidWorld os) #[.agg #[.string ByteArray.empty, .int .i64 0, .int .i64 0, .int .i64 0, .string ByteArray.empty, .string ByteArray.empty, .int .i64 0], .agg #[.string ByteArray.empty, .int .i64 0, .int .i64 0, .int .i64 0, .string ByteArray.empty, .string ByteArray.empty, .int .i64 0]] rfl (by kernel_rfl) (by kernel_rfl) (by kernel_rfl)
      (OpenSpec.preRow_of_cond 8 hx (by kernel_rfl) (fun k hk => by cases hk) (by kernel_rfl) (laid_met os))) ?_
  intro W base args ds gs before hval0 hW _ hcond hsz0 hL _ _
  have hLaid := table hL
  have hval : ∀ (j : Nat) t v, Tryd.f7.params[j]? = some t → args[j]? = some v → Value.okWide Tryd.prog W .any base t v := hval0
  have hsz : (DataW.weightsEach Tryd.prog (Tryd.f7.params.toList ++ Rows.rrUnlikeSpec.plain.varTypes Tryd.prog) (ds ++ gs)).all (· ≤ reachBytes) = true := hsz0
  have hW' := hW
  obtain ⟨p, q, hA0, hV, rfl, _, _⟩ := hW
  have hA : DataW.TrodAll enc Tryd.prog W 0 (fun _ => true) true Tryd.f7.params.toList args.toList ds p := hA0
  rw [Tryd.params7] at hA hval hsz
  obtain ⟨v0, vs0, d0, ds0, p0, q0, hargs, rfl, rfl, h0, r0⟩ := trodAll_cons hA
  obtain ⟨v1, vs1, d1, ds1, p1, q1, rfl, rfl, rfl, h1, r1⟩ := trodAll_cons r0
  obtain ⟨rfl, rfl, rfl⟩ := trodAll_nil r1
  obtain rfl : args = #[v0, v1] := by cases args; simp_all
  obtain ⟨rfl, rfl⟩ := trodVars_none hV
  have k0 := h0
  have lt0 : ∀ x ∈ p0, x.block < W.heap.size := by obtain ⟨m, hm⟩ := k0; exact DataW.trod_lt m _ _ _ hm
  obtain ⟨a0, rfl, w0, e0⟩ := open_rec (hval 0 24 v0 rfl rfl) h0
  have k1 := h1
  have lt1 : ∀ x ∈ p1, x.block < W.heap.size := by obtain ⟨m, hm⟩ := k1; exact DataW.trod_lt m _ _ _ hm
  obtain ⟨a1, rfl, w1, e1⟩ := open_rec (hval 1 24 v1 rfl rfl) h1
  clear hA0 hval0 hsz0 hcond
  refine (walk a0 a1 W w0 w1 hLaid).mono fun e W' ⟨he, bel⟩ => ?_
  subst he
  exact ⟨_, rfl, _, _, _, [], _, [], hW', trodAll_mk1 (shut_bool Tryd.underlying4 _), (trodAll_cons_mk (Below.trod laidOut (by kernel_rfl) (of_decide_eq_true (by kernel_rfl)) k0 bel lt0) (trodAll_cons_mk (Below.trod laidOut (by kernel_rfl) (of_decide_eq_true (by kernel_rfl)) k1 bel lt1) trodAll_mk0)), rfl, bel.frame _, fun h => by cases h⟩

theorem said : Rows.RrUnlikeSaid :=
  OpenClaim.holds_of_cond 7 Tryd.f7 rfl rfl rfl rfl rfl rfl rfl ⟨rfl, rfl, rfl, rfl, rfl⟩ rfl rfl rfl rfl rfl (by kernel_rfl) Tryd.func7 (by kernel_rfl)
    (of_decide_eq_true (by kernel_rfl)) (by unfold Func.isWrapper; first | (rw [if_pos (by decide +kernel)]; kernel_rfl) | (rw [if_neg (by decide +kernel)]; exact ⟨rfl, rfl⟩))
    (fun os started H enc _ F => by rw [OpenClaim.pre_eq_preRow]; exact lifted os started H enc F)
/-- No parameter wants a stand-in. -/
theorem plain (f : FuncId) (fn : Func) (hf : Tryd.pinned.checked.prog.funcNamed "pinfold/pinfoldlaw4.RrUnlike" = some f) (hfn : Tryd.pinned.checked.prog.funcs[f]? = some fn) :
    false = Tryd.pinned.checked.prog.looks [] ∧ ∀ (j : Nat) t, fn.params[j]? = some t → Tryd.pinned.checked.prog.wantsStandIn t = false := by
  obtain rfl : f = 7 := Option.some.inj ((show Tryd.prog.funcNamed "pinfold/pinfoldlaw4.RrUnlike" = some 7 by kernel_rfl).symm.trans hf) |>.symm
  obtain rfl : fn = Tryd.f7 := (Option.some.inj (Tryd.func7.symm.trans hfn)).symm
  refine ⟨by kernel_rfl, fun j t ht => ?_⟩
  rw [Tryd.params7] at ht
  have hm := Array.mem_of_getElem? ht
  simp at hm
  subst hm
  exact (show Tryd.prog.wantsStandIn 24 = false by kernel_rfl)
/-- The given statement. -/
theorem card : Rows.RrUnlikeCardSaid :=
  Claim7.holds_tied_plain_at .later [] _ _ _ _ said (fun _ h => by cases h) (by kernel_rfl) (fun _ h => by cases h) rrUnlike_row_tie rfl ⟨rfl, rfl⟩ (by kernel_rfl) rfl plain (by kernel_rfl)

end rrUnlike
theorem rrUnlike_proved : Rows.RrUnlikeCardSaid := rrUnlike.card
end Go.Proofs.YtgidbcjeaeiinaaDoor
