/-
  Contracts of package dns's reader: its four rows, each taken whole.
-/
import Derived.Test.YtdmooggmoihggaaGreatDoorDnsMsg
import Derived.Test.YtdmooggmoihggaaGreatDoorDnsReads
namespace Go.Proofs.YtdmooggmoihggaaGreatDoor
set_option maxRecDepth 100000
open Go.ChangeShapes Go.WideShapes Go.ChangeAt Go.RowKit Go.Pin Go.PlainAid

/-! ### an OPT joins the message -/
set_option maxHeartbeats 400000 in
theorem add_yes (b c base : Nat) (s : ByteArray) (x : Tk) (m : Msg) (p : Pl) (w : World) (hs : s.size ≤ 1125899906842624) (h : TkAt w b s x) (hX : BoxM w c m p) (hc : c < base) (hb : b < base) (hbc : b ≠ c) (hbase : base ≤ w.heap.size) (hq : Recs w base (.slice p.da m.ad.length p.dc) m.ad) (hno : isOptK s x = true) :
    Calls Tryz.prog 58 #[.pointer (some ⟨b, 0, none⟩), .pointer (some ⟨c, 0, none⟩)] w fun e w' => e = .returned (.tuple #[]) ∧ TkAt w' b s (optK s (mustT (m.sz == 0) x)).2 ∧ BoxM w' c { m with sz := (optK s (mustT (m.sz == 0) x)).1 } p ∧ Recs w' base (.slice p.da m.ad.length p.dc) m.ad ∧ Fr b c base w w' := by
  have HI : Hid (∀ w, TkAt w b s x → _) := fun w h => isOpt_c b s x w hs h
  rw [hno] at HI
  have HM : Hid (∀ w, TkAt w b s x → _) := fun w h => must_c b s x (m.sz == 0) w h
  have HO : Hid (∀ w, TkAt w b s (mustT (m.sz == 0) x) → _) := fun w h => opt_c b s (mustT (m.sz == 0) x) w hs h
  generalize (optK s (mustT (m.sz == 0) x)).2 = y2 at *
  generalize (optK s (mustT (m.sz == 0) x)).1 = v2 at *
  generalize mustT (m.sz == 0) x = y1 at *
  have Th : Hid (TkAt w b s x) := h
  have Xh : Hid (BoxM w c m p) := hX
  have Qh : Hid (w.ownsRow base 82 7 (.slice p.da m.ad.length p.dc) m.ad.length (m.ad.flatMap cellsR)) := hq
  clear h hX hs hno hq
  go_enter Tryz.func58, Tryz.ntmps58
  go_wp2_with fail
  refine (HI.out _ Th.out).mono ?_; rintro e w1 ⟨rfl, hb1⟩
  have T1 : Hid (TkAt w1 b s x) := Th.out.below hb1 Th.out.lt
  have X1 : Hid (BoxM w1 c m p) := Xh.out.below hb1
  have Q1 : Hid (_) := row_below Qh.out hb1
  have F1 : Hid (Fr b c base w w1) := Fr.of_below (hb1.mono hbase)
  have hbs1 : base ≤ w1.heap.size := Nat.le_trans hbase hb1.size
  have c11 := X1.out.cell 11
  simp only [cellsM, List.getElem?_toArray, List.getElem?_cons_zero, List.getElem?_cons_succ] at c11
  clear hb1 Th Xh Qh HI
  go_wp2_with fail
  go_region_held3 (fun w' => w'.cell? ⟨c, 11, none⟩ = some (.int .i64 m.sz)) (first | exact c11 | exact d11)
    (first | (go_at_call 20; refine (HM.out _ T1.out.drewN).mono ?_; rintro e w2 ⟨rfl, hT2, hU0⟩; have hU2 : Turn b w1 w2 := dn_turn hU0; have d11 := (World.cell?_of_block (a := ⟨c, 11, none⟩) (hU2.oth c hbc.symm X1.out.lt)).trans c11))
  have X2 : Hid (BoxM w2 c m p) := X1.out.turn hU2 hbc.symm
  have Q2 : Hid (_) := row_turn Q1.out hU2 hb
  have F2 : Hid (Fr b c base w w2) := F1.out.trans (Fr.of_turn hU2 hbs1)
  have hbs2 : base ≤ w2.heap.size := Nat.le_trans hbs1 hU2.bel.size
  clear hU0 hU2 T1 X1 Q1 F1 c11 d11 HM
  go_wp2_with fail
  refine (HO.out _ hT2).mono ?_; rintro e w3 ⟨rfl, hT3, hU3⟩
  have X3 := X2.out.turn hU3 hbc.symm
  have c11 := X3.cell 11
  simp only [cellsM, List.getElem?_toArray, List.getElem?_cons_zero, List.getElem?_cons_succ] at c11
  have f11 := X3.fz 11
  have X4 : Hid (BoxM (w3.setCell ⟨c, 11, none⟩ (.int .i64 v2)) c { m with sz := v2 } p) := X3.set 11 _ rfl
  have T4 : Hid (TkAt (w3.setCell ⟨c, 11, none⟩ (.int .i64 v2)) b s y2) := hT3.set hbc
  have Q4 : Hid ((w3.setCell ⟨c, 11, none⟩ (.int .i64 v2)).ownsRow base 82 7 (.slice p.da m.ad.length p.dc) m.ad.length (m.ad.flatMap cellsR)) := row_set (row_turn Q2.out hU3 hb) hc
  have F4 : Hid (Fr b c base w (w3.setCell ⟨c, 11, none⟩ (.int .i64 v2))) := (F2.out.trans (Fr.of_turn hU3 hbs2)).trans Fr.set
  clear X3 hT2 hT3 hU3 X2 Q2 F2 HO
  go_wp2
  go_end0
  exact ⟨rfl, T4.out, X4.out, Q4.out, F4.out⟩

/-! ### the rows' states -/
theorem ent1 (args : Array Value) (w : World) : (callFunc 52 args).run Tryz.prog w = .ok (.enter 52 args) w := by kernel_rfl
theorem ent2 (args : Array Value) (w : World) : (callFunc 54 args).run Tryz.prog w = .ok (.enter 54 args) w := by kernel_rfl
theorem ent3 (args : Array Value) (w : World) : (callFunc 56 args).run Tryz.prog w = .ok (.enter 56 args) w := by kernel_rfl
theorem ent4 (args : Array Value) (w : World) : (callFunc 57 args).run Tryz.prog w = .ok (.enter 57 args) w := by kernel_rfl
/-- Where the reader's things lie: the taker b, the message c, the place d of the pointer to the taker. -/
structure Lie (b c d base : Nat) : Prop where
  b0 : b ≠ 0
  c0 : c ≠ 0
  bc : b ≠ c
  db : d ≠ b
  dc : d ≠ c
  bl : b < base
  cl : c < base
  dl : d < base
theorem Lie.mono {b c d base base' : Nat} (h : Lie b c d base) (hb : base ≤ base') : Lie b c d base' := ⟨h.b0, h.c0, h.bc, h.db, h.dc, Nat.lt_of_lt_of_le h.bl hb, Nat.lt_of_lt_of_le h.cl hb, Nat.lt_of_lt_of_le h.dl hb⟩
theorem Fr.laid {b c d base : Nat} {w w' : World} (h : Fr b c base w w') (l : Lie b c d base) (hL : Laid w) : Laid w' := hL.keep (h.oth 0 (by have := l.bl; omega) l.b0.symm l.c0.symm)
theorem Fr.cell {b c d base : Nat} {w w' : World} {v : Value} (h : Fr b c base w w') (l : Lie b c d base) (hd : w.cell? ⟨d, 0, none⟩ = some v) : w'.cell? ⟨d, 0, none⟩ = some v := (World.cell?_of_block (a := ⟨d, 0, none⟩) (h.oth d l.dl l.db l.dc)).trans hd
theorem row_fr {w w' : World} {base base' b c : Nat} {e : TypeId} {s : Nat} {v : Value} {n : Nat} {xs : List Value} (h : w.ownsRow base e s v n xs) (hf : Fr b c base' w w') (hb : b < base) (hc : c < base) (hs : w.heap.size ≤ base') : w'.ownsRow base e s v n xs := by
  obtain ⟨h1, h2⟩ := h
  refine ⟨h1, ?_⟩
  rcases h2 with h2 | ⟨g, cap, cur, hv, hg, hh, r⟩
  · exact .inl h2
  · exact .inr ⟨g, cap, cur, hv, hg, (hf.oth g (Nat.lt_of_lt_of_le (Array.getElem?_eq_some_iff.1 hh).1 hs) (by omega) (by omega)).trans hh, r⟩

/-! ### the questions -/
def InQ (b c base : Nat) (s : ByteArray) (m0 : Msg) (p0 : Pl) (w0 : World) (j : Nat) (w : World) (x : Tk × List Qn) : Prop :=
  x.2.length ≤ j ∧ base ≤ w.heap.size ∧ ∃ a cap, TkAt w b s x.1 ∧ BoxM w c { m0 with qs := x.2 } { p0 with qa := a, qc := cap } ∧ Ques w base (.slice a x.2.length cap) x.2 ∧ Fr b c base w0 w
theorem times_q (b c d base : Nat) (s : ByteArray) (m0 : Msg) (p0 : Pl) (n : Nat) (most : Int) (w : World) (x : Tk) (hs : s.size ≤ 1125899906842624) (l : Lie b c d base) (hn : n < 65536) (hd : w.cell? ⟨d, 0, none⟩ = some (.pointer (some ⟨b, 0, none⟩))) (hbase : base ≤ w.heap.size) (h : TkAt w b s x) (hX : BoxM w c m0 p0) (h0 : m0.qs = []) (hq : p0.qa = none ∧ p0.qc = 0) :
    Calls Tryz.prog 51 #[.pointer (some ⟨b, 0, none⟩), .int .i64 n, .int .i64 most, .func (.func 52) #[] #[.pointer (some ⟨c, 0, none⟩), .pointer (some ⟨d, 0, none⟩)]] w fun e w' => e = .returned (.tuple #[]) ∧ ∃ j, InQ b c base s m0 p0 w j w' (iterK (·.1) (stepQ s) n (mustT (decide ((n : Int) ≤ most)) x, [])) := by
  refine times_c (InQ b c base s m0 p0 w) (·.1) (stepQ s) mustS _ _ b s ent1 (fun j w st h => h.2.2.choose_spec.choose_spec.1) ?_ ?_ n most hn w (x, []) ?_
  · rintro j w1 st so ⟨hl, hb, a, cap, hT, hB, hR, hF⟩
    refine (must_c b s st.1 so w1 hT).mono fun e w' ⟨h1, h2, h3⟩ => ⟨h1, hl, Nat.le_trans hb h3.bel.size, a, cap, h2, hB.turn h3 l.bc.symm, row_turn hR h3 l.bl, hF.trans (Fr.of_turn h3 hb)⟩
  · rintro j w1 st hj ⟨hl, hb, a, cap, hT, hB, hR, hF⟩ _
    have := msg1_c b c d base s st.1 { m0 with qs := st.2 } { p0 with qa := a, qc := cap } w1 hs hT hB (hF.cell l hd) l.db l.dl hR l.bl l.cl l.bc hb (by simp only; omega)
    refine this.mono fun e w' ⟨h1, a', cap', h2, h3, h4, h5⟩ => ⟨h1, by simp [stepQ]; omega, Nat.le_trans hb h5.size, a', cap', h2, h3, h4, hF.trans h5⟩
  · refine ⟨by simp, hbase, p0.qa, p0.qc, h, ?_, ?_, Fr.refl _ _ _ _⟩
    · have : ({ m0 with qs := [] } : Msg) = m0 := by rw [← h0]
      simp only; rw [this]; exact hX
    · rw [hq.1, hq.2]; exact World.ownsRow_nil _ _ _ _

/-! ### the records: an -/
def InRan (b c base : Nat) (s : ByteArray) (m0 : Msg) (p0 : Pl) (w0 : World) (j : Nat) (w : World) (x : Tk × List Rec) : Prop :=
  x.2.length ≤ j ∧ base ≤ w.heap.size ∧ ∃ a cap, TkAt w b s x.1 ∧ BoxM w c { m0 with an := x.2 } { p0 with aa := a, ac := cap } ∧ Recs w base (.slice a x.2.length cap) x.2 ∧ Fr b c base w0 w
theorem times_a (b c d base : Nat) (s : ByteArray) (m0 : Msg) (p0 : Pl) (n : Nat) (most : Int) (w : World) (x : Tk) (hs : s.size ≤ 1125899906842624) (l : Lie b c d base) (hn : n < 65536) (hd : w.cell? ⟨d, 0, none⟩ = some (.pointer (some ⟨b, 0, none⟩))) (hL : Laid w) (hbase : base ≤ w.heap.size) (h : TkAt w b s x) (hX : BoxM w c m0 p0) (h0 : m0.an = []) (hq : p0.aa = none ∧ p0.ac = 0) :
    Calls Tryz.prog 51 #[.pointer (some ⟨b, 0, none⟩), .int .i64 n, .int .i64 most, .func (.func 54) #[] #[.pointer (some ⟨c, 0, none⟩), .pointer (some ⟨d, 0, none⟩)]] w fun e w' => e = .returned (.tuple #[]) ∧ ∃ j, InRan b c base s m0 p0 w j w' (iterK (·.1) (stepR s) n (mustT (decide ((n : Int) ≤ most)) x, [])) := by
  refine times_c (InRan b c base s m0 p0 w) (·.1) (stepR s) mustS _ _ b s ent2 (fun j w st h => h.2.2.choose_spec.choose_spec.1) ?_ ?_ n most hn w (x, []) ?_
  · rintro j w1 st so ⟨hl, hb, a, cap, hT, hB, hR, hF⟩
    refine (must_c b s st.1 so w1 hT).mono fun e w' ⟨h1, h2, h3⟩ => ⟨h1, hl, Nat.le_trans hb h3.bel.size, a, cap, h2, hB.turn h3 l.bc.symm, row_turn hR h3 l.bl, hF.trans (Fr.of_turn h3 hb)⟩
  · rintro j w1 st hj ⟨hl, hb, a, cap, hT, hB, hR, hF⟩ _
    have := msg2_c b c d base s st.1 { m0 with an := st.2 } { p0 with aa := a, ac := cap } w1 hs hT hB (hF.laid l hL) (hF.cell l hd) l.db l.dl hR l.bl l.cl l.bc hb (by simp only; omega)
    refine this.mono fun e w' ⟨h1, a', cap', h2, h3, h4, h5⟩ => ⟨h1, by simp [stepR]; omega, Nat.le_trans hb h5.size, a', cap', h2, h3, h4, hF.trans h5⟩
  · refine ⟨by simp, hbase, p0.aa, p0.ac, h, ?_, ?_, Fr.refl _ _ _ _⟩
    · have : ({ m0 with an := [] } : Msg) = m0 := by rw [← h0]
      simp only; rw [this]; exact hX
    · rw [hq.1, hq.2]; exact World.ownsRow_nil _ _ _ _

/-! ### the records: sv -/
def InRsv (b c base : Nat) (s : ByteArray) (m0 : Msg) (p0 : Pl) (w0 : World) (j : Nat) (w : World) (x : Tk × List Rec) : Prop :=
  x.2.length ≤ j ∧ base ≤ w.heap.size ∧ ∃ a cap, TkAt w b s x.1 ∧ BoxM w c { m0 with sv := x.2 } { p0 with sa := a, sc := cap } ∧ Recs w base (.slice a x.2.length cap) x.2 ∧ Fr b c base w0 w
theorem times_s (b c d base : Nat) (s : ByteArray) (m0 : Msg) (p0 : Pl) (n : Nat) (most : Int) (w : World) (x : Tk) (hs : s.size ≤ 1125899906842624) (l : Lie b c d base) (hn : n < 65536) (hd : w.cell? ⟨d, 0, none⟩ = some (.pointer (some ⟨b, 0, none⟩))) (hL : Laid w) (hbase : base ≤ w.heap.size) (h : TkAt w b s x) (hX : BoxM w c m0 p0) (h0 : m0.sv = []) (hq : p0.sa = none ∧ p0.sc = 0) :
    Calls Tryz.prog 51 #[.pointer (some ⟨b, 0, none⟩), .int .i64 n, .int .i64 most, .func (.func 56) #[] #[.pointer (some ⟨c, 0, none⟩), .pointer (some ⟨d, 0, none⟩)]] w fun e w' => e = .returned (.tuple #[]) ∧ ∃ j, InRsv b c base s m0 p0 w j w' (iterK (·.1) (stepR s) n (mustT (decide ((n : Int) ≤ most)) x, [])) := by
  refine times_c (InRsv b c base s m0 p0 w) (·.1) (stepR s) mustS _ _ b s ent3 (fun j w st h => h.2.2.choose_spec.choose_spec.1) ?_ ?_ n most hn w (x, []) ?_
  · rintro j w1 st so ⟨hl, hb, a, cap, hT, hB, hR, hF⟩
    refine (must_c b s st.1 so w1 hT).mono fun e w' ⟨h1, h2, h3⟩ => ⟨h1, hl, Nat.le_trans hb h3.bel.size, a, cap, h2, hB.turn h3 l.bc.symm, row_turn hR h3 l.bl, hF.trans (Fr.of_turn h3 hb)⟩
  · rintro j w1 st hj ⟨hl, hb, a, cap, hT, hB, hR, hF⟩ _
    have := msg3_c b c d base s st.1 { m0 with sv := st.2 } { p0 with sa := a, sc := cap } w1 hs hT hB (hF.laid l hL) (hF.cell l hd) l.db l.dl hR l.bl l.cl l.bc hb (by simp only; omega)
    refine this.mono fun e w' ⟨h1, a', cap', h2, h3, h4, h5⟩ => ⟨h1, by simp [stepR]; omega, Nat.le_trans hb h5.size, a', cap', h2, h3, h4, hF.trans h5⟩
  · refine ⟨by simp, hbase, p0.sa, p0.sc, h, ?_, ?_, Fr.refl _ _ _ _⟩
    · have : ({ m0 with sv := [] } : Msg) = m0 := by rw [← h0]
      simp only; rw [this]; exact hX
    · rw [hq.1, hq.2]; exact World.ownsRow_nil _ _ _ _

/-! ### what is additional -/
theorem msg4_c (b c d : Nat) (w : World) (R : Ending → World → Prop) (hd : w.cell? ⟨d, 0, none⟩ = some (.pointer (some ⟨b, 0, none⟩))) (hR : ∀ e w', R e w' → e = .returned (.tuple #[]))
    (HA : Calls Tryz.prog 58 #[.pointer (some ⟨b, 0, none⟩), .pointer (some ⟨c, 0, none⟩)] w R) :
    Calls Tryz.prog 57 #[.pointer (some ⟨d, 0, none⟩), .pointer (some ⟨c, 0, none⟩)] w R := by
  have HR : Hid (∀ e w', R e w' → e = .returned (.tuple #[])) := hR
  clear hR
  go_enter Tryz.func57, Tryz.ntmps57
  go_wp2_with fail
  refine HA.mono ?_
  intro e w1 hr
  obtain rfl := HR.out _ _ hr
  have Hr : Hid (R (.returned (.tuple #[])) w1) := hr
  clear hr HA
  go_wp2
  go_end0
  exact Hr.out
def InA (b c base : Nat) (s : ByteArray) (m0 : Msg) (p0 : Pl) (w0 : World) (j : Nat) (w : World) (x : Tk × List Rec × Int) : Prop :=
  x.2.1.length ≤ j ∧ base ≤ w.heap.size ∧ ∃ a cap, TkAt w b s x.1 ∧ BoxM w c { m0 with ad := x.2.1, sz := x.2.2 } { p0 with da := a, dc := cap } ∧ Recs w base (.slice a x.2.1.length cap) x.2.1 ∧ Fr b c base w0 w
theorem times_d (b c d base : Nat) (s : ByteArray) (m0 : Msg) (p0 : Pl) (n : Nat) (most : Int) (w : World) (x : Tk) (hs : s.size ≤ 1125899906842624) (l : Lie b c d base) (hn : n < 65536) (hd : w.cell? ⟨d, 0, none⟩ = some (.pointer (some ⟨b, 0, none⟩))) (hL : Laid w) (hbase : base ≤ w.heap.size) (h : TkAt w b s x) (hX : BoxM w c m0 p0) (h0 : m0.ad = []) (hz : m0.sz = 0) (hq : p0.da = none ∧ p0.dc = 0) :
    Calls Tryz.prog 51 #[.pointer (some ⟨b, 0, none⟩), .int .i64 n, .int .i64 most, .func (.func 57) #[] #[.pointer (some ⟨d, 0, none⟩), .pointer (some ⟨c, 0, none⟩)]] w fun e w' => e = .returned (.tuple #[]) ∧ ∃ j, InA b c base s m0 p0 w j w' (iterK (·.1) (stepA s) n (mustT (decide ((n : Int) ≤ most)) x, [], 0)) := by
  refine times_c (InA b c base s m0 p0 w) (·.1) (stepA s) mustS _ _ b s ent4 (fun j w st h => h.2.2.choose_spec.choose_spec.1) ?_ ?_ n most hn w (x, [], 0) ?_
  · rintro j w1 st so ⟨hl, hb, a, cap, hT, hB, hR, hF⟩
    refine (must_c b s st.1 so w1 hT).mono fun e w' ⟨h1, h2, h3⟩ => ⟨h1, hl, Nat.le_trans hb h3.bel.size, a, cap, h2, hB.turn h3 l.bc.symm, row_turn hR h3 l.bl, hF.trans (Fr.of_turn h3 hb)⟩
  · rintro j w1 st hj ⟨hl, hb, a, cap, hT, hB, hR, hF⟩ _
    refine msg4_c b c d w1 _ (hF.cell l hd) (fun e w' h => h.1) ?_
    cases ho : isOptK s st.1 with
    | true =>
      have := add_yes b c base s st.1 { m0 with ad := st.2.1, sz := st.2.2 } { p0 with da := a, dc := cap } w1 hs hT hB l.cl l.bl l.bc hb hR ho
      refine this.mono fun e w' ⟨h1, h2, h3, h4, h5⟩ => ⟨h1, by simp [stepA, ho]; omega, Nat.le_trans hb h5.size, a, cap, ?_, ?_, ?_, hF.trans h5⟩
      · simpa [stepA, ho] using h2
      · simpa [stepA, ho] using h3
      · simpa [stepA, ho] using h4
    | false =>
      have := add_no b c base s st.1 { m0 with ad := st.2.1, sz := st.2.2 } { p0 with da := a, dc := cap } w1 hs hT hB (hF.laid l hL) hR l.bl l.cl l.bc hb (by simp only; omega) ho
      refine this.mono fun e w' ⟨h1, a', cap', h2, h3, h4, h5⟩ => ⟨h1, by simp [stepA, ho]; omega, Nat.le_trans hb h5.size, a', cap', ?_, ?_, ?_, hF.trans h5⟩
      · simpa [stepA, ho] using h2
      · simpa [stepA, ho] using h3
      · simpa [stepA, ho] using h4
  · refine ⟨by simp, hbase, p0.da, p0.dc, h, ?_, ?_, Fr.refl _ _ _ _⟩
    · have : ({ m0 with ad := [], sz := 0 } : Msg) = m0 := by rw [← h0, ← hz]
      simp only; rw [this]; exact hX
    · rw [hq.1, hq.2]; exact World.ownsRow_nil _ _ _ _

end Go.Proofs.YtdmooggmoihggaaGreatDoor
