/-
  Contracts of package dns's reader: what is taken joins the message.
-/
import Derived.Test.YtdmooggmoihggaaGreatDoorDnsBits
import Derived.Deep.AppendLies
namespace Go.Proofs.YtdmooggmoihggaaGreatDoor
set_option maxRecDepth 100000
open Go.ChangeShapes Go.WideShapes Go.ChangeAt Go.RowKit Go.Pin Go.PlainAid

theorem Tryz.infoQn : (Tryz.prog.info? 59).map (fun i => (i.zero, i.size, i.bytes)) = some (some (.agg #[.string ByteArray.empty, .int .i64 0]), 2, 24) := by kernel_rfl
/-- A call at a step of a region that draws its order. -/
theorem step_call {ops : Array Oper} {o : Oper} {a : Act} {w : World} {K : Act → World → Prop} {Q : Exit → Act → World → Prop} {E : Prop} (hgd : o.guard = none) (f : FuncId) (x : Operand) (tys : Array TypeId)
    (ho : o.op = .call { callee := .value (.func f), args := #[x], argTypes := tys }) (v : Value) (hx : a.eval x = v) (hent : ∀ (args : Array Value) (w : World), (callFunc f args).run Tryz.prog w = .ok (.enter f args) w) (R : Value → World → Prop)
    (hC : Calls Tryz.prog f #[v] w fun e w' => ∃ u, e = .returned u ∧ R u w') (h : ∀ u w', R u w' → K (a.put o.dst u) w') :
    if Region.wanted o (yielded ops a.tmps) = true then Oper.wp Tryz.prog o a w K Q else E := by
  have hw : Region.wanted o (yielded ops a.tmps) = true := by simp [Region.wanted, hgd]
  rw [if_pos hw]
  unfold Oper.wp
  have hf : a.eval (.func f) = .func (.func f) #[] #[] := rfl
  simp only [execOp, ho, resolve, invoke, Sem.run_bind, Sem.run_pure, Result.andThen_ok, List.map_toArray, List.map_cons, List.map_nil, hx, hf, Deferred.ofValue, Array.append_empty, Array.empty_append, hent, Oper.upon_enter]
  refine hC.mono ?_
  rintro e w1 ⟨u, rfl, hr⟩
  exact h u w1 hr
theorem entQ (args : Array Value) (w : World) : (callFunc 53 args).run Tryz.prog w = .ok (.enter 53 args) w := by kernel_rfl
theorem entR (args : Array Value) (w : World) : (callFunc 55 args).run Tryz.prog w = .ok (.enter 55 args) w := by kernel_rfl
def Ques (w : World) (base : Nat) (v : Value) (qs : List Qn) : Prop := w.ownsRow base 59 2 v qs.length (qs.flatMap cellsQ)
/-- From w to w' nothing below base turned but blocks b and c. -/
structure Fr (b c base : Nat) (w w' : World) : Prop where
  os : w'.os = w.os
  tape : w'.tape = w.tape
  output : w'.output = w.output
  size : w.heap.size ≤ w'.heap.size
  oth : ∀ k, k < base → k ≠ b → k ≠ c → w'.heap[k]? = w.heap[k]?
theorem Fr.refl (b c base : Nat) (w : World) : Fr b c base w w := ⟨rfl, rfl, rfl, Nat.le_refl _, fun _ _ _ _ => rfl⟩
theorem Fr.trans {b c base : Nat} {w w1 w2 : World} (h1 : Fr b c base w w1) (h2 : Fr b c base w1 w2) : Fr b c base w w2 :=
  ⟨h2.os.trans h1.os, h2.tape.trans h1.tape, h2.output.trans h1.output, Nat.le_trans h1.size h2.size, fun k h hb hc => (h2.oth k h hb hc).trans (h1.oth k h hb hc)⟩
theorem Fr.of_turn {b c base : Nat} {w w' : World} (h : Turn b w w') (hb : base ≤ w.heap.size) : Fr b c base w w' := ⟨h.bel.os, h.bel.tape, h.bel.output, h.bel.size, fun k hk h1 _ => h.oth k h1 (Nat.lt_of_lt_of_le hk hb)⟩
theorem Fr.of_turn2 {b c base : Nat} {w w' : World} (h : Turn2 b c w w') (hb : base ≤ w.heap.size) : Fr b c base w w' := ⟨h.os, h.tape, h.output, h.size, fun k hk h1 h2 => h.oth k h1 h2 (Nat.lt_of_lt_of_le hk hb)⟩
theorem Fr.set {b c base j : Nat} {w : World} {u : Value} : Fr b c base w (w.setCell ⟨c, j, none⟩ u) := ⟨rfl, rfl, rfl, by rw [setCell_size]; exact Nat.le_refl _, fun _ _ _ hc => Below.heap_setCell _ _ _ _ hc⟩
theorem Fr.of_below {b c base : Nat} {w w' : World} (h : Below base w w') : Fr b c base w w' := ⟨h.os, h.tape, h.output, h.size, fun k hk _ _ => h.block k hk⟩
theorem Fr.mono {b c base base' : Nat} {w w' : World} (h : Fr b c base w w') (hb : base' ≤ base) : Fr b c base' w w' := ⟨h.os, h.tape, h.output, h.size, fun k hk => h.oth k (Nat.lt_of_lt_of_le hk hb)⟩
theorem row_turn {w w' : World} {base b : Nat} {e : TypeId} {s : Nat} {v : Value} {n : Nat} {xs : List Value} (h : w.ownsRow base e s v n xs) (ht : Turn b w w') (hb : b < base) : w'.ownsRow base e s v n xs := by
  obtain ⟨h1, h2⟩ := h
  refine ⟨h1, ?_⟩
  rcases h2 with h2 | ⟨g, cap, cur, hv, hg, hh, r⟩
  · exact .inl h2
  · exact .inr ⟨g, cap, cur, hv, hg, (ht.oth g (by omega) (Array.getElem?_eq_some_iff.1 hh).1).trans hh, r⟩
theorem row_set {w : World} {base c j : Nat} {u : Value} {e : TypeId} {s : Nat} {v : Value} {n : Nat} {xs : List Value} (h : w.ownsRow base e s v n xs) (hb : c < base) : (w.setCell ⟨c, j, none⟩ u).ownsRow base e s v n xs := by
  obtain ⟨h1, h2⟩ := h
  refine ⟨h1, ?_⟩
  rcases h2 with h2 | ⟨g, cap, cur, hv, hg, hh, r⟩
  · exact .inl h2
  · exact .inr ⟨g, cap, cur, hv, hg, (Below.heap_setCell _ _ _ _ (by simp only; omega)).trans hh, r⟩
theorem own_not {w : World} {base k : Nat} {e : TypeId} {s : Nat} {v : Value} {n : Nat} {xs : List Value} (h : w.ownsRow base e s v n xs) (hk : k < base) : some k ≠ v.ownBlock := by
  intro e1
  rcases h.2 with ⟨rfl, _⟩ | ⟨g, cap, cur, rfl, hg, _⟩
  · cases e1
  · simp only [Value.ownBlock, Option.some.injEq] at e1; omega

set_option maxHeartbeats 600000 in
theorem msg1_c (b c d base : Nat) (s : ByteArray) (x : Tk) (m : Msg) (p : Pl) (w : World) (hs : s.size ≤ 1125899906842624) (h : TkAt w b s x) (hX : BoxM w c m p) (hd : w.cell? ⟨d, 0, none⟩ = some (.pointer (some ⟨b, 0, none⟩))) (hdb : d ≠ b) (hd0 : d < base) (hq : Ques w base (.slice p.qa m.qs.length p.qc) m.qs) (hb : b < base) (hc : c < base) (hbc : b ≠ c) (hbase : base ≤ w.heap.size) (hn : m.qs.length ≤ 70000) :
    Calls Tryz.prog 52 #[.pointer (some ⟨c, 0, none⟩), .pointer (some ⟨d, 0, none⟩)] w fun e w' => e = .returned (.tuple #[]) ∧ ∃ a cap, TkAt w' b s (quesK s x).2 ∧ BoxM w' c { m with qs := m.qs ++ [(quesK s x).1] } { p with qa := a, qc := cap } ∧ Ques w' base (.slice a (m.qs ++ [(quesK s x).1]).length cap) (m.qs ++ [(quesK s x).1]) ∧ Fr b c base w w' := by
  have HC : Hid (∀ w, TkAt w b s x → _) := fun w h => question_c b s x w hs h
  obtain ⟨i0, hi0, hz0, hz1, hz2⟩ := info_parts Tryz.infoQn
  generalize (quesK s x).2 = y at *
  generalize (quesK s x).1 = q at *
  have hlen : (m.qs ++ [q]).length = m.qs.length + 1 := by simp
  have hcat : (m.qs ++ [q]).flatMap cellsQ = m.qs.flatMap cellsQ ++ cellsQ q := by simp
  have T0 : Hid (TkAt w b s x) := h
  have X0 : Hid (BoxM w c m p) := hX
  have Q0 : Hid (w.ownsRow base 59 2 (.slice p.qa m.qs.length p.qc) m.qs.length (m.qs.flatMap cellsQ)) := hq
  have c7 := hX.cell 7
  simp only [cellsM, List.getElem?_toArray, List.getElem?_cons_zero, List.getElem?_cons_succ] at c7
  have ltc := hX.lt
  have ltd : d < w.heap.size := by omega
  have ltb := h.lt
  have hnm : m.qs.length + 1 ≤ maxLen := by unfold maxLen; omega
  have hnb : (m.qs.length + 1) * 24 ≤ 140737488355328 := by omega
  obtain ⟨n, ty⟩ := q
  simp only at HC
  have HCR : Hid (∀ w, TkAt w b s x → Calls Tryz.prog 53 #[.pointer (some ⟨b, 0, none⟩)] w fun e w' => ∃ u, e = .returned u ∧ (u = .agg #[.string n, .int .i64 ty] ∧ TkAt w' b s y ∧ Turn b w w')) := fun w h => (HC.out w h).mono fun e w' h => ⟨_, h.1, rfl, h.2⟩
  clear h hX hq hs hn HC
  go_enter Tryz.func52, Tryz.ntmps52
  go_wp2_with fail
  go_region_law (first
      | (refine step_call (by rfl) 53 (.tmp 4) _ (by rfl) _ (by rfl) entQ _ (HCR.out _ (drew_tk T0.out)) ?_; rintro u w1 ⟨rfl, hT1, hU0⟩; have hU1 : Turn b w w1 := dn_turn hU0; have X1 : Hid (BoxM w1 c m p) := X0.out.turn hU1 hbc.symm; have Q1 : Hid (w1.ownsRow base 59 2 (.slice p.qa m.qs.length p.qc) m.qs.length (m.qs.flatMap cellsQ)) := row_turn Q0.out hU1 hb; have g7 := (World.cell?_of_block (a := ⟨c, 7, none⟩) (hU1.oth c hbc.symm ltc)).trans c7; have gd := (World.cell?_of_block (a := ⟨d, 0, none⟩) (hU1.oth d hdb ltd)).trans hd; have ltc1 : c < w1.heap.size := Nat.lt_of_lt_of_le ltc hU1.bel.size; have ltd1 : d < w1.heap.size := Nat.lt_of_lt_of_le ltd hU1.bel.size; have ltb1 : b < w1.heap.size := Nat.lt_of_lt_of_le ltb hU1.bel.size; have hbs1 : base ≤ w1.heap.size := Nat.le_trans hbase hU1.bel.size)
      | (have hQQ := Q1.out; refine step_append_lies _ (by rfl) _ _ _ (by rfl) base 59 i0 _ 2 24 Tryz.underlying22 hi0 hz0 hz1 hz2 rfl (by omega) (.slice p.qa m.qs.length p.qc) m.qs.length (m.qs.flatMap cellsQ) (by rfl) (World.ownsRow.alloc hQQ _) ⟨w1.heap.size, 0, none⟩ 1 1 [.string n, .int .i64 ty] (by rfl) (by rfl) (World.news_of_block (cs := #[.string n, .int .i64 ty]) (t := 59) (fr := (0, 0)) (heap_alloc_new w1 _)) (by simp [Value.oneCell']) (by omega) hnm hnb (by simp; omega) (w1.heap.size + 1) (by simp) ?_; intro g cap w2 hown2 hgrow hat hlt2; have X2 : Hid (BoxM w2 c m p) := ((hgrow.block c (by simp; omega) (own_not hQQ hc)).trans (Below.heap_alloc _ _ _ ltc1)).trans X1.out; have k7 := (World.cell?_of_block (a := ⟨c, 7, none⟩) ((hgrow.block c (by simp; omega) (own_not hQQ hc)).trans (Below.heap_alloc _ _ _ ltc1))).trans g7; have kd := (World.cell?_of_block (a := ⟨d, 0, none⟩) ((hgrow.block d (by simp; omega) (own_not Q1.out hd0)).trans (Below.heap_alloc _ _ _ ltd1))).trans gd; have f7 := X2.out.fz 7; have Hown2 : Hid (_) := hown2; have Hgrow : Hid ((w1.alloc (.cells #[.string n, .int .i64 ty] 59)).grownBy w2 (Value.ownBlock (.slice p.qa m.qs.length p.qc))) := hgrow; clear hown2 hgrow hat hQQ))
  all_goals
    have T3 : Hid (_) := ((hT1.keep ((Hgrow.out.block b (by simp; omega) (own_not Q1.out hb)).trans (Below.heap_alloc _ _ _ ltb1)) (by have := Hgrow.out.size; simp at this; omega)).set (c := c) (j := 7) (u := .slice (some ⟨g, 0, none⟩) (m.qs.length + 1) cap) hbc)
    have X3 : Hid (BoxM (w2.setCell ⟨c, 7, none⟩ (.slice (some ⟨g, 0, none⟩) (m.qs.length + 1) cap)) c { m with qs := m.qs ++ [⟨n, ty⟩] } { p with qa := some ⟨g, 0, none⟩, qc := cap }) := X2.out.set 7 _ (by simp only [cellsM, hlen]; rfl)
    have R3 : Hid ((w2.setCell ⟨c, 7, none⟩ (.slice (some ⟨g, 0, none⟩) (m.qs.length + 1) cap)).ownsRow base 59 2 (.slice (some ⟨g, 0, none⟩) (m.qs.length + 1) cap) (m.qs.length + 1) (m.qs.flatMap cellsQ ++ [.string n, .int .i64 ty])) := row_set Hown2.out hc
    have F3 : Hid (Fr b c base w (w2.setCell ⟨c, 7, none⟩ (.slice (some ⟨g, 0, none⟩) (m.qs.length + 1) cap))) := (Fr.of_turn hU1 hbase).trans (Fr.trans (Fr.of_below (((Below.refl base w1).alloc hbs1 _).grown Hgrow.out (by simp; omega) (fun k hk => by
      rcases Q1.out.2 with ⟨e1, _⟩ | ⟨g', cap', cur, e1, hg', _⟩
      · rw [e1] at hk; cases hk
      · rw [e1] at hk; simp only [Value.ownBlock, Option.some.injEq] at hk; omega))) Fr.set)
    clear hT1 hU0 hU1 X1 Q1 Hown2 Hgrow X2 k7 kd f7 g7 gd T0 X0 Q0 HCR c7 hd
    go_wp2
    go_end0
    refine ⟨rfl, some ⟨g, 0, none⟩, cap, T3.out, X3.out, ?_, F3.out⟩
    unfold Ques
    rw [hcat, hlen]
    exact R3.out

set_option maxHeartbeats 600000 in
theorem msg2_c (b c d base : Nat) (s : ByteArray) (x : Tk) (m : Msg) (p : Pl) (w : World) (hs : s.size ≤ 1125899906842624) (h : TkAt w b s x) (hX : BoxM w c m p) (hL : Laid w) (hd : w.cell? ⟨d, 0, none⟩ = some (.pointer (some ⟨b, 0, none⟩))) (hdb : d ≠ b) (hd0 : d < base) (hq : Recs w base (.slice p.aa m.an.length p.ac) m.an) (hb : b < base) (hc : c < base) (hbc : b ≠ c) (hbase : base ≤ w.heap.size) (hn : m.an.length ≤ 70000) :
    Calls Tryz.prog 54 #[.pointer (some ⟨c, 0, none⟩), .pointer (some ⟨d, 0, none⟩)] w fun e w' => e = .returned (.tuple #[]) ∧ ∃ a cap, TkAt w' b s (recK s x).2 ∧ BoxM w' c { m with an := m.an ++ [(recK s x).1] } { p with aa := a, ac := cap } ∧ Recs w' base (.slice a (m.an ++ [(recK s x).1]).length cap) (m.an ++ [(recK s x).1]) ∧ Fr b c base w w' := by
  have HC : Hid (∀ w, TkAt w b s x → Laid w → _) := fun w h hL => dRecord_c b s x w hs h hL
  obtain ⟨i0, hi0, hz0, hz1, hz2⟩ := info_parts Tryz.infoRR
  generalize (recK s x).2 = y at *
  generalize (recK s x).1 = q at *
  have hlen : (m.an ++ [q]).length = m.an.length + 1 := by simp
  have hcat : (m.an ++ [q]).flatMap cellsR = m.an.flatMap cellsR ++ cellsR q := by simp
  have T0 : Hid (TkAt w b s x) := h
  have L0 : Hid (Laid w.drew) := hL.below (below_drewN (Below.refl w.heap.size _) 1)
  have X0 : Hid (BoxM w c m p) := hX
  have Q0 : Hid (w.ownsRow base 82 7 (.slice p.aa m.an.length p.ac) m.an.length (m.an.flatMap cellsR)) := hq
  have c7 := hX.cell 8
  simp only [cellsM, List.getElem?_toArray, List.getElem?_cons_zero, List.getElem?_cons_succ] at c7
  have ltc := hX.lt
  have ltd : d < w.heap.size := by omega
  have ltb := h.lt
  have hnm : m.an.length + 1 ≤ maxLen := by unfold maxLen; omega
  have hnb : (m.an.length + 1) * 80 ≤ 140737488355328 := by omega
  obtain ⟨n, ty, ttl, ad, tg, tx, se⟩ := q
  simp only [rv] at HC
  have HCR : Hid (∀ w, TkAt w b s x → Laid w → Calls Tryz.prog 55 #[.pointer (some ⟨b, 0, none⟩)] w fun e w' => ∃ u, e = .returned u ∧ (u = .agg #[.string n, .int .i64 ty, .int .i64 ttl, .int .i64 ad, .string tg, .string tx, .int .i64 se] ∧ TkAt w' b s y ∧ Turn b w w')) := fun w h hL => (HC.out w h hL).mono fun e w' h => ⟨_, h.1, rfl, h.2⟩
  clear h hX hq hs hn HC hL
  go_enter Tryz.func54, Tryz.ntmps54
  go_wp2_with fail
  go_region_law (first
      | (refine step_call (by rfl) 55 (.tmp 4) _ (by rfl) _ (by rfl) entR _ (HCR.out _ (drew_tk T0.out) L0.out) ?_; rintro u w1 ⟨rfl, hT1, hU0⟩; have hU1 : Turn b w w1 := dn_turn hU0; have X1 : Hid (BoxM w1 c m p) := X0.out.turn hU1 hbc.symm; have Q1 : Hid (w1.ownsRow base 82 7 (.slice p.aa m.an.length p.ac) m.an.length (m.an.flatMap cellsR)) := row_turn Q0.out hU1 hb; have g7 := (World.cell?_of_block (a := ⟨c, 8, none⟩) (hU1.oth c hbc.symm ltc)).trans c7; have gd := (World.cell?_of_block (a := ⟨d, 0, none⟩) (hU1.oth d hdb ltd)).trans hd; have ltc1 : c < w1.heap.size := Nat.lt_of_lt_of_le ltc hU1.bel.size; have ltd1 : d < w1.heap.size := Nat.lt_of_lt_of_le ltd hU1.bel.size; have ltb1 : b < w1.heap.size := Nat.lt_of_lt_of_le ltb hU1.bel.size; have hbs1 : base ≤ w1.heap.size := Nat.le_trans hbase hU1.bel.size)
      | (have hQQ := Q1.out; refine step_append_lies _ (by rfl) _ _ _ (by rfl) base 82 i0 _ 7 80 Tryz.underlying23 hi0 hz0 hz1 hz2 rfl (by omega) (.slice p.aa m.an.length p.ac) m.an.length (m.an.flatMap cellsR) (by rfl) (World.ownsRow.alloc hQQ _) ⟨w1.heap.size, 0, none⟩ 1 1 [.string n, .int .i64 ty, .int .i64 ttl, .int .i64 ad, .string tg, .string tx, .int .i64 se] (by rfl) (by rfl) (World.news_of_block (cs := #[.string n, .int .i64 ty, .int .i64 ttl, .int .i64 ad, .string tg, .string tx, .int .i64 se]) (t := 82) (fr := (0, 0)) (heap_alloc_new w1 _)) (by simp [Value.oneCell']) (by omega) hnm hnb (by simp; omega) (w1.heap.size + 1) (by simp) ?_; intro g cap w2 hown2 hgrow hat hlt2; have X2 : Hid (BoxM w2 c m p) := ((hgrow.block c (by simp; omega) (own_not hQQ hc)).trans (Below.heap_alloc _ _ _ ltc1)).trans X1.out; have k7 := (World.cell?_of_block (a := ⟨c, 8, none⟩) ((hgrow.block c (by simp; omega) (own_not hQQ hc)).trans (Below.heap_alloc _ _ _ ltc1))).trans g7; have kd := (World.cell?_of_block (a := ⟨d, 0, none⟩) ((hgrow.block d (by simp; omega) (own_not Q1.out hd0)).trans (Below.heap_alloc _ _ _ ltd1))).trans gd; have f7 := X2.out.fz 8; have Hown2 : Hid (_) := hown2; have Hgrow : Hid ((w1.alloc (.cells #[.string n, .int .i64 ty, .int .i64 ttl, .int .i64 ad, .string tg, .string tx, .int .i64 se] 82)).grownBy w2 (Value.ownBlock (.slice p.aa m.an.length p.ac))) := hgrow; clear hown2 hgrow hat hQQ))
  all_goals
    have T3 : Hid (_) := ((hT1.keep ((Hgrow.out.block b (by simp; omega) (own_not Q1.out hb)).trans (Below.heap_alloc _ _ _ ltb1)) (by have := Hgrow.out.size; simp at this; omega)).set (c := c) (j := 8) (u := .slice (some ⟨g, 0, none⟩) (m.an.length + 1) cap) hbc)
    have X3 : Hid (BoxM (w2.setCell ⟨c, 8, none⟩ (.slice (some ⟨g, 0, none⟩) (m.an.length + 1) cap)) c { m with an := m.an ++ [⟨n, ty, ttl, ad, tg, tx, se⟩] } { p with aa := some ⟨g, 0, none⟩, ac := cap }) := X2.out.set 8 _ (by simp only [cellsM, hlen]; rfl)
    have R3 : Hid ((w2.setCell ⟨c, 8, none⟩ (.slice (some ⟨g, 0, none⟩) (m.an.length + 1) cap)).ownsRow base 82 7 (.slice (some ⟨g, 0, none⟩) (m.an.length + 1) cap) (m.an.length + 1) (m.an.flatMap cellsR ++ [.string n, .int .i64 ty, .int .i64 ttl, .int .i64 ad, .string tg, .string tx, .int .i64 se])) := row_set Hown2.out hc
    have F3 : Hid (Fr b c base w (w2.setCell ⟨c, 8, none⟩ (.slice (some ⟨g, 0, none⟩) (m.an.length + 1) cap))) := (Fr.of_turn hU1 hbase).trans (Fr.trans (Fr.of_below (((Below.refl base w1).alloc hbs1 _).grown Hgrow.out (by simp; omega) (fun k hk => by
      rcases Q1.out.2 with ⟨e1, _⟩ | ⟨g', cap', cur, e1, hg', _⟩
      · rw [e1] at hk; cases hk
      · rw [e1] at hk; simp only [Value.ownBlock, Option.some.injEq] at hk; omega))) Fr.set)
    clear hT1 hU0 hU1 X1 Q1 Hown2 Hgrow X2 k7 kd f7 g7 gd T0 X0 Q0 HCR c7 hd
    go_wp2
    go_end0
    refine ⟨rfl, some ⟨g, 0, none⟩, cap, T3.out, X3.out, ?_, F3.out⟩
    unfold Recs
    rw [hcat, hlen]
    exact R3.out

set_option maxHeartbeats 600000 in
theorem msg3_c (b c d base : Nat) (s : ByteArray) (x : Tk) (m : Msg) (p : Pl) (w : World) (hs : s.size ≤ 1125899906842624) (h : TkAt w b s x) (hX : BoxM w c m p) (hL : Laid w) (hd : w.cell? ⟨d, 0, none⟩ = some (.pointer (some ⟨b, 0, none⟩))) (hdb : d ≠ b) (hd0 : d < base) (hq : Recs w base (.slice p.sa m.sv.length p.sc) m.sv) (hb : b < base) (hc : c < base) (hbc : b ≠ c) (hbase : base ≤ w.heap.size) (hn : m.sv.length ≤ 70000) :
    Calls Tryz.prog 56 #[.pointer (some ⟨c, 0, none⟩), .pointer (some ⟨d, 0, none⟩)] w fun e w' => e = .returned (.tuple #[]) ∧ ∃ a cap, TkAt w' b s (recK s x).2 ∧ BoxM w' c { m with sv := m.sv ++ [(recK s x).1] } { p with sa := a, sc := cap } ∧ Recs w' base (.slice a (m.sv ++ [(recK s x).1]).length cap) (m.sv ++ [(recK s x).1]) ∧ Fr b c base w w' := by
  have HC : Hid (∀ w, TkAt w b s x → Laid w → _) := fun w h hL => dRecord_c b s x w hs h hL
  obtain ⟨i0, hi0, hz0, hz1, hz2⟩ := info_parts Tryz.infoRR
  generalize (recK s x).2 = y at *
  generalize (recK s x).1 = q at *
  have hlen : (m.sv ++ [q]).length = m.sv.length + 1 := by simp
  have hcat : (m.sv ++ [q]).flatMap cellsR = m.sv.flatMap cellsR ++ cellsR q := by simp
  have T0 : Hid (TkAt w b s x) := h
  have L0 : Hid (Laid w.drew) := hL.below (below_drewN (Below.refl w.heap.size _) 1)
  have X0 : Hid (BoxM w c m p) := hX
  have Q0 : Hid (w.ownsRow base 82 7 (.slice p.sa m.sv.length p.sc) m.sv.length (m.sv.flatMap cellsR)) := hq
  have c7 := hX.cell 9
  simp only [cellsM, List.getElem?_toArray, List.getElem?_cons_zero, List.getElem?_cons_succ] at c7
  have ltc := hX.lt
  have ltd : d < w.heap.size := by omega
  have ltb := h.lt
  have hnm : m.sv.length + 1 ≤ maxLen := by unfold maxLen; omega
  have hnb : (m.sv.length + 1) * 80 ≤ 140737488355328 := by omega
  obtain ⟨n, ty, ttl, ad, tg, tx, se⟩ := q
  simp only [rv] at HC
  have HCR : Hid (∀ w, TkAt w b s x → Laid w → Calls Tryz.prog 55 #[.pointer (some ⟨b, 0, none⟩)] w fun e w' => ∃ u, e = .returned u ∧ (u = .agg #[.string n, .int .i64 ty, .int .i64 ttl, .int .i64 ad, .string tg, .string tx, .int .i64 se] ∧ TkAt w' b s y ∧ Turn b w w')) := fun w h hL => (HC.out w h hL).mono fun e w' h => ⟨_, h.1, rfl, h.2⟩
  clear h hX hq hs hn HC hL
  go_enter Tryz.func56, Tryz.ntmps56
  go_wp2_with fail
  go_region_law (first
      | (refine step_call (by rfl) 55 (.tmp 4) _ (by rfl) _ (by rfl) entR _ (HCR.out _ (drew_tk T0.out) L0.out) ?_; rintro u w1 ⟨rfl, hT1, hU0⟩; have hU1 : Turn b w w1 := dn_turn hU0; have X1 : Hid (BoxM w1 c m p) := X0.out.turn hU1 hbc.symm; have Q1 : Hid (w1.ownsRow base 82 7 (.slice p.sa m.sv.length p.sc) m.sv.length (m.sv.flatMap cellsR)) := row_turn Q0.out hU1 hb; have g7 := (World.cell?_of_block (a := ⟨c, 9, none⟩) (hU1.oth c hbc.symm ltc)).trans c7; have gd := (World.cell?_of_block (a := ⟨d, 0, none⟩) (hU1.oth d hdb ltd)).trans hd; have ltc1 : c < w1.heap.size := Nat.lt_of_lt_of_le ltc hU1.bel.size; have ltd1 : d < w1.heap.size := Nat.lt_of_lt_of_le ltd hU1.bel.size; have ltb1 : b < w1.heap.size := Nat.lt_of_lt_of_le ltb hU1.bel.size; have hbs1 : base ≤ w1.heap.size := Nat.le_trans hbase hU1.bel.size)
      | (have hQQ := Q1.out; refine step_append_lies _ (by rfl) _ _ _ (by rfl) base 82 i0 _ 7 80 Tryz.underlying23 hi0 hz0 hz1 hz2 rfl (by omega) (.slice p.sa m.sv.length p.sc) m.sv.length (m.sv.flatMap cellsR) (by rfl) (World.ownsRow.alloc hQQ _) ⟨w1.heap.size, 0, none⟩ 1 1 [.string n, .int .i64 ty, .int .i64 ttl, .int .i64 ad, .string tg, .string tx, .int .i64 se] (by rfl) (by rfl) (World.news_of_block (cs := #[.string n, .int .i64 ty, .int .i64 ttl, .int .i64 ad, .string tg, .string tx, .int .i64 se]) (t := 82) (fr := (0, 0)) (heap_alloc_new w1 _)) (by simp [Value.oneCell']) (by omega) hnm hnb (by simp; omega) (w1.heap.size + 1) (by simp) ?_; intro g cap w2 hown2 hgrow hat hlt2; have X2 : Hid (BoxM w2 c m p) := ((hgrow.block c (by simp; omega) (own_not hQQ hc)).trans (Below.heap_alloc _ _ _ ltc1)).trans X1.out; have k7 := (World.cell?_of_block (a := ⟨c, 9, none⟩) ((hgrow.block c (by simp; omega) (own_not hQQ hc)).trans (Below.heap_alloc _ _ _ ltc1))).trans g7; have kd := (World.cell?_of_block (a := ⟨d, 0, none⟩) ((hgrow.block d (by simp; omega) (own_not Q1.out hd0)).trans (Below.heap_alloc _ _ _ ltd1))).trans gd; have f7 := X2.out.fz 9; have Hown2 : Hid (_) := hown2; have Hgrow : Hid ((w1.alloc (.cells #[.string n, .int .i64 ty, .int .i64 ttl, .int .i64 ad, .string tg, .string tx, .int .i64 se] 82)).grownBy w2 (Value.ownBlock (.slice p.sa m.sv.length p.sc))) := hgrow; clear hown2 hgrow hat hQQ))
  all_goals
    have T3 : Hid (_) := ((hT1.keep ((Hgrow.out.block b (by simp; omega) (own_not Q1.out hb)).trans (Below.heap_alloc _ _ _ ltb1)) (by have := Hgrow.out.size; simp at this; omega)).set (c := c) (j := 9) (u := .slice (some ⟨g, 0, none⟩) (m.sv.length + 1) cap) hbc)
    have X3 : Hid (BoxM (w2.setCell ⟨c, 9, none⟩ (.slice (some ⟨g, 0, none⟩) (m.sv.length + 1) cap)) c { m with sv := m.sv ++ [⟨n, ty, ttl, ad, tg, tx, se⟩] } { p with sa := some ⟨g, 0, none⟩, sc := cap }) := X2.out.set 9 _ (by simp only [cellsM, hlen]; rfl)
    have R3 : Hid ((w2.setCell ⟨c, 9, none⟩ (.slice (some ⟨g, 0, none⟩) (m.sv.length + 1) cap)).ownsRow base 82 7 (.slice (some ⟨g, 0, none⟩) (m.sv.length + 1) cap) (m.sv.length + 1) (m.sv.flatMap cellsR ++ [.string n, .int .i64 ty, .int .i64 ttl, .int .i64 ad, .string tg, .string tx, .int .i64 se])) := row_set Hown2.out hc
    have F3 : Hid (Fr b c base w (w2.setCell ⟨c, 9, none⟩ (.slice (some ⟨g, 0, none⟩) (m.sv.length + 1) cap))) := (Fr.of_turn hU1 hbase).trans (Fr.trans (Fr.of_below (((Below.refl base w1).alloc hbs1 _).grown Hgrow.out (by simp; omega) (fun k hk => by
      rcases Q1.out.2 with ⟨e1, _⟩ | ⟨g', cap', cur, e1, hg', _⟩
      · rw [e1] at hk; cases hk
      · rw [e1] at hk; simp only [Value.ownBlock, Option.some.injEq] at hk; omega))) Fr.set)
    clear hT1 hU0 hU1 X1 Q1 Hown2 Hgrow X2 k7 kd f7 g7 gd T0 X0 Q0 HCR c7 hd
    go_wp2
    go_end0
    refine ⟨rfl, some ⟨g, 0, none⟩, cap, T3.out, X3.out, ?_, F3.out⟩
    unfold Recs
    rw [hcat, hlen]
    exact R3.out

set_option maxHeartbeats 600000 in
theorem add_no (b c base : Nat) (s : ByteArray) (x : Tk) (m : Msg) (p : Pl) (w : World) (hs : s.size ≤ 1125899906842624) (h : TkAt w b s x) (hX : BoxM w c m p) (hL : Laid w) (hq : Recs w base (.slice p.da m.ad.length p.dc) m.ad) (hb : b < base) (hc : c < base) (hbc : b ≠ c) (hbase : base ≤ w.heap.size) (hn : m.ad.length ≤ 70000) (hno : isOptK s x = false) :
    Calls Tryz.prog 58 #[.pointer (some ⟨b, 0, none⟩), .pointer (some ⟨c, 0, none⟩)] w fun e w' => e = .returned (.tuple #[]) ∧ ∃ a cap, TkAt w' b s (recK s x).2 ∧ BoxM w' c { m with ad := m.ad ++ [(recK s x).1] } { p with da := a, dc := cap } ∧ Recs w' base (.slice a (m.ad ++ [(recK s x).1]).length cap) (m.ad ++ [(recK s x).1]) ∧ Fr b c base w w' := by
  have HC : Hid (∀ w, TkAt w b s x → Laid w → _) := fun w h hL => dRecord_c b s x w hs h hL
  obtain ⟨i0, hi0, hz0, hz1, hz2⟩ := info_parts Tryz.infoRR
  have HI : Hid (∀ w, TkAt w b s x → _) := fun w h => isOpt_c b s x w hs h
  rw [hno] at HI
  generalize (recK s x).2 = y at *
  generalize (recK s x).1 = q at *
  have hlen : (m.ad ++ [q]).length = m.ad.length + 1 := by simp
  have hcat : (m.ad ++ [q]).flatMap cellsR = m.ad.flatMap cellsR ++ cellsR q := by simp
  have hnm : m.ad.length + 1 ≤ maxLen := by unfold maxLen; omega
  have hnb : (m.ad.length + 1) * 80 ≤ 140737488355328 := by omega
  obtain ⟨n, ty, ttl, ad, tg, tx, se⟩ := q
  simp only [rv] at HC
  have HCR : Hid (∀ w, TkAt w b s x → Laid w → Calls Tryz.prog 55 #[.pointer (some ⟨b, 0, none⟩)] w fun e w' => ∃ u, e = .returned u ∧ (u = .agg #[.string n, .int .i64 ty, .int .i64 ttl, .int .i64 ad, .string tg, .string tx, .int .i64 se] ∧ TkAt w' b s y ∧ Turn b w w')) := fun w h hL => (HC.out w h hL).mono fun e w' h => ⟨_, h.1, rfl, h.2⟩
  have Th : Hid (TkAt w b s x) := h
  have Xh : Hid (BoxM w c m p) := hX
  have Qh : Hid (w.ownsRow base 82 7 (.slice p.da m.ad.length p.dc) m.ad.length (m.ad.flatMap cellsR)) := hq
  have Lh : Hid (Laid w) := hL
  clear h hX hq hs hn HC hL hno
  go_enter Tryz.func58, Tryz.ntmps58
  go_wp2_with fail
  refine (HI.out _ Th.out).mono ?_; rintro e wi ⟨rfl, hbi⟩
  have Bi : Hid (Below w.heap.size w wi) := hbi
  have T0 : Hid (TkAt wi b s x) := Th.out.below hbi Th.out.lt
  have L0 : Hid (Laid wi.drew) := (Lh.out.below hbi).below (below_drewN (Below.refl wi.heap.size _) 1)
  have X0 : Hid (BoxM wi c m p) := Xh.out.below hbi
  have Q0 : Hid (wi.ownsRow base 82 7 (.slice p.da m.ad.length p.dc) m.ad.length (m.ad.flatMap cellsR)) := row_below Qh.out hbi
  have c7 := X0.out.cell 10
  simp only [cellsM, List.getElem?_toArray, List.getElem?_cons_zero, List.getElem?_cons_succ] at c7
  have ltc := X0.out.lt
  have ltb := T0.out.lt
  have hbasei : base ≤ wi.heap.size := Nat.le_trans hbase hbi.size
  clear hbi Th Xh Qh Lh HI
  go_wp2_with fail
  go_region_law (first
      | (refine step_call (by rfl) 55 (.tmp 12) _ (by rfl) _ (by rfl) entR _ (HCR.out _ (drew_tk T0.out) L0.out) ?_; rintro u w1 ⟨rfl, hT1, hU0⟩; have hU1 : Turn b wi w1 := dn_turn hU0; have X1 : Hid (BoxM w1 c m p) := X0.out.turn hU1 hbc.symm; have Q1 : Hid (w1.ownsRow base 82 7 (.slice p.da m.ad.length p.dc) m.ad.length (m.ad.flatMap cellsR)) := row_turn Q0.out hU1 hb; have g7 := (World.cell?_of_block (a := ⟨c, 10, none⟩) (hU1.oth c hbc.symm ltc)).trans c7; have ltc1 : c < w1.heap.size := Nat.lt_of_lt_of_le ltc hU1.bel.size; have ltb1 : b < w1.heap.size := Nat.lt_of_lt_of_le ltb hU1.bel.size; have hbs1 : base ≤ w1.heap.size := Nat.le_trans hbasei hU1.bel.size)
      | (have hQQ := Q1.out; refine step_append_lies _ (by rfl) _ _ _ (by rfl) base 82 i0 _ 7 80 Tryz.underlying23 hi0 hz0 hz1 hz2 rfl (by omega) (.slice p.da m.ad.length p.dc) m.ad.length (m.ad.flatMap cellsR) (by rfl) (World.ownsRow.alloc hQQ _) ⟨w1.heap.size, 0, none⟩ 1 1 [.string n, .int .i64 ty, .int .i64 ttl, .int .i64 ad, .string tg, .string tx, .int .i64 se] (by rfl) (by rfl) (World.news_of_block (cs := #[.string n, .int .i64 ty, .int .i64 ttl, .int .i64 ad, .string tg, .string tx, .int .i64 se]) (t := 82) (fr := (0, 0)) (heap_alloc_new w1 _)) (by simp [Value.oneCell']) (by omega) hnm hnb (by simp; omega) (w1.heap.size + 1) (by simp) ?_; intro g cap w2 hown2 hgrow hat hlt2; have X2 : Hid (BoxM w2 c m p) := ((hgrow.block c (by simp; omega) (own_not hQQ hc)).trans (Below.heap_alloc _ _ _ ltc1)).trans X1.out; have k7 := (World.cell?_of_block (a := ⟨c, 10, none⟩) ((hgrow.block c (by simp; omega) (own_not hQQ hc)).trans (Below.heap_alloc _ _ _ ltc1))).trans g7; have f7 := X2.out.fz 10; have Hown2 : Hid (_) := hown2; have Hgrow : Hid ((w1.alloc (.cells #[.string n, .int .i64 ty, .int .i64 ttl, .int .i64 ad, .string tg, .string tx, .int .i64 se] 82)).grownBy w2 (Value.ownBlock (.slice p.da m.ad.length p.dc))) := hgrow; clear hown2 hgrow hat hQQ))
  all_goals
    have T3 : Hid (_) := ((hT1.keep ((Hgrow.out.block b (by simp; omega) (own_not Q1.out hb)).trans (Below.heap_alloc _ _ _ ltb1)) (by have := Hgrow.out.size; simp at this; omega)).set (c := c) (j := 10) (u := .slice (some ⟨g, 0, none⟩) (m.ad.length + 1) cap) hbc)
    have X3 : Hid (BoxM (w2.setCell ⟨c, 10, none⟩ (.slice (some ⟨g, 0, none⟩) (m.ad.length + 1) cap)) c { m with ad := m.ad ++ [⟨n, ty, ttl, ad, tg, tx, se⟩] } { p with da := some ⟨g, 0, none⟩, dc := cap }) := X2.out.set 10 _ (by simp only [cellsM, hlen]; rfl)
    have R3 : Hid ((w2.setCell ⟨c, 10, none⟩ (.slice (some ⟨g, 0, none⟩) (m.ad.length + 1) cap)).ownsRow base 82 7 (.slice (some ⟨g, 0, none⟩) (m.ad.length + 1) cap) (m.ad.length + 1) (m.ad.flatMap cellsR ++ [.string n, .int .i64 ty, .int .i64 ttl, .int .i64 ad, .string tg, .string tx, .int .i64 se])) := row_set Hown2.out hc
    have F3 : Hid (Fr b c base w (w2.setCell ⟨c, 10, none⟩ (.slice (some ⟨g, 0, none⟩) (m.ad.length + 1) cap))) := ((Fr.of_below (Bi.out.mono hbase)).trans (Fr.of_turn hU1 hbasei)).trans (Fr.trans (Fr.of_below (((Below.refl base w1).alloc hbs1 _).grown Hgrow.out (by simp; omega) (fun k hk => by
      rcases Q1.out.2 with ⟨e1, _⟩ | ⟨g', cap', cur, e1, hg', _⟩
      · rw [e1] at hk; cases hk
      · rw [e1] at hk; simp only [Value.ownBlock, Option.some.injEq] at hk; omega))) Fr.set)
    clear hT1 hU0 hU1 X1 Q1 Hown2 Hgrow X2 k7 f7 g7 T0 X0 Q0 HCR c7
    go_wp2
    refine bodyPost_ret (v := .tuple #[]) (by simp [results, Tryz.results58, go_sem]) rfl ⟨rfl, some ⟨g, 0, none⟩, cap, T3.out, X3.out, ?_, F3.out⟩
    unfold Recs
    rw [hcat, hlen]
    exact R3.out

end Go.Proofs.YtdmooggmoihggaaGreatDoor
