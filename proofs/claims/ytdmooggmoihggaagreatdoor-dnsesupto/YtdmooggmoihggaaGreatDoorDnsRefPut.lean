/-
  Contracts of the document's own 'written', at every message that may be.
-/
import Derived.Test.YtdmooggmoihggaaGreatDoorDnsRef
import Derived.Test.YtdmooggmoihggaaGreatDoorBDns
import Derived.Test.YtdmooggmoihggaaGreatDoorDnsGet
import Derived.Test.YtdmooggmoihggaaGreatDoorRrRefPut2
import Derived.Laws.OwnMore
import Derived.BigQuiet
import Derived.Deep.RegionHeld3
import Derived.Deep.DeepCutAuto
import Derived.Deep.CutRange
namespace Go.Proofs.YtdmooggmoihggaaGreatDoor
set_option maxRecDepth 100000
open Go.ChangeShapes Go.WideShapes Go.ChangeAt Go.RowKit Go.Pin Go.PlainAid

theorem rFlag_c (b : Bool) (x : Int) (w : World) : Calls Tryz.prog 45 #[.bool b, .int .i64 x] w fun e w' => e = .returned (.int .i64 (if b then x else 0)) ∧ w' = w := by
  cases b
  all_goals
    go_enter Tryz.func45, Tryz.ntmps45
    go_wp2
    go_ret
    exact ⟨rfl, rfl⟩

/-! ### a list behind a row -/
theorem run_append_none {P : Program} {w : World} (base : Nat) (t ty e : TypeId) (i : TypeInfo) (size : Nat) (ht : P.underlying t = some (.slice e)) (hi : P.info? e = some i)
    (v : Value) (n : Nat) (xs : List Value) (c : Nat) (hown : w.ownsRow base e size v n xs) :
    (Builtin.append_ #[t, t] ty #[v, .slice none 0 c]).run P w = .ok v w := by
  rcases hown.2 with ⟨rfl, rfl⟩ | ⟨g, cap, cur, rfl, _, _, hnc, _⟩
  · simp [Builtin.append_, run_underlying ht, sizeOf, typeInfo, hi, Builtin.lenOf, Builtin.firstCells]
  · simp [Builtin.append_, run_underlying ht, sizeOf, typeInfo, hi, Builtin.lenOf, Builtin.firstCells, hnc, storeCells]
theorem wpList_append_none {P : Program} {w : World} {ops : Array Oper} {rest : List Oper} {o : Oper} {a : Act} {Q : Exit → Act → World → Prop} (hgd : o.guard = none) (s x : Operand) (t : TypeId)
    (ho : o.op = .call { callee := .builtin .append, args := #[s, x], argTypes := #[t, t] })
    (base : Nat) (e : TypeId) (i : TypeInfo) (size : Nat) (ht : P.underlying t = some (.slice e)) (hi : P.info? e = some i)
    (v : Value) (n : Nat) (xs : List Value) (c : Nat) (hs : a.eval s = v) (hown : w.ownsRow base e size v n xs) (hx : a.eval x = .slice none 0 c)
    (h : wpList P ops Q rest (a.put o.dst v) w) : wpList P ops Q (o :: rest) a w := by
  refine wpList_plain hgd fun K hK => ?_
  have hrun := run_append_none (P := P) (w := w) base t o.type e i size ht hi v n xs c hown
  unfold Oper.wp
  simp [execOp, ho, resolve, invoke, builtin, hs, hx, hrun, Result.andThen]
  exact hK _ _ h
theorem recs_empty (w : World) : Recs (w.alloc (.cells #[] 82)) w.heap.size (.slice (some ⟨w.heap.size, 0, none⟩) 0 0) [] :=
  World.ownsRow_lit w #[] 0 (Nat.le_refl _) (by unfold maxLen; omega) rfl
theorem cellsR_len (rs : List Rec) : (rs.flatMap cellsR).length = rs.length * 7 := by
  induction rs with
  | nil => rfl
  | cons r rs ih => simp [List.flatMap_cons, ih, cellsR]; omega
theorem cellsR_one (rs : List Rec) : ∀ u ∈ rs.flatMap cellsR, u.oneCell' = true := by
  intro u hu
  simp only [List.mem_flatMap, cellsR] at hu
  obtain ⟨r, _, hu⟩ := hu
  simp at hu
  rcases hu with rfl | rfl | rfl | rfl | rfl | rfl | rfl <;> rfl
theorem add_more (x : Addr) (a k : Nat) (hk : k ≠ 0) : x.add (a + k) = ⟨(x.add a).block, (x.add a).off + k, none⟩ := by
  unfold Addr.add
  rw [if_neg (by omega)]
  by_cases h : a = 0
  · subst h; simp
  · rw [if_neg h]; simp; omega
theorem rcells_of_from {w : World} {x : Addr} {rs : List Rec} (h : ∀ j r, rs[j]? = some r → RecFrom w (x.add (j * 7)) r) : ∀ j u, (rs.flatMap cellsR)[j]? = some u → w.cell? (x.add j) = some u := by
  intro j u hj
  have hjl := (List.getElem?_eq_some_iff.1 hj).1
  rw [cellsR_len] at hjl
  obtain ⟨q, k, rfl, hk⟩ : ∃ q k, j = q * 7 + k ∧ k < 7 := ⟨j / 7, j % 7, by omega, by omega⟩
  obtain ⟨r, hr⟩ : ∃ r, rs[q]? = some r := ⟨_, List.getElem?_eq_getElem (by omega)⟩
  have hf := flat_at rs q r k hr hk
  rw [hj] at hf
  obtain ⟨h0, h1, h2, h3, h4, h5, h6⟩ := h q r hr
  rcases (by omega : k = 0 ∨ k = 1 ∨ k = 2 ∨ k = 3 ∨ k = 4 ∨ k = 5 ∨ k = 6) with rfl | rfl | rfl | rfl | rfl | rfl | rfl
  · rw [Nat.add_zero, h0]; exact hf.symm
  · rw [add_more _ _ _ (by omega), h1]; exact hf.symm
  · rw [add_more _ _ _ (by omega), h2]; exact hf.symm
  · rw [add_more _ _ _ (by omega), h3]; exact hf.symm
  · rw [add_more _ _ _ (by omega), h4]; exact hf.symm
  · rw [add_more _ _ _ (by omega), h5]; exact hf.symm
  · rw [add_more _ _ _ (by omega), h6]; exact hf.symm
theorem recs_rec {w : World} {base : Nat} {a : Option Addr} {cap : Nat} {rs : List Rec} (h : Recs w base (.slice a rs.length cap) rs) {j : Nat} {r : Rec} (hj : rs[j]? = some r) : ∃ x, a = some x ∧ RecFrom w (x.add (j * 7)) r := by
  rcases h.lie with h | ⟨x, h1, h2⟩
  · rw [h] at hj; simp at hj
  · exact ⟨x, h1, h2 j r hj⟩

/-- A number that Num puts. -/
def dNumOk (x : Int) : Prop := 0 ≤ x ∧ x ≤ 4294967295
def two (x : Int) : ByteArray := be x 2
def flagN (b : Bool) (x : Int) : Int := if b then x else 0
theorem flagN_bd (b : Bool) (x : Int) (h : 0 ≤ x) : 0 ≤ flagN b x ∧ flagN b x ≤ x := by unfold flagN; split <;> omega
theorem putR1_of {s : Sofar} (h : OkS s) {r : Rec} (hr : mayR r = true) : ∃ P ks, putL (s.1.length : Nat) s.2 r = some (P, ks) ∧ putR1 s r = (s.1 ++ P, ks) := by
  obtain ⟨P, ks, hp⟩ := putL_some h.good (by have := h.len; omega) hr
  exact ⟨P, ks, hp, by simp only [putR1, hp]⟩
theorem OkS.short {s : Sofar} (h : OkS s) : ∀ k ∈ s.2, k.1.length ≤ 1048576 := fun k hk => by
  have h1 := (h.good k hk).1
  have h2 := mayL_len (known_bounds h1).2.1
  omega
/-- The head. -/
theorem head_is (m : Msg) : mk (headM m) = two m.id ++ two (bitsM m) ++ two m.qs.length ++ two m.an.length ++ two m.sv.length ++ two ((m.ad.length + optN m.sz : Nat) : Int) := by
  apply bs_inj; simp [headM, two, bs, mk]
theorem opt_is (A : List UInt8) {z : Int} (h : 0 < z) : mk (A ++ optL z) = mk A ++ ⟨#[0]⟩ ++ two 41 ++ two z ++ be 0 4 ++ two 0 := by
  apply bs_inj; unfold optL; rw [if_pos h]; simp [two, bs, mk]
theorem ques_is (s : Sofar) (q : Qn) : mk (putQ s q).1 = mk s.1 ++ mk (putS s.2 (labsL (bs q.n))) ++ two q.ty ++ two 1 := by
  apply bs_inj; simp [putQ, two, bs, mk]
theorem two_size (x : Int) : (two x).size = 2 := size_be _ _

set_option maxRecDepth 100000 in
set_option maxHeartbeats 8000000 in
/-- The document's own 'written'. -/
theorem rWritten_c (m : Msg) (p : Pl) (w : World) (hM : MayM m) (hk : MsgBulk m 1048576) (hl : MsgLies w m p) : Calls Tryz.prog 17 #[mv m p] w fun e w' => e = .returned (.string (mk (writtenM m))) ∧ Below w.heap.size w w' := by
  have hW := written_is m
  have NUM : Hid (∀ (x : Int) (w : World), dNumOk x → Calls Tryz.prog 46 #[.int .i64 x, .int .i64 2] w fun e w' => e = .returned (.string (two x)) ∧ Below w.heap.size w w') := fun x w hx => by
    have := refNum x 2 w hx.1 (by have := hx.2; omega) (by omega)
    exact this
  have NUM4 : Hid (∀ (w : World), Calls Tryz.prog 46 #[.int .i64 0, .int .i64 4] w fun e w' => e = .returned (.string (be 0 4)) ∧ Below w.heap.size w w') := fun w => by
    have := refNum 0 4 w (by omega) (by omega) (by omega)
    exact this
  have FLAG : Hid (∀ (b : Bool) (x : Int) (w : World), Calls Tryz.prog 45 #[.bool b, .int .i64 x] w fun e w' => e = .returned (.int .i64 (flagN b x)) ∧ w' = w) := fun b x w => rFlag_c b x w
  have FL1 : Hid (∀ w, _) := fun w => FLAG.out m.rsp 32768 w
  have FL2 : Hid (∀ w, _) := fun w => FLAG.out m.au 1024 w
  have FL3 : Hid (∀ w, _) := fun w => FLAG.out m.tr 512 w
  have FL4 : Hid (∀ w, _) := fun w => FLAG.out m.re 256 w
  have FL5 : Hid (∀ w, _) := fun w => FLAG.out (decide (0 < m.sz)) 1 w
  have e5 : flagN (decide (0 < m.sz)) 1 = ((optN m.sz : Nat) : Int) := by unfold flagN optN; by_cases h : 0 < m.sz <;> simp [h]
  have b5 : optN m.sz ≤ 1 := by unfold optN; split <;> omega
  rw [e5] at FL5
  have hbits : flagN m.rsp 32768 + m.op * 2048 + flagN m.au 1024 + flagN m.tr 512 + flagN m.re 256 + m.co = bitsM m := rfl
  obtain ⟨f1, f2⟩ := flagN_bd m.rsp 32768 (by omega)
  obtain ⟨f3, f4⟩ := flagN_bd m.au 1024 (by omega)
  obtain ⟨f5, f6⟩ := flagN_bd m.tr 512 (by omega)
  obtain ⟨f7, f8⟩ := flagN_bd m.re 256 (by omega)
  obtain ⟨o0, o1⟩ := hM.op
  obtain ⟨o2, o3⟩ := hM.co
  obtain ⟨o4, o5⟩ := hM.id
  have hhead := head_is m
  have hQ0 : (stQ m 0).1 = headM m := rfl
  rw [← hQ0] at hhead
  generalize flagN m.rsp 32768 = F1 at *
  generalize flagN m.au 1024 = F2 at *
  generalize flagN m.tr 512 = F3 at *
  generalize flagN m.re 256 = F4 at *
  generalize bitsM m = Bt at *
  obtain ⟨Gz, hGz⟩ : ∃ Gz, decide (0 < m.sz) = Gz := ⟨_, rfl⟩
  rw [hGz] at FL5
  have r1 : IntKind.i64.wrap (m.op * 2048) = m.op * 2048 := wrap_in _ (by omega) (by omega)
  have r2 : IntKind.i64.wrap (F1 + m.op * 2048) = F1 + m.op * 2048 := wrap_in _ (by omega) (by omega)
  have r3 : IntKind.i64.wrap (F1 + m.op * 2048 + F2) = F1 + m.op * 2048 + F2 := wrap_in _ (by omega) (by omega)
  have r4 : IntKind.i64.wrap (F1 + m.op * 2048 + F2 + F3) = F1 + m.op * 2048 + F2 + F3 := wrap_in _ (by omega) (by omega)
  have r5 : IntKind.i64.wrap (F1 + m.op * 2048 + F2 + F3 + F4) = F1 + m.op * 2048 + F2 + F3 + F4 := wrap_in _ (by omega) (by omega)
  have r6 : IntKind.i64.wrap (F1 + m.op * 2048 + F2 + F3 + F4 + m.co) = Bt := by rw [wrap_in _ (by omega) (by omega), hbits]
  obtain ⟨LA, hLA⟩ : ∃ LA : Int, ((m.ad.length + optN m.sz : Nat) : Int) = LA := ⟨_, rfl⟩
  have hadl := hM.adl
  have hanl := hM.anl
  have hsvl := hM.svl
  have hql := hM.ql
  have r7 : IntKind.i64.wrap ((m.ad.length : Int) + ((optN m.sz : Nat) : Int)) = LA := by rw [wrap_in _ (by omega) (by omega), ← hLA]; omega
  rw [hLA] at hhead
  have n0 : dNumOk m.id := ⟨by omega, by omega⟩
  have n1 : dNumOk Bt := ⟨by omega, by omega⟩
  have n2 : dNumOk (m.qs.length : Int) := ⟨by omega, by omega⟩
  have n3 : dNumOk (m.an.length : Int) := ⟨by omega, by omega⟩
  have n4 : dNumOk (m.sv.length : Int) := ⟨by omega, by omega⟩
  have n5 : dNumOk LA := ⟨by omega, by omega⟩
  have z0 := two_size m.id
  have z1 := two_size Bt
  have z2 := two_size m.qs.length
  have z3 := two_size m.an.length
  have z4 := two_size m.sv.length
  have z5 := two_size LA
  have y1 : ¬ 9223372036854775807 < (two m.id).size + (two Bt).size := by omega
  have y2 : ¬ 9223372036854775807 < (two m.id).size + (two Bt).size + (two m.qs.length).size := by omega
  have y3 : ¬ 9223372036854775807 < (two m.id).size + (two Bt).size + (two m.qs.length).size + (two m.an.length).size := by omega
  have y4 : ¬ 9223372036854775807 < (two m.id).size + (two Bt).size + (two m.qs.length).size + (two m.an.length).size + (two m.sv.length).size := by omega
  have y5 : ¬ 9223372036854775807 < (two m.id).size + (two Bt).size + (two m.qs.length).size + (two m.an.length).size + (two m.sv.length).size + (two LA).size := by omega
  have HHEAD : Hid (mk (stQ m 0).1 = two m.id ++ two Bt ++ two m.qs.length ++ two m.an.length ++ two m.sv.length ++ two LA) := hhead
  obtain ⟨w0, hw0⟩ : ∃ w0, w.alloc (.cells (cellsM m p) 25) = w0 := ⟨_, rfl⟩
  have hb0 : Below w.heap.size w w0 := by rw [← hw0]; exact (Below.refl _ _).alloc (Nat.le_refl _) _
  have X0 : Hid (BoxM w0 w.heap.size m p) := by
    show BoxM _ _ _ _
    rw [← hw0]; exact BoxM.new w m p
  have B0 : Hid (Below w.heap.size w w0) := hb0
  have hcell : Hid (∀ w', BoxM w' w.heap.size m p → _) := fun w' h => h.all
  have hbel : Hid (∀ w' w'', BoxM w' w.heap.size m p → Below w'.heap.size w' w'' → BoxM w'' w.heap.size m p) := fun w' w'' h1 h2 => h1.below h2
  have HL : Hid (∀ w', Below w.heap.size w w' → MsgLies w' m p) := fun w' h => hl.below h
  have HM : Hid (MayM m) := hM
  have HK : Hid (MsgBulk m 1048576) := hk
  have HW : Hid (writtenM m = (stR m (m.an.length + m.sv.length + m.ad.length)).1 ++ optL m.sz) := hW
  obtain ⟨c0, c1, c2, c3, c4, c5, c6, c7, c8, c9, c10, c11⟩ := hcell.out _ X0.out
  generalize writtenM m = WR at *
  clear hM hk hl hb0 hW hbits hhead hLA f1 f2 f3 f4 f5 f6 f7 f8 o0 o1 o2 o3 o4 o5 z0 z1 z2 z3 z4 z5 hQ0 e5 b5 FLAG
  simp only [mv, cellsM] at *
  obtain ⟨qa, qc, aa, ac, sa, sc, da, dc⟩ := p
  simp only at *
  go_enter Tryz.func17, Tryz.ntmps17
  go_wp2_with fail
  go_quiet ((go_at_call 45; first | exact Calls.quiet_of_same (FL1.out _) | exact Calls.quiet_of_same (FL2.out _) | exact Calls.quiet_of_same (FL3.out _) | exact Calls.quiet_of_same (FL4.out _)))
  clear r1 r2 r3 r4 r5 r6 FL1 FL2 FL3 FL4 c0 c1 c2 c3 c4 c5 c6 c7 c8 c9 c10 c11
  have hX1 : ∀ n, BoxM (w0.drewN n) w.heap.size m ⟨qa, qc, aa, ac, sa, sc, da, dc⟩ := fun n => hbel.out _ _ X0.out (below_drewN (Below.refl _ _) n)
  have hB1 : ∀ n, Below w.heap.size w (w0.drewN n) := fun n => bel_trans B0.out (below_drewN (Below.refl _ _) n)
  go_wp2_with fail
  generalize hq1 : w0.drewN _ = w1
  have X1 : Hid (BoxM w1 w.heap.size m ⟨qa, qc, aa, ac, sa, sc, da, dc⟩) := by
    show BoxM _ _ _ _
    rw [← hq1]; exact hX1 _
  have B1 : Hid (Below w.heap.size w w1) := by
    show Below _ _ _
    rw [← hq1]; exact hB1 _
  clear hq1 hX1 hB1 X0 B0 hw0
  have HS : Hid (∀ w', Below w1.heap.size w1 w' → (w'.cell? ⟨w.heap.size, 0, none⟩ = some (.int .i64 m.id) ∧ w'.cell? ⟨w.heap.size, 7, none⟩ = some (.slice qa m.qs.length qc) ∧ w'.cell? ⟨w.heap.size, 8, none⟩ = some (.slice aa m.an.length ac) ∧ w'.cell? ⟨w.heap.size, 9, none⟩ = some (.slice sa m.sv.length sc) ∧ w'.cell? ⟨w.heap.size, 10, none⟩ = some (.slice da m.ad.length dc) ∧ w'.cell? ⟨w.heap.size, 11, none⟩ = some (.int .i64 m.sz)) ∧ Below w1.heap.size w1 w') := fun w' hb => by
    obtain ⟨c0, _, _, _, _, _, _, c7, c8, c9, c10, c11⟩ := hcell.out _ (hbel.out _ _ X1.out hb)
    exact ⟨⟨c0, c7, c8, c9, c10, c11⟩, hb⟩
  go_region_held3 (fun w' => (w'.cell? ⟨w.heap.size, 0, none⟩ = some (.int .i64 m.id) ∧ w'.cell? ⟨w.heap.size, 7, none⟩ = some (.slice qa m.qs.length qc) ∧ w'.cell? ⟨w.heap.size, 8, none⟩ = some (.slice aa m.an.length ac) ∧ w'.cell? ⟨w.heap.size, 9, none⟩ = some (.slice sa m.sv.length sc) ∧ w'.cell? ⟨w.heap.size, 10, none⟩ = some (.slice da m.ad.length dc) ∧ w'.cell? ⟨w.heap.size, 11, none⟩ = some (.int .i64 m.sz)) ∧ Below w1.heap.size w1 w')
    (first | exact HS.out _ (below_drewN (Below.refl w1.heap.size _) 1) | exact HS.out _ sB)
    (first
      | (go_at_call 46; have tB := (‹_ ∧ Below w1.heap.size w1 _›).2; refine (NUM.out _ _ (by assumption)).mono ?_; rintro e wN ⟨rfl, hbN⟩; have sB := bel_trans tB hbN; clear tB hbN)
      | (go_at_call 45; have sB := (‹_ ∧ Below w1.heap.size w1 _›).2; refine (FL5.out _).mono ?_; rintro e wN ⟨rfl, rfl⟩))
  have sF := (‹_ ∧ Below w1.heap.size w1 _›).2
  have B2 : Hid (Below w.heap.size w wN) := bel_trans B1.out sF
  have X2 : Hid (BoxM wN w.heap.size m ⟨qa, qc, aa, ac, sa, sc, da, dc⟩) := hbel.out _ _ X1.out sF
  rw [← HHEAD.out]
  clear sF HS B1 X1 r7 y1 y2 y3 y4 y5 n0 n1 n2 n3 n4 n5 HHEAD FL5
  obtain ⟨c0, c1, c2, c3, c4, c5, c6, c7, c8, c9, c10, c11⟩ := hcell.out _ X2.out
  go_wp2_with fail
  clear c0 c1 c2 c3 c4 c5 c6 c7 c8 c9 c10 c11
  go_loopw [4, 5, 6] (fun sv kv iv wr => ∃ (j : Nat) (ka : Option Addr) (kc : Nat), j ≤ m.qs.length ∧ iv = .int .i64 j ∧ sv = .string (mk (stQ m j).1) ∧ kv = .slice ka (stQ m j).2.length kc ∧ Hid (KnLies wr ka (stQ m j).2) ∧ Hid (Below w.heap.size w wr) ∧ Hid (BoxM wr w.heap.size m ⟨qa, qc, aa, ac, sa, sc, da, dc⟩)) (fun _ _ iv _ => m.qs.length - (intOf iv).toNat)
  case atStart => exact ⟨0, none, 0, Nat.zero_le _, rfl, rfl, rfl, .inl rfl, B2, X2⟩
  case round =>
    obtain ⟨j, ka, kc, hj, rfl, rfl, rfl, hK, B, X⟩ := hrel
    obtain ⟨c0, c1, c2, c3, c4, c5, c6, c7, c8, c9, c10, c11⟩ := hcell.out _ X.out
    by_cases hlt : j < m.qs.length
    · obtain ⟨q, hq⟩ : ∃ q, m.qs[j]? = some q := ⟨m.qs[j], List.getElem?_eq_getElem hlt⟩
      have hs := stQ_ok HM.out j
      have hmq : mayQ q = true := HM.out.qs q (List.mem_of_getElem? hq)
      simp only [mayQ, Bool.and_eq_true, upB, decide_eq_true_eq] at hmq
      obtain ⟨hqn, hq0, hq1⟩ := hmq
      obtain ⟨x, rfl, hrec⟩ : ∃ x, qa = some x ∧ QnFrom wr (x.add (j * 2)) q := by
        rcases (HL.out _ B.out).q with h | ⟨x, h0, h⟩
        · rw [h] at hq; simp at hq
        · exact ⟨x, h0, h j q hq⟩
      have HP : Hid (∀ w', KnLies w' ka (stQ m j).2 → _) := fun w' hk => rput_c ((stQ m j).1.length : Nat) ka kc (stQ m j).2 q.n w' (HK.out.q q (List.mem_of_getElem? hq)) (by have := hs.kl; omega) hs.short hk (hs.mayPut hqn)
      have hnl := putS_len (stQ m j).2 (labsL (bs q.n)) (fun x hx => labsL_ok hx)
      have hn8 := labsL_len (bs q.n)
      have HN2 : Hid (∀ w, _) := fun w => NUM.out q.ty w ⟨hq0, by omega⟩
      have HN1 : Hid (∀ w, _) := fun w => NUM.out 1 w ⟨by omega, by omega⟩
      have HT : Hid (mk (stQ m (j + 1)).1 = mk (stQ m j).1 ++ mk (putS (stQ m j).2 (labsL (bs q.n))) ++ two q.ty ++ two 1) := by
        show _ = _
        rw [stQ_next hq]; exact ques_is _ _
      have HKS : Hid ((stQ m (j + 1)).2 = (stQ m j).2 ++ putN (stQ m j).2 ((stQ m j).1.length : Nat) (labsL (bs q.n))) := by
        show _ = _
        rw [stQ_next hq]; rfl
      have z1 : (mk (stQ m j).1).size = (stQ m j).1.length := size_mk _
      have z2 : (mk (putS (stQ m j).2 (labsL (bs q.n)))).size ≤ 1000 := by rw [size_mk]; omega
      have z3 := two_size q.ty
      have z4 := two_size 1
      have z5 := hs.len
      have HR : Hid (∀ w', Below wr.heap.size wr w' → QnFrom w' (x.add (j * 2)) q) := fun w' hb => hrec.keep (hb.block _ hrec.lt)
      generalize mk (putS (stQ m j).2 (labsL (bs q.n))) = NM at *
      generalize (stQ m j).2 ++ putN (stQ m j).2 ((stQ m j).1.length : Nat) (labsL (bs q.n)) = k2 at *
      generalize mk (stQ m j).1 = T at *
      generalize (stQ m j).1.length = L at *
      generalize (stQ m j).2 = ks at *
      obtain ⟨qn, qt⟩ := q
      obtain ⟨h0, h1⟩ := hrec
      simp only at h0 h1 HP HN2 HT z3
      have y1 : ¬ 9223372036854775807 < T.size + NM.size := by omega
      have y2 : ¬ 9223372036854775807 < T.size + NM.size + (two qt).size := by omega
      have y3 : ¬ 9223372036854775807 < T.size + NM.size + (two qt).size + (two 1).size := by omega
      clear hnl hn8 hqn hq0 hq1 hs hq z2 z3 z4 z5
      go_wp2_with fail
      refine (HP.out _ hK.out).mono ?_; rintro e w3 ⟨⟨v3, rfl, hkn⟩, hb3⟩
      obtain ⟨ka3, kc3, rfl, hk3⟩ := hkn.lies
      have K3 : Hid (KnLies w3 ka3 k2) := hk3
      have B3 : Hid (Below w.heap.size w w3) := bel_trans B.out hb3
      have X3 : Hid (BoxM w3 w.heap.size m ⟨some x, qc, aa, ac, sa, sc, da, dc⟩) := hbel.out _ _ X.out hb3
      obtain ⟨h0, h1⟩ := HR.out _ hb3
      simp only at h0 h1
      clear c0 c1 c2 c3 c4 c5 c6 c7 c8 c9 c10 c11 hkn hk3 hK B X HP
      obtain ⟨c0, c1, c2, c3, c4, c5, c6, c7, c8, c9, c10, c11⟩ := hcell.out _ X3.out
      clear hb3
      go_wp2_with fail
      refine (HN2.out _).mono ?_; rintro e w4 ⟨rfl, hb4⟩
      have K4 : Hid (KnLies w4 ka3 k2) := K3.out.below hb4
      have B4 : Hid (Below w.heap.size w w4) := bel_trans B3.out hb4
      have X4 : Hid (BoxM w4 w.heap.size m ⟨some x, qc, aa, ac, sa, sc, da, dc⟩) := hbel.out _ _ X3.out hb4
      clear hb4 K3 B3 X3 c0 c1 c2 c3 c4 c5 c6 c7 c8 c9 c10 c11 HN2
      go_wp2_with fail
      refine (HN1.out _).mono ?_; rintro e w5 ⟨rfl, hb5⟩
      have K5 : Hid (KnLies w5 ka3 k2) := K4.out.below hb5
      have B5 : Hid (Below w.heap.size w w5) := bel_trans B4.out hb5
      have X5 : Hid (BoxM w5 w.heap.size m ⟨some x, qc, aa, ac, sa, sc, da, dc⟩) := hbel.out _ _ X4.out hb5
      clear hb5 K4 B4 X4 HN1 h0 h1
      go_wp2
      go_roundw
      case rel =>
        refine ⟨j + 1, ka3, kc3, by omega, by go_num, ?_, ?_, ?_, B5, X5⟩
        · rw [HT.out]
        · rw [HKS.out]
        · show KnLies _ _ _
          rw [HKS.out]; exact K5.out
      case measure => simp [intOf]; omega
    · obtain rfl : j = m.qs.length := by omega
      rename World => wb
      have L0 : Hid (MsgLies wb m ⟨qa, qc, aa, ac, sa, sc, da, dc⟩) := HL.out _ B.out
      clear hj hlt
      go_upto_region 10 with fail
      go_cut [10] from 103 to 106 (fun v wx => Hid (Recs wx wb.heap.size v (m.an)) ∧ Hid (Below wb.heap.size wb wx))
      case first =>
        obtain ⟨c0, c1, c2, c3, c4, c5, c6, c7, c8, c9, c10, c11⟩ := hcell.out _ (hbel.out _ _ X.out ((Below.refl _ _).alloc (Nat.le_refl _) (.cells #[] 82)))
        obtain ⟨i0, hi, hz0, hz1, hz2⟩ := info_parts Tryz.infoRR
        rcases L0.out.a with hnil | ⟨x, hx, hf⟩
        · have hn0 : m.an.length = 0 := by rw [hnil]; rfl
          have Hnil : Hid (m.an = []) := hnil
          clear hnil
          cases aa with
          | none =>
            rw [hn0] at c8
            clear hn0
            go_wp2_with (first
              | (at_builtin; refine wpList_append_none rfl _ _ 23 rfl wb.heap.size 82 i0 7 Tryz.underlying23 hi _ 0 [] ac rfl (recs_empty wb) rfl ?_)
              | fail)
            go_meet
            refine ⟨?_, (Below.refl _ _).alloc (Nat.le_refl _) _⟩
            show Recs _ _ _ _
            rw [Hnil.out]; exact recs_empty wb
          | some y =>
            clear hn0
            go_wp2_with (first
              | (at_builtin; refine wpList_append_own _ rfl _ _ 23 rfl wb.heap.size 82 i0 (.agg #[.string ByteArray.empty, .int .i64 0, .int .i64 0, .int .i64 0, .string ByteArray.empty, .string ByteArray.empty, .int .i64 0]) 7 80 Tryz.underlying23 hi hz0 hz1 hz2 rfl (by decide) _ 0 [] rfl (recs_empty wb) y m.an.length ac (m.an.flatMap cellsR) rfl (cellsR_len m.an) (fun j u hj => by rw [Hnil.out] at hj; simp at hj) (cellsR_one m.an) ?c3 ?c4 ?c5 ?_)
              | fail)
            case c3 => unfold maxLen; (try simp only [List.length_append]); omega
            case c4 => (try simp only [List.length_append]); omega
            case c5 => simp
            intro v' w3 hown' hgrow _
            go_wp2_with fail
            go_meet
            refine ⟨?_, ?_⟩
            · show Recs _ _ _ _
              simpa [Recs, Nat.add_assoc] using hown'
            · show Below _ _ _
              exact ((Below.refl _ _).alloc (Nat.le_refl _) _).grown hgrow (by simp) (fun k hk => by cases hk; exact Nat.le_refl _)
        · subst hx
          go_wp2_with (first
            | (at_builtin; refine wpList_append_own _ rfl _ _ 23 rfl wb.heap.size 82 i0 (.agg #[.string ByteArray.empty, .int .i64 0, .int .i64 0, .int .i64 0, .string ByteArray.empty, .string ByteArray.empty, .int .i64 0]) 7 80 Tryz.underlying23 hi hz0 hz1 hz2 rfl (by decide) _ 0 [] rfl (recs_empty wb) x m.an.length ac (m.an.flatMap cellsR) rfl (cellsR_len m.an) (fun j u hj => (((Below.refl wb.heap.size wb).alloc (Nat.le_refl _) _).cell (World.block_lt_of_cell? _ _ (rcells_of_from hf j u hj))).trans (rcells_of_from hf j u hj)) (cellsR_one m.an) ?c3 ?c4 ?c5 ?_)
            | fail)
          case c3 => unfold maxLen; (try simp only [List.length_append]); omega
          case c4 => (try simp only [List.length_append]); omega
          case c5 => simp
          intro v' w3 hown' hgrow _
          go_wp2_with fail
          go_meet
          refine ⟨?_, ?_⟩
          · show Recs _ _ _ _
            simpa [Recs, Nat.add_assoc] using hown'
          · show Below _ _ _
            exact ((Below.refl _ _).alloc (Nat.le_refl _) _).grown hgrow (by simp) (fun k hk => by cases hk; exact Nat.le_refl _)
      case rest =>
      clear c0 c1 c2 c3 c4 c5 c6 c7 c8 c9 c10 c11
      obtain ⟨R1, E1⟩ := hcut
      obtain ⟨a1, d1, rfl⟩ := row_form R1.out
      rename World => wc
      have X1 : Hid (BoxM wc w.heap.size m ⟨qa, qc, aa, ac, sa, sc, da, dc⟩) := hbel.out _ _ X.out E1.out
      have L1 : Hid (MsgLies wc m ⟨qa, qc, aa, ac, sa, sc, da, dc⟩) := L0.out.below E1.out
      have le1 := E1.out.size
      go_upto_region 11 with fail
      go_cut [10] from 107 to 110 (fun v wx => Hid (Recs wx wb.heap.size v (m.an ++ m.sv)) ∧ Hid (Below wb.heap.size wb wx))
      case first =>
        obtain ⟨c0, c1, c2, c3, c4, c5, c6, c7, c8, c9, c10, c11⟩ := hcell.out _ (X1.out)
        obtain ⟨i0, hi, hz0, hz1, hz2⟩ := info_parts Tryz.infoRR
        rcases L1.out.s with hnil | ⟨x, hx, hf⟩
        · have hn0 : m.sv.length = 0 := by rw [hnil]; rfl
          have Hnil : Hid (m.sv = []) := hnil
          clear hnil
          cases sa with
          | none =>
            rw [hn0] at c9
            clear hn0
            go_wp2_with (first
              | (at_builtin; refine wpList_append_none rfl _ _ 23 rfl wb.heap.size 82 i0 7 Tryz.underlying23 hi _ (m.an).length ((m.an).flatMap cellsR) sc rfl (R1.out) rfl ?_)
              | fail)
            go_meet
            refine ⟨?_, E1⟩
            show Recs _ _ _ _
            rw [Hnil.out, List.append_nil]; exact R1.out
          | some y =>
            clear hn0
            go_wp2_with (first
              | (at_builtin; refine wpList_append_own _ rfl _ _ 23 rfl wb.heap.size 82 i0 (.agg #[.string ByteArray.empty, .int .i64 0, .int .i64 0, .int .i64 0, .string ByteArray.empty, .string ByteArray.empty, .int .i64 0]) 7 80 Tryz.underlying23 hi hz0 hz1 hz2 rfl (by decide) _ (m.an).length ((m.an).flatMap cellsR) rfl (R1.out) y m.sv.length sc (m.sv.flatMap cellsR) rfl (cellsR_len m.sv) (fun j u hj => by rw [Hnil.out] at hj; simp at hj) (cellsR_one m.sv) ?c3 ?c4 ?c5 ?_)
              | fail)
            case c3 => unfold maxLen; (try simp only [List.length_append]); omega
            case c4 => (try simp only [List.length_append]); omega
            case c5 => exact le1
            intro v' w3 hown' hgrow _
            go_wp2_with fail
            go_meet
            refine ⟨?_, ?_⟩
            · show Recs _ _ _ _
              simpa [Recs, Nat.add_assoc] using hown'
            · show Below _ _ _
              exact E1.out.grown hgrow le1 (fun k hk => (World.ownsRow.lt R1.out k (by simpa using hk)).1)
        · subst hx
          go_wp2_with (first
            | (at_builtin; refine wpList_append_own _ rfl _ _ 23 rfl wb.heap.size 82 i0 (.agg #[.string ByteArray.empty, .int .i64 0, .int .i64 0, .int .i64 0, .string ByteArray.empty, .string ByteArray.empty, .int .i64 0]) 7 80 Tryz.underlying23 hi hz0 hz1 hz2 rfl (by decide) _ (m.an).length ((m.an).flatMap cellsR) rfl (R1.out) x m.sv.length sc (m.sv.flatMap cellsR) rfl (cellsR_len m.sv) (rcells_of_from hf) (cellsR_one m.sv) ?c3 ?c4 ?c5 ?_)
            | fail)
          case c3 => unfold maxLen; (try simp only [List.length_append]); omega
          case c4 => (try simp only [List.length_append]); omega
          case c5 => exact le1
          intro v' w3 hown' hgrow _
          go_wp2_with fail
          go_meet
          refine ⟨?_, ?_⟩
          · show Recs _ _ _ _
            simpa [Recs, Nat.add_assoc] using hown'
          · show Below _ _ _
            exact E1.out.grown hgrow le1 (fun k hk => (World.ownsRow.lt R1.out k (by simpa using hk)).1)
      case rest =>
      obtain ⟨R2, E2⟩ := hcut
      obtain ⟨a2, d2, rfl⟩ := row_form R2.out
      rename World => wd
      have X2 : Hid (BoxM wd w.heap.size m ⟨qa, qc, aa, ac, sa, sc, da, dc⟩) := hbel.out _ _ X.out E2.out
      have L2 : Hid (MsgLies wd m ⟨qa, qc, aa, ac, sa, sc, da, dc⟩) := L0.out.below E2.out
      have le2 := E2.out.size
      clear R1 E1 X1 L1 le1
      obtain ⟨AS, hAS⟩ : ∃ AS, m.an ++ m.sv = AS := ⟨_, rfl⟩
      have hasl : AS.length ≤ 64 := by rw [← hAS, List.length_append]; omega
      rw [hAS] at R2 ⊢
      have HAS : Hid (m.an ++ m.sv = AS) := hAS
      clear hAS
      go_upto_region 12 with fail
      go_cut [10] from 111 to 114 (fun v wx => Hid (Recs wx wb.heap.size v (AS ++ m.ad)) ∧ Hid (Below wb.heap.size wb wx))
      case first =>
        obtain ⟨c0, c1, c2, c3, c4, c5, c6, c7, c8, c9, c10, c11⟩ := hcell.out _ (X2.out)
        obtain ⟨i0, hi, hz0, hz1, hz2⟩ := info_parts Tryz.infoRR
        rcases L2.out.d with hnil | ⟨x, hx, hf⟩
        · have hn0 : m.ad.length = 0 := by rw [hnil]; rfl
          have Hnil : Hid (m.ad = []) := hnil
          clear hnil
          cases da with
          | none =>
            rw [hn0] at c10
            clear hn0
            go_wp2_with (first
              | (at_builtin; refine wpList_append_none rfl _ _ 23 rfl wb.heap.size 82 i0 7 Tryz.underlying23 hi _ (AS).length ((AS).flatMap cellsR) dc rfl (R2.out) rfl ?_)
              | fail)
            go_meet
            refine ⟨?_, E2⟩
            show Recs _ _ _ _
            rw [Hnil.out, List.append_nil]; exact R2.out
          | some y =>
            clear hn0
            go_wp2_with (first
              | (at_builtin; refine wpList_append_own _ rfl _ _ 23 rfl wb.heap.size 82 i0 (.agg #[.string ByteArray.empty, .int .i64 0, .int .i64 0, .int .i64 0, .string ByteArray.empty, .string ByteArray.empty, .int .i64 0]) 7 80 Tryz.underlying23 hi hz0 hz1 hz2 rfl (by decide) _ (AS).length ((AS).flatMap cellsR) rfl (R2.out) y m.ad.length dc (m.ad.flatMap cellsR) rfl (cellsR_len m.ad) (fun j u hj => by rw [Hnil.out] at hj; simp at hj) (cellsR_one m.ad) ?c3 ?c4 ?c5 ?_)
              | fail)
            case c3 => unfold maxLen; (try simp only [List.length_append]); omega
            case c4 => (try simp only [List.length_append]); omega
            case c5 => exact le2
            intro v' w3 hown' hgrow _
            go_wp2_with fail
            go_meet
            refine ⟨?_, ?_⟩
            · show Recs _ _ _ _
              simpa [Recs, Nat.add_assoc] using hown'
            · show Below _ _ _
              exact E2.out.grown hgrow le2 (fun k hk => (World.ownsRow.lt R2.out k (by simpa using hk)).1)
        · subst hx
          go_wp2_with (first
            | (at_builtin; refine wpList_append_own _ rfl _ _ 23 rfl wb.heap.size 82 i0 (.agg #[.string ByteArray.empty, .int .i64 0, .int .i64 0, .int .i64 0, .string ByteArray.empty, .string ByteArray.empty, .int .i64 0]) 7 80 Tryz.underlying23 hi hz0 hz1 hz2 rfl (by decide) _ (AS).length ((AS).flatMap cellsR) rfl (R2.out) x m.ad.length dc (m.ad.flatMap cellsR) rfl (cellsR_len m.ad) (rcells_of_from hf) (cellsR_one m.ad) ?c3 ?c4 ?c5 ?_)
            | fail)
          case c3 => unfold maxLen; (try simp only [List.length_append]); omega
          case c4 => (try simp only [List.length_append]); omega
          case c5 => exact le2
          intro v' w3 hown' hgrow _
          go_wp2_with fail
          go_meet
          refine ⟨?_, ?_⟩
          · show Recs _ _ _ _
            simpa [Recs, Nat.add_assoc] using hown'
          · show Below _ _ _
            exact E2.out.grown hgrow le2 (fun k hk => (World.ownsRow.lt R2.out k (by simpa using hk)).1)
      case rest =>
      obtain ⟨R3, E3⟩ := hcut
      obtain ⟨a3, d3, rfl⟩ := row_form R3.out
      rw [← HAS.out] at R3 ⊢
      rename World => we
      have X3 : Hid (BoxM we w.heap.size m ⟨qa, qc, aa, ac, sa, sc, da, dc⟩) := hbel.out _ _ X.out E3.out
      have K3 : Hid (KnLies we ka (stQ m m.qs.length).2) := hK.out.below E3.out
      have B3 : Hid (Below w.heap.size w we) := bel_trans B.out E3.out
      clear R2 E2 X2 L2 le2 L0 X B hK
      have e0 : stR m 0 = stQ m m.qs.length := by rw [stR_zero, stQ_len]
      have hlen3 : (m.an ++ m.sv ++ m.ad).length = m.an.length + m.sv.length + m.ad.length := by simp only [List.length_append]
      have HEND : Hid (WR = (stR m (m.an ++ m.sv ++ m.ad).length).1 ++ optL m.sz) := by
        show _ = _
        rw [HW.out, hlen3]
      have HNX : Hid (∀ j r, (m.an ++ m.sv ++ m.ad)[j]? = some r → stR m (j + 1) = putR1 (stR m j) r) := fun j r h => stR_next h
      have HMR : Hid (∀ j r, (m.an ++ m.sv ++ m.ad)[j]? = some r → mayR r = true ∧ r.n.size ≤ 1048576 ∧ r.tg.size ≤ 1048576) := fun j r h => by
        have hm := List.mem_of_getElem? h
        refine ⟨mem_all HM.out hm, ?_⟩
        rcases List.mem_append.1 hm with hm | hm
        · rcases List.mem_append.1 hm with hm | hm
          · have := HK.out.a r hm; omega
          · have := HK.out.s r hm; omega
        · have := HK.out.d r hm; omega
      have hl96 : (m.an ++ m.sv ++ m.ad).length ≤ 96 := by rw [hlen3]; omega
      rw [← e0] at K3 ⊢
      obtain ⟨ALL, hALL⟩ : ∃ ALL, m.an ++ m.sv ++ m.ad = ALL := ⟨_, rfl⟩
      rw [hALL] at R3 HEND HNX HMR hl96 ⊢
      clear hALL hlen3 e0 HW
      go_wp2_with fail
      go_loopw [4, 5, 11] (fun sv kv iv wr => ∃ (j : Nat) (ka : Option Addr) (kc : Nat), j ≤ ALL.length ∧ iv = .int .i64 j ∧ sv = .string (mk (stR m j).1) ∧ kv = .slice ka (stR m j).2.length kc ∧ Hid (KnLies wr ka (stR m j).2) ∧ Hid (Below w.heap.size w wr) ∧ Hid (BoxM wr w.heap.size m ⟨qa, qc, aa, ac, sa, sc, da, dc⟩) ∧ Hid (Recs wr wb.heap.size (.slice a3 ALL.length d3) ALL)) (fun _ _ iv _ => ALL.length - (intOf iv).toNat)
      case atStart => exact ⟨0, ka, kc, Nat.zero_le _, rfl, rfl, rfl, K3, B3, X3, R3⟩
      case round =>
        clear K3 B3 X3 R3
        obtain ⟨j, ka, kc, hj, rfl, rfl, rfl, hK, B, X, R⟩ := hrel
        by_cases hlt : j < ALL.length
        · obtain ⟨r, hr⟩ : ∃ r, ALL[j]? = some r := ⟨ALL[j], List.getElem?_eq_getElem hlt⟩
          have hs := stR_ok HM.out j
          obtain ⟨hmr, hrn, hrt⟩ := HMR.out j r hr
          obtain ⟨P, ks2, hp, hput⟩ := putR1_of hs hmr
          obtain ⟨x, rfl, hrec⟩ := recs_rec R.out hr
          have HP : Hid (∀ w', KnLies w' ka (stR m j).2 → Calls Tryz.prog 48 #[.int .i64 ((stR m j).1.length : Nat), .slice ka (stR m j).2.length kc, rv r] w' fun e w'' => (∃ v, e = .returned (.tuple #[.string (mk P), v, .int .i64 0]) ∧ Knowns w'' w'.heap.size v ks2) ∧ Below w'.heap.size w' w'') := fun w' hk => by
            have := refPut_c ((stR m j).1.length : Nat) ka kc (stR m j).2 r w' hrn hrt (by have := hs.kl; omega) hs.short hk
            rw [hp] at this
            exact this
          have HT : Hid (mk (stR m (j + 1)).1 = mk (stR m j).1 ++ mk P) := by
            show _ = _
            rw [HNX.out j r hr, hput, mk_append]
          have HKS : Hid ((stR m (j + 1)).2 = ks2) := by
            show _ = _
            rw [HNX.out j r hr, hput]
          have z1 : (mk (stR m j).1).size = (stR m j).1.length := size_mk _
          have z2 : (mk P).size ≤ 500 := by rw [size_mk]; exact (putL_len hp).2.1
          have z3 := hs.len
          generalize mk P = PM at *
          generalize mk (stR m j).1 = T at *
          generalize (stR m j).1.length = L at *
          generalize (stR m j).2 = ks at *
          obtain ⟨rn, rty, rttl, rad, rtg, rtx, rse⟩ := r
          obtain ⟨h0, h1, h2, h3, h4, h5, h6⟩ := hrec
          simp only [rv] at h0 h1 h2 h3 h4 h5 h6 HP
          have y1 : ¬ 9223372036854775807 < T.size + PM.size := by omega
          clear hmr hrn hrt hp hput hs hr z2 z3
          go_wp2_with fail
          refine (HP.out _ hK.out).mono ?_; rintro e w3 ⟨⟨v3, rfl, hkn⟩, hb3⟩
          obtain ⟨ka3, kc3, rfl, hk3⟩ := hkn.lies
          have K4 : Hid (KnLies w3 ka3 ks2) := hk3
          have B4 : Hid (Below w.heap.size w w3) := bel_trans B.out hb3
          have X4 : Hid (BoxM w3 w.heap.size m ⟨qa, qc, aa, ac, sa, sc, da, dc⟩) := hbel.out _ _ X.out hb3
          have R4 : Hid (Recs w3 wb.heap.size (.slice (some x) ALL.length d3) ALL) := row_below R.out hb3
          clear hb3 hkn hk3 h0 h1 h2 h3 h4 h5 h6 X B R hK HP
          go_wp2
          go_roundw
          case rel =>
            refine ⟨j + 1, ka3, kc3, by omega, by go_num, ?_, ?_, ?_, B4, X4, R4⟩
            · rw [HT.out]
            · rw [HKS.out]
            · show KnLies _ _ _
              rw [HKS.out]; exact K4.out
          case measure => simp [intOf]; omega
        · obtain rfl : j = ALL.length := by omega
          obtain ⟨c0, c1, c2, c3, c4, c5, c6, c7, c8, c9, c10, c11⟩ := hcell.out _ X.out
          have hs := stR_ok HM.out ALL.length
          have z1 : (mk (stR m ALL.length).1).size ≤ 59000 := by rw [size_mk]; exact hs.len
          have ho : ∀ z : Int, ¬ 0 < z → optL z = [] := fun z h => by unfold optL; rw [if_neg h]
          cases Gz
          · have HZ : Hid (WR = (stR m ALL.length).1) := by
              show _ = _
              rw [HEND.out, ho m.sz (by simpa using hGz), List.append_nil]
            clear hs ho hK R
            go_wp2_with fail
            go_ret
            exact ⟨by rw [HZ.out]; rfl, B.out⟩
          · have hz : 0 < m.sz := by simpa using hGz
            obtain ⟨G, hG⟩ : ∃ G : Int → Int → ByteArray, ∀ x k, G x k = be x k.toNat := ⟨fun x k => be x k.toNat, fun _ _ => rfl⟩
            have NUMG : Hid (∀ (x k : Int) (w : World), dNumOk x → (k = 2 ∨ k = 4) → Calls Tryz.prog 46 #[.int .i64 x, .int .i64 k] w fun e w' => e = .returned (.string (G x k)) ∧ Below w.heap.size w w') := fun x k w hx hk => by
              rw [hG]
              have := refNum x k.toNat w hx.1 (by have := hx.2; omega) (by omega)
              rwa [Int.toNat_of_nonneg (by omega)] at this
            have HZ : Hid (mk WR = mk (stR m ALL.length).1 ++ ⟨#[0]⟩ ++ G 41 2 ++ G m.sz 2 ++ G 0 4 ++ G 0 2) := by
              show _ = _
              rw [HEND.out, opt_is _ hz]
              simp only [hG]
              rfl
            have hsz := HM.out.sz
            have n1 : dNumOk 41 := ⟨by omega, by omega⟩
            have n2 : dNumOk m.sz := ⟨by omega, by omega⟩
            have n3 : dNumOk 0 := ⟨by omega, by omega⟩
            have q1 : (G 41 2).size = 2 := by rw [hG]; exact size_be _ _
            have q2 : (G m.sz 2).size = 2 := by rw [hG]; exact size_be _ _
            have q3 : (G 0 2).size = 2 := by rw [hG]; exact size_be _ _
            have q4 : (G 0 4).size = 4 := by rw [hG]; exact size_be _ _
            generalize mk (stR m ALL.length).1 = T at *
            have y0 : ¬ 9223372036854775807 < T.size + 1 := by omega
            have y1 : ¬ 9223372036854775807 < T.size + 1 + (G 41 2).size := by omega
            have y2 : ¬ 9223372036854775807 < T.size + 1 + (G 41 2).size + (G m.sz 2).size := by omega
            have y3 : ¬ 9223372036854775807 < T.size + 1 + (G 41 2).size + (G m.sz 2).size + (G 0 4).size := by omega
            have y4 : ¬ 9223372036854775807 < T.size + 1 + (G 41 2).size + (G m.sz 2).size + (G 0 4).size + (G 0 2).size := by omega
            have HS : Hid (∀ w', Below wr.heap.size wr w' → w'.cell? ⟨w.heap.size, 11, none⟩ = some (.int .i64 m.sz) ∧ Below wr.heap.size wr w') := fun w' hb => by
              obtain ⟨_, _, _, _, _, _, _, _, _, _, _, c11⟩ := hcell.out _ (hbel.out _ _ X.out hb)
              exact ⟨c11, hb⟩
            clear hG NUM NUM4 hs ho hK R q1 q2 q3 q4  hsz hz z1
            go_upto_region 20 with fail
            clear c0 c1 c2 c3 c4 c5 c6 c7 c8 c9 c10 c11
            go_region_held3 (fun w' => w'.cell? ⟨w.heap.size, 11, none⟩ = some (.int .i64 m.sz) ∧ Below wr.heap.size wr w')
              (first | exact HS.out _ (below_drewN (Below.refl wr.heap.size _) 1) | exact HS.out _ sB)
              (first
                | (go_at_call 46; have tB := (‹_ ∧ Below wr.heap.size wr _›).2; refine (NUMG.out _ _ _ (by assumption) (by decide)).mono ?_; rintro e wN ⟨rfl, hbN⟩; have sB := bel_trans tB hbN; clear tB hbN))
            have sF := (‹_ ∧ Below wr.heap.size wr _›).2
            have B9 : Hid (Below w.heap.size w wN) := bel_trans B.out sF
            rw [← HZ.out]
            clear sF HS
            go_wp2_with fail
            go_ret
            exact ⟨rfl, B9.out⟩
end Go.Proofs.YtdmooggmoihggaaGreatDoor
