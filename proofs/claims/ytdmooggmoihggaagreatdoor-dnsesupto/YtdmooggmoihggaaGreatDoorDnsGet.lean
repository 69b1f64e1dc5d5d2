/-
  Contracts of package dns's message and Get, at every text.
-/
import Derived.Test.YtdmooggmoihggaaGreatDoorDnsRows
import Derived.Test.YtdmooggmoihggaaGreatDoorDnsAsk
import Derived.Test.YtdmooggmoihggaaGreatDoorBDns
import Derived.Deep.MidRow
namespace Go.Proofs.YtdmooggmoihggaaGreatDoor
set_option maxRecDepth 100000
open Go.ChangeShapes Go.WideShapes Go.ChangeAt Go.RowKit Go.Pin Go.PlainAid

def nilP : Pl := ⟨none, 0, none, 0, none, 0, none, 0⟩
/-- From w to w' nothing turned but block b and what is new. -/
structure TurnB (b : Nat) (w w' : World) : Prop where
  bel : Below b w w'
  oth : ∀ c, c ≠ b → c < w.heap.size → w'.heap[c]? = w.heap[c]?
/-- All cells of a message stored into block r. -/
def layM (w : World) (r : Nat) (M : Msg) (P : Pl) : World := ((((((((((((w).setCell ⟨r, 0, none⟩ (.int .i64 M.id)).setCell ⟨r, 1, none⟩ (.bool M.rsp)).setCell ⟨r, 2, none⟩ (.int .i64 M.op)).setCell ⟨r, 3, none⟩ (.bool M.au)).setCell ⟨r, 4, none⟩ (.bool M.tr)).setCell ⟨r, 5, none⟩ (.bool M.re)).setCell ⟨r, 6, none⟩ (.int .i64 M.co)).setCell ⟨r, 7, none⟩ (.slice P.qa M.qs.length P.qc)).setCell ⟨r, 8, none⟩ (.slice P.aa M.an.length P.ac)).setCell ⟨r, 9, none⟩ (.slice P.sa M.sv.length P.sc)).setCell ⟨r, 10, none⟩ (.slice P.da M.ad.length P.dc)).setCell ⟨r, 11, none⟩ (.int .i64 M.sz)
theorem layM_box {w : World} {r : Nat} {m : Msg} {p : Pl} (h : BoxM w r m p) (M : Msg) (P : Pl) : BoxM (layM w r M P) r M P := by
  unfold layM
  have h1 := (h).set (m' := { m with id := M.id }) (p' := p) 0 (.int .i64 M.id) rfl
  have h2 := (h1).set (m' := { m with id := M.id, rsp := M.rsp }) (p' := p) 1 (.bool M.rsp) rfl
  have h3 := (h2).set (m' := { m with id := M.id, rsp := M.rsp, op := M.op }) (p' := p) 2 (.int .i64 M.op) rfl
  have h4 := (h3).set (m' := { m with id := M.id, rsp := M.rsp, op := M.op, au := M.au }) (p' := p) 3 (.bool M.au) rfl
  have h5 := (h4).set (m' := { m with id := M.id, rsp := M.rsp, op := M.op, au := M.au, tr := M.tr }) (p' := p) 4 (.bool M.tr) rfl
  have h6 := (h5).set (m' := { m with id := M.id, rsp := M.rsp, op := M.op, au := M.au, tr := M.tr, re := M.re }) (p' := p) 5 (.bool M.re) rfl
  have h7 := (h6).set (m' := { m with id := M.id, rsp := M.rsp, op := M.op, au := M.au, tr := M.tr, re := M.re, co := M.co }) (p' := p) 6 (.int .i64 M.co) rfl
  have h8 := (h7).set (m' := { m with id := M.id, rsp := M.rsp, op := M.op, au := M.au, tr := M.tr, re := M.re, co := M.co, qs := M.qs }) (p' := { p with qa := P.qa, qc := P.qc }) 7 (.slice P.qa M.qs.length P.qc) rfl
  have h9 := (h8).set (m' := { m with id := M.id, rsp := M.rsp, op := M.op, au := M.au, tr := M.tr, re := M.re, co := M.co, qs := M.qs, an := M.an }) (p' := { p with qa := P.qa, qc := P.qc, aa := P.aa, ac := P.ac }) 8 (.slice P.aa M.an.length P.ac) rfl
  have h10 := (h9).set (m' := { m with id := M.id, rsp := M.rsp, op := M.op, au := M.au, tr := M.tr, re := M.re, co := M.co, qs := M.qs, an := M.an, sv := M.sv }) (p' := { p with qa := P.qa, qc := P.qc, aa := P.aa, ac := P.ac, sa := P.sa, sc := P.sc }) 9 (.slice P.sa M.sv.length P.sc) rfl
  have h11 := (h10).set (m' := { m with id := M.id, rsp := M.rsp, op := M.op, au := M.au, tr := M.tr, re := M.re, co := M.co, qs := M.qs, an := M.an, sv := M.sv, ad := M.ad }) (p' := { p with qa := P.qa, qc := P.qc, aa := P.aa, ac := P.ac, sa := P.sa, sc := P.sc, da := P.da, dc := P.dc }) 10 (.slice P.da M.ad.length P.dc) rfl
  have h12 := (h11).set (m' := { m with id := M.id, rsp := M.rsp, op := M.op, au := M.au, tr := M.tr, re := M.re, co := M.co, qs := M.qs, an := M.an, sv := M.sv, ad := M.ad, sz := M.sz }) (p' := { p with qa := P.qa, qc := P.qc, aa := P.aa, ac := P.ac, sa := P.sa, sc := P.sc, da := P.da, dc := P.dc }) 11 (.int .i64 M.sz) rfl
  exact h12
theorem layM_other (w : World) (r k : Nat) (M : Msg) (P : Pl) (hk : k ≠ r) : (layM w r M P).heap[k]? = w.heap[k]? := by
  unfold layM
  rw [Below.heap_setCell _ _ _ _ hk, Below.heap_setCell _ _ _ _ hk, Below.heap_setCell _ _ _ _ hk, Below.heap_setCell _ _ _ _ hk, Below.heap_setCell _ _ _ _ hk, Below.heap_setCell _ _ _ _ hk, Below.heap_setCell _ _ _ _ hk, Below.heap_setCell _ _ _ _ hk, Below.heap_setCell _ _ _ _ hk, Below.heap_setCell _ _ _ _ hk, Below.heap_setCell _ _ _ _ hk, Below.heap_setCell _ _ _ _ hk]
theorem layM_below {w w0 : World} {r n : Nat} (h : Below n w0 w) (hr : n ≤ r) (M : Msg) (P : Pl) : Below n w0 (layM w r M P) := by
  unfold layM
  exact (((((((((((h.setCell hr _).setCell hr _).setCell hr _).setCell hr _).setCell hr _).setCell hr _).setCell hr _).setCell hr _).setCell hr _).setCell hr _).setCell hr _).setCell hr _
theorem layM_size (w : World) (r : Nat) (M : Msg) (P : Pl) : (layM w r M P).heap.size = w.heap.size := by unfold layM; simp
theorem BoxM.there {w : World} {r : Nat} {m : Msg} {p : Pl} (h : BoxM w r m p) : w.there r 0 12 := fun j hj => by
  refine ⟨?_, h.fz _⟩
  rw [h.cell, Nat.zero_add, Array.getElem?_eq_getElem (by simp [cellsM]; omega)]
  rfl
theorem one_cells (M : Msg) (P : Pl) : (#[.int .i64 M.id, .bool M.rsp, .int .i64 M.op, .bool M.au, .bool M.tr, .bool M.re, .int .i64 M.co, .slice P.qa M.qs.length P.qc, .slice P.aa M.an.length P.ac, .slice P.sa M.sv.length P.sc, .slice P.da M.ad.length P.dc, .int .i64 M.sz] : Array Value).all (·.oneCell') = true := by simp [Value.oneCell']
/-- The four rows, made by the call. -/
structure Rows4 (w : World) (base : Nat) (m : Msg) (p : Pl) : Prop where
  q : Ques w base (.slice p.qa m.qs.length p.qc) m.qs
  a : Recs w base (.slice p.aa m.an.length p.ac) m.an
  s : Recs w base (.slice p.sa m.sv.length p.sc) m.sv
  d : Recs w base (.slice p.da m.ad.length p.dc) m.ad
theorem row_base {w : World} {base base' : Nat} {e : TypeId} {s : Nat} {v : Value} {n : Nat} {xs : List Value} (h : w.ownsRow base e s v n xs) (hb : base' ≤ base) : w.ownsRow base' e s v n xs := by
  obtain ⟨h1, h2⟩ := h
  refine ⟨h1, ?_⟩
  rcases h2 with h2 | ⟨g, cap, cur, hv, hg, r⟩
  · exact .inl h2
  · exact .inr ⟨g, cap, cur, hv, by omega, r⟩
theorem row_keep {w w' : World} {base : Nat} {e : TypeId} {s : Nat} {v : Value} {n : Nat} {xs : List Value} (h : w.ownsRow base e s v n xs) (hk : ∀ g, base ≤ g → g < w.heap.size → w'.heap[g]? = w.heap[g]?) : w'.ownsRow base e s v n xs := by
  obtain ⟨h1, h2⟩ := h
  refine ⟨h1, ?_⟩
  rcases h2 with h2 | ⟨g, cap, cur, hv, hg, hh, r⟩
  · exact .inl h2
  · exact .inr ⟨g, cap, cur, hv, hg, (hk g hg (Array.getElem?_eq_some_iff.1 hh).1).trans hh, r⟩
theorem Rows4.keep {w w' : World} {base : Nat} {m : Msg} {p : Pl} (h : Rows4 w base m p) (hk : ∀ g, base ≤ g → g < w.heap.size → w'.heap[g]? = w.heap[g]?) : Rows4 w' base m p := ⟨row_keep h.q hk, row_keep h.a hk, row_keep h.s hk, row_keep h.d hk⟩
theorem Rows4.base {w : World} {base base' : Nat} {m : Msg} {p : Pl} (h : Rows4 w base m p) (hb : base' ≤ base) : Rows4 w base' m p := ⟨row_base h.q hb, row_base h.a hb, row_base h.s hb, row_base h.d hb⟩
theorem flatQ_at : ∀ (l : List Qn) (I : Nat) (r : Qn) (j : Nat), l[I]? = some r → j < 2 → (l.flatMap cellsQ)[I * 2 + j]? = (cellsQ r)[j]?
  | [], _, _, _, h, _ => by simp at h
  | a :: l, 0, r, j, h, hj => by
    simp only [List.getElem?_cons_zero, Option.some.injEq] at h
    subst h
    rw [List.flatMap_cons, Nat.zero_mul, Nat.zero_add, List.getElem?_append_left (by simp [cellsQ]; omega)]
  | a :: l, I + 1, r, j, h, hj => by
    simp only [List.getElem?_cons_succ] at h
    rw [List.flatMap_cons, List.getElem?_append_right (by simp [cellsQ]; omega)]
    have : (I + 1) * 2 + j - (cellsQ a).length = I * 2 + j := by simp [cellsQ]; omega
    rw [this]
    exact flatQ_at l I r j h hj
theorem Recs.lie {w : World} {base : Nat} {a : Option Addr} {cap : Nat} {rs : List Rec} (h : Recs w base (.slice a rs.length cap) rs) : RecsLie w a rs := by
  by_cases hn : rs = []
  · exact .inl hn
  · have hp : 0 < rs.length := List.length_pos_iff.2 hn
    obtain ⟨g, rfl, hg, hc⟩ := row_cell h hp
    refine .inr ⟨⟨g, 0, none⟩, rfl, fun j r hj => from_recs fun i hi => ?_⟩
    have hjl := (List.getElem?_eq_some_iff.1 hj).1
    rw [addr_add, Nat.zero_add, hc _ (by omega), flat_at rs j r i hj hi]
theorem Ques.lie {w : World} {base : Nat} {a : Option Addr} {cap : Nat} {rs : List Qn} (h : Ques w base (.slice a rs.length cap) rs) : QuesLie w a rs := by
  by_cases hn : rs = []
  · exact .inl hn
  · have hp : 0 < rs.length := List.length_pos_iff.2 hn
    obtain ⟨g, rfl, hg, hc⟩ := row_cell h hp
    refine .inr ⟨⟨g, 0, none⟩, rfl, fun j r hj => ?_⟩
    have hjl := (List.getElem?_eq_some_iff.1 hj).1
    have h0 := hc (j * 2 + 0) (by omega)
    have h1 := hc (j * 2 + 1) (by omega)
    rw [flatQ_at rs j r 0 hj (by omega)] at h0
    rw [flatQ_at rs j r 1 hj (by omega)] at h1
    refine ⟨?_, ?_⟩
    · rw [addr_add, Nat.zero_add]; exact h0
    · rw [addr_add]; simp only [Nat.zero_add]; exact h1
theorem Rows4.lies {w : World} {base : Nat} {m : Msg} {p : Pl} (h : Rows4 w base m p) : MsgLies w m p := ⟨h.q.lie, h.a.lie, h.s.lie, h.d.lie⟩

/-! ### what is taken fits -/
theorem iterK_inv {σ : Type} {tk : σ → Tk} {step : σ → σ} (P : σ → Prop) (hs : ∀ st, P st → P (step st)) : ∀ (k : Nat) (st : σ), P st → P (iterK tk step k st)
  | 0, _, h => h
  | k + 1, st, h => by
    rw [iterK]
    split
    · exact h
    · exact iterK_inv P hs k _ (hs st h)
theorem quesK_fits (s : ByteArray) (x : Tk) : (quesK s x).1.n.size ≤ maxLen := by
  simp only [quesK, nameT]
  split
  · simp [ByteArray.size]
  · split
    · rename_i h
      have := (get_may (s := bs s) (at_ := x.at_.toNat) (n := (getL (bs s) x.at_.toNat).1) (e := (getL (bs s) x.at_.toNat).2.1) (by rw [← h])).2
      rw [size_mk]; unfold maxLen; omega
    · simp [ByteArray.size]
theorem mayR_fits {r : Rec} (h : mayR r = true) : IsRec r := by
  simp only [mayR, Bool.and_eq_true, decide_eq_true_eq] at h
  have h1 := mayL_len h.1.1.1.1.1.2
  have h2 := mayL_len h.1.1.2
  rw [length_bs] at h1 h2
  exact ⟨by unfold maxLen; omega, by unfold maxLen; omega, by unfold maxLen; omega⟩
theorem recK_fits (s : ByteArray) (x : Tk) : IsRec (recK s x).1 := by
  have hz : IsRec zeroR := ⟨by simp [zeroR, ByteArray.size], by simp [zeroR, ByteArray.size], by simp [zeroR, ByteArray.size]⟩
  unfold recK
  split
  · exact hz
  · split
    · exact hz
    · rename_i r e hr
      exact mayR_fits (get_inrec hr).1
theorem rowQ_fits (s : ByteArray) (k : Nat) (x : Tk) : ∀ q ∈ (iterK (·.1) (stepQ s) k (x, [])).2, q.n.size ≤ maxLen :=
  iterK_inv (fun st : Tk × List Qn => ∀ q ∈ st.2, q.n.size ≤ maxLen) (fun st h q hq => by
    rcases List.mem_append.1 hq with hq | hq
    · exact h q hq
    · simp only [List.mem_singleton] at hq; subst hq; exact quesK_fits s _) k (x, []) (by simp)
theorem rowR_fits (s : ByteArray) (k : Nat) (x : Tk) : ∀ q ∈ (iterK (·.1) (stepR s) k (x, [])).2, IsRec q :=
  iterK_inv (fun st : Tk × List Rec => ∀ q ∈ st.2, IsRec q) (fun st h q hq => by
    rcases List.mem_append.1 hq with hq | hq
    · exact h q hq
    · simp only [List.mem_singleton] at hq; subst hq; exact recK_fits s _) k (x, []) (by simp)
theorem rowA_fits (s : ByteArray) (k : Nat) (x : Tk) : ∀ q ∈ (iterK (·.1) (stepA s) k (x, [], 0)).2.1, IsRec q :=
  iterK_inv (fun st : Tk × List Rec × Int => ∀ q ∈ st.2.1, IsRec q) (fun st h q hq => by
    unfold stepA at hq
    split at hq
    · exact h q hq
    · rcases List.mem_append.1 hq with hq | hq
      · exact h q hq
      · simp only [List.mem_singleton] at hq; subst hq; exact recK_fits s _) k (x, [], 0) (by simp)
theorem Recs.len {w : World} {base : Nat} {a : Option Addr} {cap : Nat} {rs : List Rec} (h : Recs w base (.slice a rs.length cap) rs) : rs.length ≤ maxLen := by
  rcases h.2 with ⟨_, h0⟩ | ⟨g, c, cur, hv, _, _, hn, hm, _⟩
  · omega
  · omega
theorem Ques.len {w : World} {base : Nat} {a : Option Addr} {cap : Nat} {rs : List Qn} (h : Ques w base (.slice a rs.length cap) rs) : rs.length ≤ maxLen := by
  rcases h.2 with ⟨_, h0⟩ | ⟨g, c, cur, hv, _, _, hn, hm, _⟩
  · omega
  · omega
theorem msgK_fits {w : World} {base : Nat} {s : ByteArray} {p : Pl} (h : Rows4 w base (msgK s) p) : MsgFits (msgK s) := ⟨rowQ_fits s _ _, rowR_fits s _ _, rowR_fits s _ _, rowA_fits s _ _, h.q.len, h.a.len, h.s.len, h.d.len⟩

/-! ### the message -/
set_option maxHeartbeats 2000000 in
theorem message_c (b : Nat) (s : ByteArray) (w : World) (hs : s.size ≤ 1125899906842624) (h : TkAt w b s ⟨0, false⟩) (hb0 : b ≠ 0) (hL : Laid w) :
    Calls Tryz.prog 19 #[.pointer (some ⟨b, 0, none⟩)] w fun e w' => (∃ p, e = .returned (mv (msgK s) p) ∧ Rows4 w' w.heap.size (msgK s) p) ∧ TkAt w' b s (rowD s).1 ∧ TurnB b w w' := by
  have hmf : ∀ (fn : Fn) (first cap : Array Value) (w : World), (Instr.makeFunc fn first cap).run Tryz.prog w = .ok (.func fn first cap) w := fun _ _ _ _ => rfl
  have hM : Hid (msgK s = { { { { (bitsR (hd2 s).1 { zeroM with id := (hd1 s).1 }) with qs := (rowQ s).2 } with an := (rowA s).2 } with sv := (rowS s).2 } with ad := (rowD s).2.1, sz := (rowD s).2.2 }) := rfl
  have nat : ∀ x : Tk, ∃ n : Nat, (numT s 2 x).1 = n ∧ n < 65536 := fun x => ⟨(numT s 2 x).1.toNat, by have := numT_bd s 2 x; omega, by have := numT_bd s 2 x; omega⟩
  obtain ⟨n3, hn3, l3⟩ := nat (hd2 s).2
  obtain ⟨n4, hn4, l4⟩ := nat (hd3 s).2
  obtain ⟨n5, hn5, l5⟩ := nat (hd4 s).2
  obtain ⟨n6, hn6, l6⟩ := nat (hd5 s).2
  have H1 : Hid (∀ w, TkAt w b s ⟨0, false⟩ → Calls Tryz.prog 49 #[.pointer (some ⟨b, 0, none⟩), .int .i64 2] w fun e w' => e = .returned (.int .i64 (hd1 s).1) ∧ TkAt w' b s (hd1 s).2 ∧ Turn b w w') := fun w h => number_2t b s ⟨0, false⟩ w hs h
  have H2 : Hid (∀ c m p w, TkAt w b s (hd1 s).2 → BoxM w c m p → b ≠ c → Calls Tryz.prog 50 #[.pointer (some ⟨b, 0, none⟩), .pointer (some ⟨c, 0, none⟩)] w fun e w' => e = .returned (.tuple #[]) ∧ TkAt w' b s (hd2 s).2 ∧ BoxM w' c (bitsR (hd2 s).1 m) p ∧ Turn2 b c w w') := fun c m p w h hX hbc => bits_r b c s (hd1 s).2 m p w hs h hX hbc
  have H3 : Hid (∀ w, TkAt w b s (hd2 s).2 → Calls Tryz.prog 49 #[.pointer (some ⟨b, 0, none⟩), .int .i64 2] w fun e w' => e = .returned (.int .i64 n3) ∧ TkAt w' b s (hd3 s).2 ∧ Turn b w w') := fun w h => by rw [← hn3]; exact number_2t b s _ w hs h
  have H4 : Hid (∀ w, TkAt w b s (hd3 s).2 → Calls Tryz.prog 49 #[.pointer (some ⟨b, 0, none⟩), .int .i64 2] w fun e w' => e = .returned (.int .i64 n4) ∧ TkAt w' b s (hd4 s).2 ∧ Turn b w w') := fun w h => by rw [← hn4]; exact number_2t b s _ w hs h
  have H5 : Hid (∀ w, TkAt w b s (hd4 s).2 → Calls Tryz.prog 49 #[.pointer (some ⟨b, 0, none⟩), .int .i64 2] w fun e w' => e = .returned (.int .i64 n5) ∧ TkAt w' b s (hd5 s).2 ∧ Turn b w w') := fun w h => by rw [← hn5]; exact number_2t b s _ w hs h
  have H6 : Hid (∀ w, TkAt w b s (hd5 s).2 → Calls Tryz.prog 49 #[.pointer (some ⟨b, 0, none⟩), .int .i64 2] w fun e w' => e = .returned (.int .i64 n6) ∧ TkAt w' b s (hd6 s).2 ∧ Turn b w w') := fun w h => by rw [← hn6]; exact number_2t b s _ w hs h
  have rQ : rowQ s = iterK (·.1) (stepQ s) n3 (mustT (decide ((n3 : Int) ≤ 4)) (hd6 s).2, []) := by unfold rowQ; rw [show (hd3 s).1 = n3 from hn3, Int.toNat_natCast]
  have rA : rowA s = iterK (·.1) (stepR s) n4 (mustT (decide ((n4 : Int) ≤ 32)) (rowQ s).1, []) := by unfold rowA; rw [show (hd4 s).1 = n4 from hn4, Int.toNat_natCast]
  have rS : rowS s = iterK (·.1) (stepR s) n5 (mustT (decide ((n5 : Int) ≤ 32)) (rowA s).1, []) := by unfold rowS; rw [show (hd5 s).1 = n5 from hn5, Int.toNat_natCast]
  have rD : rowD s = iterK (·.1) (stepA s) n6 (mustT (decide ((n6 : Int) ≤ 33)) (rowS s).1, [], 0) := by unfold rowD; rw [show (hd6 s).1 = n6 from hn6, Int.toNat_natCast]
  have H7 : Hid (∀ c d base m0 p0 w, _) := fun c d base m0 p0 w => times_q b c d base s m0 p0 n3 4 w (hd6 s).2 hs
  have H8 : Hid (∀ c d base m0 p0 w, _) := fun c d base m0 p0 w => times_a b c d base s m0 p0 n4 32 w (rowQ s).1 hs
  have H9 : Hid (∀ c d base m0 p0 w, _) := fun c d base m0 p0 w => times_s b c d base s m0 p0 n5 32 w (rowA s).1 hs
  have H10 : Hid (∀ c d base m0 p0 w, _) := fun c d base m0 p0 w => times_d b c d base s m0 p0 n6 33 w (rowS s).1 hs
  rw [← rQ] at H7
  rw [← rA] at H8
  rw [← rS] at H9
  rw [← rD] at H10
  clear rQ rA rS rD nat hn3 hn4 hn5 hn6
  generalize msgK s = M at *
  generalize rowD s = xD at *
  generalize rowS s = xS at *
  generalize rowA s = xA at *
  generalize rowQ s = xQ at *
  generalize (hd6 s).2 = x6 at *
  generalize (hd5 s).2 = x5 at *
  generalize (hd4 s).2 = x4 at *
  generalize (hd3 s).2 = x3 at *
  generalize (hd2 s).2 = x2 at *
  generalize (hd2 s).1 = v2 at *
  generalize (hd1 s).2 = x1 at *
  generalize (hd1 s).1 = v1 at *
  have B3 : Hid (Below w.heap.size w (((w.alloc (.cells #[.pointer (some ⟨b, 0, none⟩)] 93)).alloc (.cells #[.int .i64 0, .bool false, .int .i64 0, .bool false, .bool false, .bool false, .int .i64 0, .slice none 0 0, .slice none 0 0, .slice none 0 0, .slice none 0 0, .int .i64 0] 25)).alloc (.cells #[.int .i64 0, .bool false, .int .i64 0, .bool false, .bool false, .bool false, .int .i64 0, .slice none 0 0, .slice none 0 0, .slice none 0 0, .slice none 0 0, .int .i64 0] 25))) := (((Below.refl _ _).alloc (Nat.le_refl _) _).alloc (by simp) _).alloc (by simp; omega) _
  have T3 : Hid (TkAt (((w.alloc (.cells #[.pointer (some ⟨b, 0, none⟩)] 93)).alloc (.cells #[.int .i64 0, .bool false, .int .i64 0, .bool false, .bool false, .bool false, .int .i64 0, .slice none 0 0, .slice none 0 0, .slice none 0 0, .slice none 0 0, .int .i64 0] 25)).alloc (.cells #[.int .i64 0, .bool false, .int .i64 0, .bool false, .bool false, .bool false, .int .i64 0, .slice none 0 0, .slice none 0 0, .slice none 0 0, .slice none 0 0, .int .i64 0] 25)) b s ⟨0, false⟩) := h.below B3.out h.lt
  have D3 : Hid ((((w.alloc (.cells #[.pointer (some ⟨b, 0, none⟩)] 93)).alloc (.cells #[.int .i64 0, .bool false, .int .i64 0, .bool false, .bool false, .bool false, .int .i64 0, .slice none 0 0, .slice none 0 0, .slice none 0 0, .slice none 0 0, .int .i64 0] 25)).alloc (.cells #[.int .i64 0, .bool false, .int .i64 0, .bool false, .bool false, .bool false, .int .i64 0, .slice none 0 0, .slice none 0 0, .slice none 0 0, .slice none 0 0, .int .i64 0] 25)).cell? ⟨w.heap.size, 0, none⟩ = some (.pointer (some ⟨b, 0, none⟩))) := by
    have e : (((w.alloc (.cells #[.pointer (some ⟨b, 0, none⟩)] 93)).alloc (.cells #[.int .i64 0, .bool false, .int .i64 0, .bool false, .bool false, .bool false, .int .i64 0, .slice none 0 0, .slice none 0 0, .slice none 0 0, .slice none 0 0, .int .i64 0] 25)).alloc (.cells #[.int .i64 0, .bool false, .int .i64 0, .bool false, .bool false, .bool false, .int .i64 0, .slice none 0 0, .slice none 0 0, .slice none 0 0, .slice none 0 0, .int .i64 0] 25)).heap[w.heap.size]? = (w.alloc (.cells #[.pointer (some ⟨b, 0, none⟩)] 93)).heap[w.heap.size]? := (Below.heap_alloc _ _ _ (by simp; omega)).trans (Below.heap_alloc _ _ _ (by simp))
    exact (World.cell?_of_block (a := ⟨w.heap.size, 0, none⟩) e).trans (new_cell w _ _ 0 _ rfl)
  have R3 : Hid (BoxM (((w.alloc (.cells #[.pointer (some ⟨b, 0, none⟩)] 93)).alloc (.cells #[.int .i64 0, .bool false, .int .i64 0, .bool false, .bool false, .bool false, .int .i64 0, .slice none 0 0, .slice none 0 0, .slice none 0 0, .slice none 0 0, .int .i64 0] 25)).alloc (.cells #[.int .i64 0, .bool false, .int .i64 0, .bool false, .bool false, .bool false, .int .i64 0, .slice none 0 0, .slice none 0 0, .slice none 0 0, .slice none 0 0, .int .i64 0] 25)) (w.heap.size + 1) zeroM nilP) := by
    have q := BoxM.new (w.alloc (.cells #[.pointer (some ⟨b, 0, none⟩)] 93)) zeroM nilP
    rw [show (w.alloc (.cells #[.pointer (some ⟨b, 0, none⟩)] 93)).heap.size = w.heap.size + 1 by simp] at q
    exact (Below.heap_alloc _ _ _ (by simp)).trans q
  have X3 : Hid (BoxM (((w.alloc (.cells #[.pointer (some ⟨b, 0, none⟩)] 93)).alloc (.cells #[.int .i64 0, .bool false, .int .i64 0, .bool false, .bool false, .bool false, .int .i64 0, .slice none 0 0, .slice none 0 0, .slice none 0 0, .slice none 0 0, .int .i64 0] 25)).alloc (.cells #[.int .i64 0, .bool false, .int .i64 0, .bool false, .bool false, .bool false, .int .i64 0, .slice none 0 0, .slice none 0 0, .slice none 0 0, .slice none 0 0, .int .i64 0] 25)) (w.heap.size + 1 + 1) zeroM nilP) := by
    have q := BoxM.new ((w.alloc (.cells #[.pointer (some ⟨b, 0, none⟩)] 93)).alloc (.cells #[.int .i64 0, .bool false, .int .i64 0, .bool false, .bool false, .bool false, .int .i64 0, .slice none 0 0, .slice none 0 0, .slice none 0 0, .slice none 0 0, .int .i64 0] 25)) zeroM nilP
    rw [show ((w.alloc (.cells #[.pointer (some ⟨b, 0, none⟩)] 93)).alloc (.cells #[.int .i64 0, .bool false, .int .i64 0, .bool false, .bool false, .bool false, .int .i64 0, .slice none 0 0, .slice none 0 0, .slice none 0 0, .slice none 0 0, .int .i64 0] 25)).heap.size = w.heap.size + 1 + 1 by simp] at q
    exact q
  have S3 : Hid ((((w.alloc (.cells #[.pointer (some ⟨b, 0, none⟩)] 93)).alloc (.cells #[.int .i64 0, .bool false, .int .i64 0, .bool false, .bool false, .bool false, .int .i64 0, .slice none 0 0, .slice none 0 0, .slice none 0 0, .slice none 0 0, .int .i64 0] 25)).alloc (.cells #[.int .i64 0, .bool false, .int .i64 0, .bool false, .bool false, .bool false, .int .i64 0, .slice none 0 0, .slice none 0 0, .slice none 0 0, .slice none 0 0, .int .i64 0] 25)).heap.size = w.heap.size + 3) := by show _ = _; simp
  have hL3 : Hid (Laid (((w.alloc (.cells #[.pointer (some ⟨b, 0, none⟩)] 93)).alloc (.cells #[.int .i64 0, .bool false, .int .i64 0, .bool false, .bool false, .bool false, .int .i64 0, .slice none 0 0, .slice none 0 0, .slice none 0 0, .slice none 0 0, .int .i64 0] 25)).alloc (.cells #[.int .i64 0, .bool false, .int .i64 0, .bool false, .bool false, .bool false, .int .i64 0, .slice none 0 0, .slice none 0 0, .slice none 0 0, .slice none 0 0, .int .i64 0] 25))) := hL.below B3.out
  have lt := h.lt
  clear h hs hL
  go_enter Tryz.func19, Tryz.ntmps19
  have d3 := D3.out
  go_wp2_with fail
  generalize ((w.alloc (.cells #[.pointer (some ⟨b, 0, none⟩)] 93)).alloc (.cells #[.int .i64 0, .bool false, .int .i64 0, .bool false, .bool false, .bool false, .int .i64 0, .slice none 0 0, .slice none 0 0, .slice none 0 0, .slice none 0 0, .int .i64 0] 25)).alloc (.cells #[.int .i64 0, .bool false, .int .i64 0, .bool false, .bool false, .bool false, .int .i64 0, .slice none 0 0, .slice none 0 0, .slice none 0 0, .slice none 0 0, .int .i64 0] 25) = w3 at *
  refine (H1.out _ T3.out).mono ?_; rintro e w4 ⟨rfl, hT4, hU4⟩
  have X4 := X3.out.turn hU4 (by omega)
  have c4 := X4.cell 0
  have f4 := X4.fz 0
  simp only [cellsM, zeroM, nilP, List.getElem?_toArray, List.getElem?_cons_zero, List.length_nil] at c4
  have z4 := hU4.bel.size
  have k4 : w3.heap.size = w.heap.size + 3 := S3.out
  have X5 : Hid (BoxM (w4.setCell ⟨w.heap.size + 1 + 1, 0, none⟩ (.int .i64 v1)) (w.heap.size + 1 + 1) { zeroM with id := v1 } nilP) := X4.set 0 _ rfl
  have T5 : Hid (TkAt (w4.setCell ⟨w.heap.size + 1 + 1, 0, none⟩ (.int .i64 v1)) b s x1) := hT4.set (by omega)
  have U5 : Hid (Turn2 b (w.heap.size + 1 + 1) w3 (w4.setCell ⟨w.heap.size + 1 + 1, 0, none⟩ (.int .i64 v1))) := (Turn2.of1 hU4).trans (Turn2.set _ _ _)
  have Hd : Hid (∀ w', Turn2 b (w.heap.size + 1 + 1) w3 w' → w'.cell? ⟨w.heap.size, 0, none⟩ = some (.pointer (some ⟨b, 0, none⟩))) := fun w' hu => (World.cell?_of_block (a := ⟨w.heap.size, 0, none⟩) (hu.oth w.heap.size (by omega) (by omega) (by omega))).trans D3.out
  have d5 := Hd.out _ U5.out
  have Sz : Hid (∀ w', Turn2 b (w.heap.size + 1 + 1) w3 w' → w.heap.size + 3 ≤ w'.heap.size) := fun w' hu => by have := hu.size; have := S3.out; omega
  clear X4 hT4 hU4 T3 X3 d3 k4 z4 H1
  go_wp2_with fail
  generalize w4.setCell ⟨w.heap.size + 1 + 1, 0, none⟩ (.int .i64 v1) = w5 at *
  clear c4 f4
  refine (H2.out _ _ _ _ T5.out X5.out (by omega)).mono ?_; rintro e w6 ⟨rfl, hT6, hX6, hU6⟩
  have U6 : Hid (Turn2 b (w.heap.size + 1 + 1) w3 w6) := U5.out.trans hU6
  have T6 : Hid (_) := hT6
  have X6 : Hid (BoxM w6 (w.heap.size + 1 + 1) (bitsR v2 { zeroM with id := v1 }) nilP) := hX6
  have d6 := Hd.out _ U6.out
  clear hU6 hT6 hX6 d5 T5 X5 U5 H2
  go_wp2_with fail
  refine (H3.out _ T6.out).mono ?_; rintro e w7 ⟨rfl, hT, hU⟩
  have X7 : Hid (BoxM w7 (w.heap.size + 1 + 1) (bitsR v2 { zeroM with id := v1 }) nilP) := X6.out.turn hU (by omega)
  have U7 : Hid (Turn2 b (w.heap.size + 1 + 1) w3 w7) := U6.out.trans (Turn2.of1 hU)
  have T7 : Hid (_) := hT
  have d7 := Hd.out _ U7.out
  clear hT hU d6 T6 X6 U6 H3
  go_wp2_with fail
  refine (H4.out _ T7.out).mono ?_; rintro e w8 ⟨rfl, hT, hU⟩
  have X8 : Hid (BoxM w8 (w.heap.size + 1 + 1) (bitsR v2 { zeroM with id := v1 }) nilP) := X7.out.turn hU (by omega)
  have U8 : Hid (Turn2 b (w.heap.size + 1 + 1) w3 w8) := U7.out.trans (Turn2.of1 hU)
  have T8 : Hid (_) := hT
  have d8 := Hd.out _ U8.out
  clear hT hU d7 T7 X7 U7 H4
  go_wp2_with fail
  refine (H5.out _ T8.out).mono ?_; rintro e w9 ⟨rfl, hT, hU⟩
  have X9 : Hid (BoxM w9 (w.heap.size + 1 + 1) (bitsR v2 { zeroM with id := v1 }) nilP) := X8.out.turn hU (by omega)
  have U9 : Hid (Turn2 b (w.heap.size + 1 + 1) w3 w9) := U8.out.trans (Turn2.of1 hU)
  have T9 : Hid (_) := hT
  have d9 := Hd.out _ U9.out
  clear hT hU d8 T8 X8 U8 H5
  go_wp2_with fail
  refine (H6.out _ T9.out).mono ?_; rintro e w10 ⟨rfl, hT, hU⟩
  have X10 : Hid (BoxM w10 (w.heap.size + 1 + 1) (bitsR v2 { zeroM with id := v1 }) nilP) := X9.out.turn hU (by omega)
  have U10 : Hid (Turn2 b (w.heap.size + 1 + 1) w3 w10) := U9.out.trans (Turn2.of1 hU)
  have T10 : Hid (_) := hT
  have d10 := Hd.out _ U10.out
  clear hT hU d9 T9 X9 U9 H6
  have z10 := Sz.out _ U10.out
  have l0 : Lie b (w.heap.size + 1 + 1) w.heap.size w10.heap.size := ⟨hb0, by omega, by omega, by omega, by omega, by omega, by omega, by omega⟩
  have L0 : Hid (Lie b (w.heap.size + 1 + 1) w.heap.size w10.heap.size) := l0
  have hL10 : Hid (Laid w10) := hL3.out.turn2 U10.out hb0 (by omega)
  have C7 := H7.out (w.heap.size + 1 + 1) w.heap.size w10.heap.size (bitsR v2 { zeroM with id := v1 }) nilP w10 l0 l3 d10 (Nat.le_refl _) T10.out X10.out rfl ⟨rfl, rfl⟩
  clear l0
  go_wp2_with fail
  refine C7.mono ?_; rintro e w11 ⟨rfl, j7, _, hb11, qa, qc, hT, hX, hR, hF⟩
  have T11 : Hid (TkAt w11 b s xQ.1) := hT
  have X11 : Hid (BoxM w11 (w.heap.size + 1 + 1) { (bitsR v2 { zeroM with id := v1 }) with qs := xQ.2 } { nilP with qa := qa, qc := qc }) := hX
  have Q11 : Hid (Ques w11 w10.heap.size (.slice qa xQ.2.length qc) xQ.2) := hR
  have F11 : Hid (Fr b (w.heap.size + 1 + 1) w10.heap.size w10 w11) := hF
  have d11 := hF.cell L0.out d10
  have L1 : Hid (Lie b (w.heap.size + 1 + 1) w.heap.size w11.heap.size) := L0.out.mono hb11
  have hL11 : Hid (Laid w11) := hF.laid L0.out hL10.out
  clear hT hX hR hF C7 d10 T10 X10 H7 hL10
  have C8 := H8.out (w.heap.size + 1 + 1) w.heap.size w11.heap.size _ _ w11 L1.out l4 d11 hL11.out (Nat.le_refl _) T11.out X11.out rfl ⟨rfl, rfl⟩
  go_wp2_with fail
  refine C8.mono ?_; rintro e w12 ⟨rfl, j8, _, hb12, aa, ac, hT, hX, hR, hF⟩
  have T12 : Hid (TkAt w12 b s xA.1) := hT
  have X12 : Hid (BoxM w12 (w.heap.size + 1 + 1) { { (bitsR v2 { zeroM with id := v1 }) with qs := xQ.2 } with an := xA.2 } { { nilP with qa := qa, qc := qc } with aa := aa, ac := ac }) := hX
  have A12 : Hid (Recs w12 w11.heap.size (.slice aa xA.2.length ac) xA.2) := hR
  have Q12 : Hid (Ques w12 w10.heap.size (.slice qa xQ.2.length qc) xQ.2) := row_fr Q11.out hF L0.out.bl L0.out.cl (Nat.le_refl _)
  have F12 : Hid (Fr b (w.heap.size + 1 + 1) w10.heap.size w10 w12) := F11.out.trans (hF.mono hb11)
  have d12 := hF.cell L1.out d11
  have L2 : Hid (Lie b (w.heap.size + 1 + 1) w.heap.size w12.heap.size) := L1.out.mono hb12
  have hL12 : Hid (Laid w12) := hF.laid L1.out hL11.out
  clear hT hX hR hF C8 d11 T11 X11 Q11 F11 H8 hL11
  have C9 := H9.out (w.heap.size + 1 + 1) w.heap.size w12.heap.size _ _ w12 L2.out l5 d12 hL12.out (Nat.le_refl _) T12.out X12.out rfl ⟨rfl, rfl⟩
  go_wp2_with fail
  refine C9.mono ?_; rintro e w13 ⟨rfl, j9, _, hb13, sa, sc, hT, hX, hR, hF⟩
  have T13 : Hid (TkAt w13 b s xS.1) := hT
  have X13 : Hid (BoxM w13 (w.heap.size + 1 + 1) { { { (bitsR v2 { zeroM with id := v1 }) with qs := xQ.2 } with an := xA.2 } with sv := xS.2 } { { { nilP with qa := qa, qc := qc } with aa := aa, ac := ac } with sa := sa, sc := sc }) := hX
  have S13 : Hid (Recs w13 w12.heap.size (.slice sa xS.2.length sc) xS.2) := hR
  have A13 : Hid (Recs w13 w11.heap.size (.slice aa xA.2.length ac) xA.2) := row_fr A12.out hF L1.out.bl L1.out.cl (Nat.le_refl _)
  have Q13 : Hid (Ques w13 w10.heap.size (.slice qa xQ.2.length qc) xQ.2) := row_fr Q12.out hF L0.out.bl L0.out.cl (Nat.le_refl _)
  have F13 : Hid (Fr b (w.heap.size + 1 + 1) w10.heap.size w10 w13) := F12.out.trans (hF.mono (Nat.le_trans hb11 hb12))
  have d13 := hF.cell L2.out d12
  have L4 : Hid (Lie b (w.heap.size + 1 + 1) w.heap.size w13.heap.size) := L2.out.mono hb13
  have hL13 : Hid (Laid w13) := hF.laid L2.out hL12.out
  clear hT hX hR hF C9 d12 T12 X12 Q12 A12 F12 H9 hL12
  have C10 := H10.out (w.heap.size + 1 + 1) w.heap.size w13.heap.size _ _ w13 L4.out l6 d13 hL13.out (Nat.le_refl _) T13.out X13.out rfl rfl ⟨rfl, rfl⟩
  go_wp2_with fail
  refine C10.mono ?_; rintro e w14 ⟨rfl, j10, _, hb14, da, dc, hT, hX, hR, hF⟩
  obtain ⟨P, hP⟩ : ∃ P : Pl, P = { { { { nilP with qa := qa, qc := qc } with aa := aa, ac := ac } with sa := sa, sc := sc } with da := da, dc := dc } := ⟨_, rfl⟩
  have X14 : Hid (BoxM w14 (w.heap.size + 1 + 1) M P) := by rw [hM.out, hP]; exact hX
  have W14 : Hid (Rows4 w14 w.heap.size M P) := by
    rw [hM.out, hP]
    exact ⟨row_base (row_fr Q13.out hF L0.out.bl L0.out.cl (Nat.le_refl _)) (by omega), row_base (row_fr A13.out hF L1.out.bl L1.out.cl (Nat.le_refl _)) (by omega), row_base (row_fr S13.out hF L2.out.bl L2.out.cl (Nat.le_refl _)) (by omega), row_base hR (by omega)⟩
  have F14 : Hid (Fr b (w.heap.size + 1 + 1) w10.heap.size w10 w14) := F13.out.trans (hF.mono (Nat.le_trans hb11 (Nat.le_trans hb12 hb13)))
  have R14 : Hid (BoxM w14 (w.heap.size + 1) zeroM nilP) := ((F14.out.oth _ (by omega) (by omega) (by omega)).trans (U10.out.oth _ (by omega) (by omega) (by have := S3.out; omega))).trans R3.out
  have T14 : Hid (TkAt w14 b s xD.1) := hT
  have V14 : Hid (TurnB b w w14) := by
    have a1 : ∀ k, k ≠ b → k < w.heap.size → w14.heap[k]? = w.heap[k]? := fun k hk hl => ((F14.out.oth k (by omega) hk (by omega)).trans (U10.out.oth k hk (by omega) (by have := S3.out; omega))).trans (B3.out.block k hl)
    have s1 : w.heap.size ≤ w14.heap.size := by have := F14.out.size; omega
    exact ⟨⟨(F14.out.os.trans U10.out.os).trans B3.out.os, (F14.out.tape.trans U10.out.tape).trans B3.out.tape, (F14.out.output.trans U10.out.output).trans B3.out.output, s1, fun k hk => a1 k (by omega) (by omega)⟩, a1⟩
  have T15 : Hid (TkAt (layM w14 (w.heap.size + 1) M P) b s xD.1) := T14.out.keep (layM_other _ _ _ _ _ (by omega)) (by rw [layM_size]; exact Nat.le_refl _)
  have W15 : Hid (Rows4 (layM w14 (w.heap.size + 1) M P) w.heap.size M P) := by
    have hz : ∀ g, w10.heap.size ≤ g → g < w14.heap.size → (layM w14 (w.heap.size + 1) M P).heap[g]? = w14.heap[g]? := fun g h1 _ => layM_other _ _ _ _ _ (by omega)
    have W : Rows4 w14 w10.heap.size M P := by
      rw [hM.out, hP]
      exact ⟨row_fr Q13.out hF L0.out.bl L0.out.cl (Nat.le_refl _), row_base (row_fr A13.out hF L1.out.bl L1.out.cl (Nat.le_refl _)) (by omega), row_base (row_fr S13.out hF L2.out.bl L2.out.cl (Nat.le_refl _)) (by omega), row_base hR (by omega)⟩
    exact (W.keep hz).base (by omega)
  have V15 : Hid (TurnB b w (layM w14 (w.heap.size + 1) M P)) := by
    have a1 : ∀ k, k ≠ b → k < w.heap.size → (layM w14 (w.heap.size + 1) M P).heap[k]? = w.heap[k]? := fun k hk hl => (layM_other _ _ _ _ _ (by omega)).trans (V14.out.oth k hk hl)
    exact ⟨layM_below V14.out.bel (by omega) M P, a1⟩
  have B15 : Hid (BoxM (layM w14 (w.heap.size + 1) M P) (w.heap.size + 1) M P) := layM_box R14.out M P
  obtain ⟨g0, g1, g2, g3, g4, g5, g6, g7, g8, g9, g10, g11⟩ := X14.out.all
  obtain ⟨r0, r1, r2, r3, r4, r5, r6, r7, r8, r9, r10, r11⟩ := R14.out.all
  simp only [zeroM, nilP, List.length_nil] at r0 r1 r2 r3 r4 r5 r6 r7 r8 r9 r10 r11
  have p0 := R14.out.fz 0
  have p1 := R14.out.fz 1
  have p2 := R14.out.fz 2
  have p3 := R14.out.fz 3
  have p4 := R14.out.fz 4
  have p5 := R14.out.fz 5
  have p6 := R14.out.fz 6
  have p7 := R14.out.fz 7
  have p8 := R14.out.fz 8
  have p9 := R14.out.fz 9
  have p10 := R14.out.fz 10
  have p11 := R14.out.fz 11
  have hne : ¬ w.heap.size + 1 = w.heap.size + 1 + 1 := by omega
  clear hT hX hR hF C10 d13 T13 X13 Q13 A13 S13 F13 H10 hL13 hP hM L0 L1 L2 L4 F14 R14 X14 V14 T14 W14 hb11 hb12 hb13 hb14 U10 Hd Sz D3 R3 B3 S3 hL3
  go_wp2
  have B16 := B15.out.all
  have T16 := T15.out
  have W16 := W15.out
  have V16 := V15.out
  simp only [layM] at B16 T16 W16 V16
  obtain ⟨a0, a1, a2, a3, a4, a5, a6, a7, a8, a9, a10, a11⟩ := B16
  refine bodyPost_ret (v := .agg #[.int .i64 M.id, .bool M.rsp, .int .i64 M.op, .bool M.au, .bool M.tr, .bool M.re, .int .i64 M.co, .slice P.qa M.qs.length P.qc, .slice P.aa M.an.length P.ac, .slice P.sa M.sv.length P.sc, .slice P.da M.ad.length P.dc, .int .i64 M.sz]) (by simp [results, Tryz.results19, go_sem, a0, a1, a2, a3, a4, a5, a6, a7, a8, a9, a10, a11]) rfl ⟨⟨P, rfl, W16⟩, T16, V16⟩

end Go.Proofs.YtdmooggmoihggaaGreatDoor
