/-
  Messages in memory: how a message, its questions and its records lie there.
-/
import Derived.Test.YtdmooggmoihggaaGreatDoorBDns
import Derived.Test.YtdmooggmoihggaaGreatDoorRrOpen
import Derived.Test.YtdmooggmoihggaaGreatDoorBGive
namespace Go.Proofs.YtdmooggmoihggaaGreatDoor
set_option maxRecDepth 100000
open Go.ChangeShapes Go.WideShapes Go.ChangeAt Go.RowKit Go.Pin Go.PlainAid

theorem Tryz.infoRR : (Tryz.prog.info? 82).map (fun i => (i.zero, i.size, i.bytes)) = some (some (.agg #[.string ByteArray.empty, .int .i64 0, .int .i64 0, .int .i64 0, .string ByteArray.empty, .string ByteArray.empty, .int .i64 0]), 7, 80) := by kernel_rfl
def Recs (w : World) (base : Nat) (v : Value) (rs : List Rec) : Prop := w.ownsRow base 82 7 v rs.length (rs.flatMap cellsR)
theorem row_below {w w' : World} {base : Nat} {e : TypeId} {s : Nat} {v : Value} {n : Nat} {xs : List Value} (h : w.ownsRow base e s v n xs) (hb : Below w.heap.size w w') : w'.ownsRow base e s v n xs := by
  obtain ⟨h1, h2⟩ := h
  refine ⟨h1, ?_⟩
  rcases h2 with h2 | ⟨g, cap, cur, hv, hg, hh, r⟩
  · exact .inl h2
  · exact .inr ⟨g, cap, cur, hv, hg, (hb.block g (Array.getElem?_eq_some_iff.1 hh).1).trans hh, r⟩
theorem row_form {w : World} {base : Nat} {e : TypeId} {s : Nat} {v : Value} {n : Nat} {xs : List Value} (h : w.ownsRow base e s v n xs) : ∃ a cap, v = .slice a n cap := by
  obtain ⟨_, h | ⟨g, cap, cur, hv, _⟩⟩ := h
  · exact ⟨none, 0, by rw [h.1, h.2]⟩
  · exact ⟨_, cap, hv⟩
theorem row_cell {w : World} {base : Nat} {e : TypeId} {s : Nat} {a : Option Addr} {n cap : Nat} {xs : List Value} (h : w.ownsRow base e s (.slice a n cap) n xs) (hn : 0 < n) : ∃ g, a = some ⟨g, 0, none⟩ ∧ g < w.heap.size ∧ ∀ j, j < n * s → w.cell? ⟨g, j, none⟩ = xs[j]? := by
  have hh := h
  obtain ⟨_, h | ⟨g, cap', cur, hv, hb, hg, _⟩⟩ := h
  · omega
  · simp only [Value.slice.injEq, true_and] at hv
    obtain ⟨rfl, rfl⟩ := hv
    exact ⟨g, rfl, (Array.getElem?_eq_some_iff.1 hg).1, fun j hj => World.ownsRow.cellAt hh j hj⟩
theorem owns_apart {w : World} {b1 b2 : Nat} {e1 e2 : TypeId} {s1 s2 : Nat} {v1 v2 : Value} {n1 n2 : Nat} {xs1 xs2 : List Value} (h1 : w.ownsRow b1 e1 s1 v1 n1 xs1) (h2 : w.ownsRow b2 e2 s2 v2 n2 xs2) (hne : e1 ≠ e2) : v1.ownBlock = none ∨ v1.ownBlock ≠ v2.ownBlock := by
  rcases h1.2 with ⟨rfl, _⟩ | ⟨g, cap, cur, rfl, _, hg, _⟩
  · exact .inl rfl
  · right
    rcases h2.2 with ⟨rfl, _⟩ | ⟨g2, cap2, cur2, rfl, _, hg2, _⟩
    · simp [Value.ownBlock]
    · simp only [Value.ownBlock, ne_eq, Option.some.injEq]
      rintro rfl
      rw [hg] at hg2
      simp only [Option.some.injEq, Obj.cells.injEq] at hg2
      exact hne hg2.2.1
theorem flat_at : ∀ (l : List Rec) (I : Nat) (r : Rec) (j : Nat), l[I]? = some r → j < 7 → (l.flatMap cellsR)[I * 7 + j]? = (cellsR r)[j]?
  | [], _, _, _, h, _ => by simp at h
  | a :: l, 0, r, j, h, hj => by
    simp only [List.getElem?_cons_zero, Option.some.injEq] at h
    subst h
    rw [List.flatMap_cons, Nat.zero_mul, Nat.zero_add, List.getElem?_append_left (by simp [cellsR]; omega)]
  | a :: l, I + 1, r, j, h, hj => by
    simp only [List.getElem?_cons_succ] at h
    rw [List.flatMap_cons, List.getElem?_append_right (by simp [cellsR]; omega)]
    have : (I + 1) * 7 + j - (cellsR a).length = I * 7 + j := by simp [cellsR]; omega
    rw [this]
    exact flat_at l I r j h hj
/-- From y on there lies a record. -/
def RecFrom (w : World) (y : Addr) (r : Rec) : Prop := w.cell? y = some (.string r.n) ∧ w.cell? ⟨y.block, y.off + 1, none⟩ = some (.int .i64 r.ty) ∧ w.cell? ⟨y.block, y.off + 2, none⟩ = some (.int .i64 r.ttl) ∧ w.cell? ⟨y.block, y.off + 3, none⟩ = some (.int .i64 r.ad) ∧ w.cell? ⟨y.block, y.off + 4, none⟩ = some (.string r.tg) ∧ w.cell? ⟨y.block, y.off + 5, none⟩ = some (.string r.tx) ∧ w.cell? ⟨y.block, y.off + 6, none⟩ = some (.int .i64 r.se)
theorem RecFrom.lt {w : World} {y : Addr} {r : Rec} (h : RecFrom w y r) : y.block < w.heap.size := World.block_lt_of_cell? w _ h.1
theorem RecFrom.below {w w' : World} {y : Addr} {r : Rec} (h : RecFrom w y r) {n : Nat} (hb : Below n w w') (hn : y.block < n) : RecFrom w' y r := by
  obtain ⟨h0, h1, h2, h3, h4, h5, h6⟩ := h
  exact ⟨(hb.cell hn).trans h0, (hb.cell (p := ⟨y.block, y.off + 1, none⟩) hn).trans h1, (hb.cell (p := ⟨y.block, y.off + 2, none⟩) hn).trans h2, (hb.cell (p := ⟨y.block, y.off + 3, none⟩) hn).trans h3, (hb.cell (p := ⟨y.block, y.off + 4, none⟩) hn).trans h4, (hb.cell (p := ⟨y.block, y.off + 5, none⟩) hn).trans h5, (hb.cell (p := ⟨y.block, y.off + 6, none⟩) hn).trans h6⟩
theorem from_recs {w : World} {x : Addr} {i : Nat} {r : Rec} (h : ∀ j, j < 7 → w.cell? (x.add (i * 7 + j)) = (cellsR r)[j]?) : RecFrom w (x.add (i * 7)) r := by
  have e : ∀ j, 0 < j → (⟨(x.add (i * 7)).block, (x.add (i * 7)).off + j, none⟩ : Addr) = x.add (i * 7 + j) := by
    intro j hj
    unfold Addr.add
    rw [if_neg (by omega : ¬ (i * 7 + j = 0))]
    by_cases hz : i * 7 = 0
    · rw [if_pos hz, hz]; simp
    · rw [if_neg hz]; simp only [Addr.mk.injEq, and_true, true_and]; omega
  refine ⟨h 0 (by omega), ?_, ?_, ?_, ?_, ?_, ?_⟩
  · rw [e 1 (by omega)]; exact h 1 (by omega)
  · rw [e 2 (by omega)]; exact h 2 (by omega)
  · rw [e 3 (by omega)]; exact h 3 (by omega)
  · rw [e 4 (by omega)]; exact h 4 (by omega)
  · rw [e 5 (by omega)]; exact h 5 (by omega)
  · rw [e 6 (by omega)]; exact h 6 (by omega)


theorem RecFrom.keep {w w' : World} {y : Addr} {r : Rec} (h : RecFrom w y r) (hb : w'.heap[y.block]? = w.heap[y.block]?) : RecFrom w' y r := by
  obtain ⟨h0, h1, h2, h3, h4, h5, h6⟩ := h
  exact ⟨(World.cell?_of_block hb).trans h0, (World.cell?_of_block (a := ⟨y.block, y.off + 1, none⟩) hb).trans h1, (World.cell?_of_block (a := ⟨y.block, y.off + 2, none⟩) hb).trans h2, (World.cell?_of_block (a := ⟨y.block, y.off + 3, none⟩) hb).trans h3, (World.cell?_of_block (a := ⟨y.block, y.off + 4, none⟩) hb).trans h4, (World.cell?_of_block (a := ⟨y.block, y.off + 5, none⟩) hb).trans h5, (World.cell?_of_block (a := ⟨y.block, y.off + 6, none⟩) hb).trans h6⟩
theorem add_block (x : Addr) (n : Nat) : (x.add n).block = x.block := by unfold Addr.add; split <;> rfl
/-- The records rs lie behind the address a. -/
def RecsLie (w : World) (a : Option Addr) (rs : List Rec) : Prop := rs = [] ∨ ∃ x, a = some x ∧ ∀ j r, rs[j]? = some r → RecFrom w (x.add (j * 7)) r
theorem RecsLie.lt {w : World} {x : Addr} {rs : List Rec} (h : RecsLie w (some x) rs) (hn : rs ≠ []) : x.block < w.heap.size := by
  rcases h with h | ⟨y, e, h⟩
  · exact absurd h hn
  · cases e
    obtain ⟨r, rs', rfl⟩ : ∃ r rs', rs = r :: rs' := by cases rs with | nil => exact absurd rfl hn | cons r rs => exact ⟨r, rs, rfl⟩
    have := (h 0 r rfl).lt
    rw [add_block] at this; exact this
theorem RecsLie.keep {w w' : World} {a : Option Addr} {rs : List Rec} (h : RecsLie w a rs) (hb : ∀ x, a = some x → rs ≠ [] → w'.heap[x.block]? = w.heap[x.block]?) : RecsLie w' a rs := by
  rcases h with h | ⟨x, rfl, h⟩
  · exact .inl h
  · refine .inr ⟨x, rfl, fun j r hj => (h j r hj).keep ?_⟩
    rw [add_block]; exact hb x rfl (by intro e; rw [e] at hj; simp at hj)
theorem RecsLie.below {w w' : World} {a : Option Addr} {rs : List Rec} (h : RecsLie w a rs) (hb : Below w.heap.size w w') : RecsLie w' a rs :=
  h.keep fun x hx hn => by subst hx; exact hb.block _ (h.lt hn)

/-! ### questions -/
def cellsQ (q : Qn) : List Value := [.string q.n, .int .i64 q.ty]
def QnFrom (w : World) (y : Addr) (q : Qn) : Prop := w.cell? y = some (.string q.n) ∧ w.cell? ⟨y.block, y.off + 1, none⟩ = some (.int .i64 q.ty)
theorem QnFrom.lt {w : World} {y : Addr} {r : Qn} (h : QnFrom w y r) : y.block < w.heap.size := World.block_lt_of_cell? w _ h.1
theorem QnFrom.keep {w w' : World} {y : Addr} {r : Qn} (h : QnFrom w y r) (hb : w'.heap[y.block]? = w.heap[y.block]?) : QnFrom w' y r :=
  ⟨(World.cell?_of_block hb).trans h.1, (World.cell?_of_block (a := ⟨y.block, y.off + 1, none⟩) hb).trans h.2⟩
/-- The questions qs lie behind the address a. -/
def QuesLie (w : World) (a : Option Addr) (qs : List Qn) : Prop := qs = [] ∨ ∃ x, a = some x ∧ ∀ j q, qs[j]? = some q → QnFrom w (x.add (j * 2)) q
theorem QuesLie.lt {w : World} {x : Addr} {rs : List Qn} (h : QuesLie w (some x) rs) (hn : rs ≠ []) : x.block < w.heap.size := by
  rcases h with h | ⟨y, e, h⟩
  · exact absurd h hn
  · cases e
    obtain ⟨r, rs', rfl⟩ : ∃ r rs', rs = r :: rs' := by cases rs with | nil => exact absurd rfl hn | cons r rs => exact ⟨r, rs, rfl⟩
    have := (h 0 r rfl).lt
    rw [add_block] at this; exact this
theorem QuesLie.keep {w w' : World} {a : Option Addr} {rs : List Qn} (h : QuesLie w a rs) (hb : ∀ x, a = some x → rs ≠ [] → w'.heap[x.block]? = w.heap[x.block]?) : QuesLie w' a rs := by
  rcases h with h | ⟨x, rfl, h⟩
  · exact .inl h
  · refine .inr ⟨x, rfl, fun j r hj => (h j r hj).keep ?_⟩
    rw [add_block]; exact hb x rfl (by intro e; rw [e] at hj; simp at hj)
theorem QuesLie.below {w w' : World} {a : Option Addr} {rs : List Qn} (h : QuesLie w a rs) (hb : Below w.heap.size w w') : QuesLie w' a rs :=
  h.keep fun x hx hn => by subst hx; exact hb.block _ (h.lt hn)

/-! ### messages -/
/-- Where a message's lists lie, and how much room they have. -/
structure Pl where
  qa : Option Addr
  qc : Nat
  aa : Option Addr
  ac : Nat
  sa : Option Addr
  sc : Nat
  da : Option Addr
  dc : Nat
def cellsM (m : Msg) (h : Pl) : Array Value := #[.int .i64 m.id, .bool m.rsp, .int .i64 m.op, .bool m.au, .bool m.tr, .bool m.re, .int .i64 m.co, .slice h.qa m.qs.length h.qc, .slice h.aa m.an.length h.ac, .slice h.sa m.sv.length h.sc, .slice h.da m.ad.length h.dc, .int .i64 m.sz]
/-- As a value of Go's. -/
def mv (m : Msg) (h : Pl) : Value := .agg (cellsM m h)
structure MsgLies (w : World) (m : Msg) (h : Pl) : Prop where
  q : QuesLie w h.qa m.qs
  a : RecsLie w h.aa m.an
  s : RecsLie w h.sa m.sv
  d : RecsLie w h.da m.ad
theorem MsgLies.below {w w' : World} {m : Msg} {h : Pl} (l : MsgLies w m h) (hb : Below w.heap.size w w') : MsgLies w' m h := ⟨l.q.below hb, l.a.below hb, l.s.below hb, l.d.below hb⟩
/-- Texts and lists that a machine can hold. -/
structure MsgFits (m : Msg) : Prop where
  q : ∀ q ∈ m.qs, q.n.size ≤ maxLen
  a : ∀ r ∈ m.an, IsRec r
  s : ∀ r ∈ m.sv, IsRec r
  d : ∀ r ∈ m.ad, IsRec r
  ql : m.qs.length ≤ maxLen
  al : m.an.length ≤ maxLen
  sl : m.sv.length ≤ maxLen
  dl : m.ad.length ≤ maxLen
/-- Block c is a message, boxed. -/
def BoxM (w : World) (c : Nat) (m : Msg) (h : Pl) : Prop := w.heap[c]? = some (.cells (cellsM m h) 25 (0, 0))
theorem BoxM.new (w : World) (m : Msg) (h : Pl) : BoxM (w.alloc (.cells (cellsM m h) 25)) w.heap.size m h := heap_alloc_new w _
theorem BoxM.lt {w : World} {c : Nat} {m : Msg} {h : Pl} (b : BoxM w c m h) : c < w.heap.size := (Array.getElem?_eq_some_iff.1 b).1
theorem BoxM.below {w w' : World} {c : Nat} {m : Msg} {h : Pl} (b : BoxM w c m h) (hb : Below w.heap.size w w') : BoxM w' c m h := (hb.block c b.lt).trans b
theorem BoxM.cell {w : World} {c : Nat} {m : Msg} {h : Pl} (b : BoxM w c m h) (j : Nat) : w.cell? ⟨c, j, none⟩ = (cellsM m h)[j]? := by
  rw [BoxM] at b
  simp only [World.cell?, b]
  simp
theorem BoxM.not {w : World} {c : Nat} {m : Msg} {h : Pl} (b : BoxM w c m h) : ¬ isBytes w c := fun ⟨cur, f, e⟩ => by
  rw [BoxM] at b
  rw [b] at e
  simp only [Option.some.injEq, Obj.cells.injEq] at e
  exact absurd e.2.1 (by decide)
theorem BoxM.ink {w w' : World} {b c : Nat} {m : Msg} {h : Pl} (x : BoxM w c m h) (hi : Ink b w w') (hc : c ≠ b) : BoxM w' c m h := (hi.oth c x.lt hc x.not).trans x
/-- All cells. -/
theorem BoxM.all {w : World} {c : Nat} {m : Msg} {h : Pl} (b : BoxM w c m h) : w.cell? ⟨c, 0, none⟩ = some (.int .i64 m.id) ∧ w.cell? ⟨c, 1, none⟩ = some (.bool m.rsp) ∧ w.cell? ⟨c, 2, none⟩ = some (.int .i64 m.op) ∧ w.cell? ⟨c, 3, none⟩ = some (.bool m.au) ∧ w.cell? ⟨c, 4, none⟩ = some (.bool m.tr) ∧ w.cell? ⟨c, 5, none⟩ = some (.bool m.re) ∧ w.cell? ⟨c, 6, none⟩ = some (.int .i64 m.co) ∧
    w.cell? ⟨c, 7, none⟩ = some (.slice h.qa m.qs.length h.qc) ∧ w.cell? ⟨c, 8, none⟩ = some (.slice h.aa m.an.length h.ac) ∧ w.cell? ⟨c, 9, none⟩ = some (.slice h.sa m.sv.length h.sc) ∧ w.cell? ⟨c, 10, none⟩ = some (.slice h.da m.ad.length h.dc) ∧ w.cell? ⟨c, 11, none⟩ = some (.int .i64 m.sz) :=
  ⟨b.cell 0, b.cell 1, b.cell 2, b.cell 3, b.cell 4, b.cell 5, b.cell 6, b.cell 7, b.cell 8, b.cell 9, b.cell 10, b.cell 11⟩

end Go.Proofs.YtdmooggmoihggaaGreatDoor
