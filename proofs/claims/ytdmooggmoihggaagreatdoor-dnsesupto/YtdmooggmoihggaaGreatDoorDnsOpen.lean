/-
  A message that came in: opened.
-/
import Derived.Test.YtdmooggmoihggaaGreatDoorDnsMem
import Derived.ChangeArms
namespace Go.Proofs.YtdmooggmoihggaaGreatDoor
set_option maxRecDepth 100000
open Go.ChangeShapes Go.WideShapes Go.ChangeAt Go.RowKit Go.Pin

theorem bulk_mem {H : Type} {d : DataW H} : ∀ {ds : List (DataW H)}, d ∈ ds → Rows.uptoBulk d ≤ Rows.uptoBulkAll ds
  | [], h => by cases h
  | x :: xs, h => by
    simp only [Rows.uptoBulkAll]
    rcases List.mem_cons.1 h with rfl | h
    · omega
    · have := bulk_mem h; omega
theorem bulk_pos {H : Type} (d : DataW H) : 1 ≤ Rows.uptoBulk d := by
  cases d
  case lit l => cases l <;> simp [Rows.uptoBulk]
  all_goals simp [Rows.uptoBulk]
theorem bulk_len {H : Type} : ∀ (ds : List (DataW H)), ds.length ≤ Rows.uptoBulkAll ds
  | [] => by simp
  | x :: xs => by
    have h1 := bulk_len xs
    have h2 := bulk_pos x
    simp only [Rows.uptoBulkAll, List.length_cons]; omega

theorem Tryz.qnTwo : ∃ f0 f1 : Field, Tryz.prog.underlying 59 = some (.struct #[f0, f1]) ∧ f0.type = 9 ∧ f1.type = 3 ∧ f0.offset = 0 ∧ f1.offset = 1 :=
  ⟨_, _, Tryz.underlying59, rfl, rfl, rfl, rfl⟩
theorem Tryz.qnCells : Tryz.prog.cellsOf 59 = 2 := by kernel_rfl
theorem trod_qn {H : Type} {enc : TypeId × Value → H} {W : World} {base : Nat} {spare : Nat → Bool} {held : Bool} {fuel : Nat} {cs : List Value} {x : DataW H × List MemPlace}
    (h : DataW.trod enc Tryz.prog W base spare held fuel 59 cs = some x) : ∃ q : Qn, cs = cellsQ q ∧ q.n.size ≤ maxLen ∧ x.1 = .agg [.lit (.string (bs q.n)), .lit (.int .i64 q.ty)] := by
  obtain ⟨f0, f1, hs, t0, t1, o0, o1⟩ := Tryz.qnTwo
  obtain ⟨xs, n, _, hx, hl, hlen, hf⟩ := DataW.trod_struct hs h
  rw [Tryz.qnCells] at hl
  match cs, hl with
  | [c0, c1], _ =>
    match xs, hlen with
    | [y0, y1], _ =>
      have g0 := hf 0 f0 rfl
      have g1 := hf 1 f1 rfl
      simp only [t0, t1, o0, o1, Tryz.oneS, Tryz.oneI] at g0 g1
      simp at g0 g1
      obtain ⟨s0, e0, r0, z0⟩ := DataW.trod_string Tryz.underlying9 g0
      obtain ⟨s1, e1, r1, _⟩ := DataW.trod_int Tryz.underlying3 g1
      simp only [List.cons.injEq, and_true] at e0 e1
      refine ⟨⟨s0, s1⟩, ?_, z0, ?_⟩
      · simp [cellsQ, e0, e1]
      · rw [hx]; simp [r0, r1, bs]

theorem from_ques {w : World} {x : Addr} {i : Nat} {q : Qn} (h : ∀ j, j < 2 → w.cell? (x.add (i * 2 + j)) = (cellsQ q)[j]?) : QnFrom w (x.add (i * 2)) q := by
  have e : ∀ j, 0 < j → (⟨(x.add (i * 2)).block, (x.add (i * 2)).off + j, none⟩ : Addr) = x.add (i * 2 + j) := by
    intro j hj
    unfold Addr.add
    rw [if_neg (by omega : ¬ (i * 2 + j = 0))]
    by_cases hz : i * 2 = 0
    · rw [if_pos hz, hz]; simp
    · rw [if_neg hz]; simp only [Addr.mk.injEq, and_true, true_and]; omega
  refine ⟨h 0 (by omega), ?_⟩
  rw [e 1 (by omega)]; exact h 1 (by omega)

/-- A list of records in a field. -/
theorem open_rlist {H : Type} {enc : TypeId × Value → H} {W : World} {base : Nat} {spare : Nat → Bool} {held : Bool} {fuel : Nat} {cs : List Value} {x : DataW H × List MemPlace}
    (h : DataW.trod enc Tryz.prog W base spare held fuel 23 cs = some x) : ∃ (a : Option Addr) (rs : List Rec) (cap : Nat), cs = [.slice a rs.length cap] ∧ RecsLie W a rs ∧ (∀ r ∈ rs, IsRec r) ∧ rs.length ≤ maxLen ∧ rs.length ≤ Rows.uptoBulk x.1 ∧ ∀ r ∈ rs, r.n.size + r.tg.size + r.tx.size ≤ Rows.uptoBulk x.1 := by
  rcases Go.Deep.open_slice Tryz.underlying23 h with ⟨hcs, _⟩ | ⟨a, l, c, m, n, D, Pl, hcs, _, hl, hm, hmm, hx, hcell⟩
  · exact ⟨none, [], 0, hcs, .inl rfl, by simp, by simp, by simp, by simp⟩
  · have hlm : l ≤ m := by rw [hmm]; split <;> omega
    have each : ∀ i, i < l → ∃ r : Rec, (IsRec r ∧ ∀ j, j < 7 → W.cell? (a.add (i * 7 + j)) = (cellsR r)[j]?) ∧ D i = .agg [.lit (.string (bs r.n)), .lit (.int .i64 r.ty), .lit (.int .i64 r.ttl), .lit (.int .i64 r.ad), .lit (.string (bs r.tg)), .lit (.string (bs r.tx)), .lit (.int .i64 r.se)] := by
      intro i hi
      obtain ⟨cs', h1, h2⟩ := hcell i (by omega)
      obtain ⟨r, e1, e2, e3⟩ := trod_rec h2
      refine ⟨r, ⟨e2, fun j hj => ?_⟩, e3⟩
      rw [Tryz.rrCells] at h1
      obtain ⟨_, hlen, hc⟩ := World.cells?_some h1
      have := hc j hj
      rw [Go.Deep.add_add] at this
      rw [this, e1]
    haveI : Inhabited Rec := ⟨zeroR⟩
    obtain ⟨R, hR⟩ := Go.Deep.choose_lt each
    have hmem : ∀ r, r ∈ (List.range l).map R → ∃ i, i < l ∧ R i = r := fun r hr => by simpa using hr
    refine ⟨some a, (List.range l).map R, c, by simpa using hcs, .inr ⟨a, rfl, fun j r hj => ?_⟩, fun r hr => ?_, by simp; omega, ?_, fun r hr => ?_⟩
    · have hjl : j < l := by have := (List.getElem?_eq_some_iff.1 hj).1; simpa using this
      simp [List.getElem?_map, List.getElem?_range hjl] at hj
      subst hj
      exact from_recs (hR j hjl).1.2
    · obtain ⟨i, hi, rfl⟩ := hmem r hr
      exact (hR i hi).1.1
    · rw [hx]
      have := bulk_len ((List.range l).map D)
      simp only [Rows.uptoBulk, List.length_map, List.length_range] at this ⊢
      omega
    · obtain ⟨i, hi, rfl⟩ := hmem r hr
      have h1 := bulk_mem (d := D i) (ds := (List.range l).map D) (by simp; exact ⟨i, hi, rfl⟩)
      have h2 : (R i).n.size + (R i).tg.size + (R i).tx.size ≤ Rows.uptoBulk (D i) := by
        rw [(hR i hi).2]
        have q1 := length_bs (R i).n
        have q2 := length_bs (R i).tg
        have q3 := length_bs (R i).tx
        simp only [Rows.uptoBulk, Rows.uptoBulkAll]
        omega
      rw [hx]
      simp only [Rows.uptoBulk]
      omega
theorem open_qlist {H : Type} {enc : TypeId × Value → H} {W : World} {base : Nat} {spare : Nat → Bool} {held : Bool} {fuel : Nat} {cs : List Value} {x : DataW H × List MemPlace}
    (h : DataW.trod enc Tryz.prog W base spare held fuel 22 cs = some x) : ∃ (a : Option Addr) (qs : List Qn) (cap : Nat), cs = [.slice a qs.length cap] ∧ QuesLie W a qs ∧ (∀ q ∈ qs, q.n.size ≤ maxLen) ∧ qs.length ≤ maxLen ∧ qs.length ≤ Rows.uptoBulk x.1 ∧ ∀ q ∈ qs, q.n.size ≤ Rows.uptoBulk x.1 := by
  rcases Go.Deep.open_slice Tryz.underlying22 h with ⟨hcs, _⟩ | ⟨a, l, c, m, n, D, Pl, hcs, _, hl, hm, hmm, hx, hcell⟩
  · exact ⟨none, [], 0, hcs, .inl rfl, by simp, by simp, by simp, by simp⟩
  · have hlm : l ≤ m := by rw [hmm]; split <;> omega
    have each : ∀ i, i < l → ∃ r : Qn, (r.n.size ≤ maxLen ∧ ∀ j, j < 2 → W.cell? (a.add (i * 2 + j)) = (cellsQ r)[j]?) ∧ D i = .agg [.lit (.string (bs r.n)), .lit (.int .i64 r.ty)] := by
      intro i hi
      obtain ⟨cs', h1, h2⟩ := hcell i (by omega)
      obtain ⟨r, e1, e2, e3⟩ := trod_qn h2
      refine ⟨r, ⟨e2, fun j hj => ?_⟩, e3⟩
      rw [Tryz.qnCells] at h1
      obtain ⟨_, hlen, hc⟩ := World.cells?_some h1
      have := hc j hj
      rw [Go.Deep.add_add] at this
      rw [this, e1]
    haveI : Inhabited Qn := ⟨⟨⟨#[]⟩, 0⟩⟩
    obtain ⟨R, hR⟩ := Go.Deep.choose_lt each
    have hmem : ∀ r, r ∈ (List.range l).map R → ∃ i, i < l ∧ R i = r := fun r hr => by simpa using hr
    refine ⟨some a, (List.range l).map R, c, by simpa using hcs, .inr ⟨a, rfl, fun j r hj => ?_⟩, fun r hr => ?_, by simp; omega, ?_, fun r hr => ?_⟩
    · have hjl : j < l := by have := (List.getElem?_eq_some_iff.1 hj).1; simpa using this
      simp [List.getElem?_map, List.getElem?_range hjl] at hj
      subst hj
      exact from_ques (hR j hjl).1.2
    · obtain ⟨i, hi, rfl⟩ := hmem r hr
      exact (hR i hi).1.1
    · rw [hx]
      have := bulk_len ((List.range l).map D)
      simp only [Rows.uptoBulk, List.length_map, List.length_range] at this ⊢
      omega
    · obtain ⟨i, hi, rfl⟩ := hmem r hr
      have h1 := bulk_mem (d := D i) (ds := (List.range l).map D) (by simp; exact ⟨i, hi, rfl⟩)
      have h2 : (R i).n.size ≤ Rows.uptoBulk (D i) := by
        rw [(hR i hi).2]
        have q1 := length_bs (R i).n
        simp only [Rows.uptoBulk, Rows.uptoBulkAll]
        omega
      rw [hx]
      simp only [Rows.uptoBulk]
      omega

theorem Tryz.dnsTwelve : ∃ f0 f1 f2 f3 f4 f5 f6 f7 f8 f9 f10 f11 : Field, Tryz.prog.underlying 25 = some (.struct #[f0, f1, f2, f3, f4, f5, f6, f7, f8, f9, f10, f11]) ∧
    (f0.type = 3 ∧ f1.type = 4 ∧ f2.type = 3 ∧ f3.type = 4 ∧ f4.type = 4 ∧ f5.type = 4 ∧ f6.type = 3 ∧ f7.type = 22 ∧ f8.type = 23 ∧ f9.type = 23 ∧ f10.type = 23 ∧ f11.type = 3) ∧
    f0.offset = 0 ∧ f1.offset = 1 ∧ f2.offset = 2 ∧ f3.offset = 3 ∧ f4.offset = 4 ∧ f5.offset = 5 ∧ f6.offset = 6 ∧ f7.offset = 7 ∧ f8.offset = 8 ∧ f9.offset = 9 ∧ f10.offset = 10 ∧ f11.offset = 11 :=
  ⟨_, _, _, _, _, _, _, _, _, _, _, _, Tryz.underlying25, ⟨rfl, rfl, rfl, rfl, rfl, rfl, rfl, rfl, rfl, rfl, rfl, rfl⟩, rfl, rfl, rfl, rfl, rfl, rfl, rfl, rfl, rfl, rfl, rfl, rfl⟩
theorem Tryz.dnsCells : Tryz.prog.cellsOf 25 = 12 := by kernel_rfl
theorem Tryz.oneB : Tryz.prog.cellsOf 4 = 1 := by kernel_rfl
theorem Tryz.oneQs : Tryz.prog.cellsOf 22 = 1 := by kernel_rfl
theorem Tryz.oneRs : Tryz.prog.cellsOf 23 = 1 := by kernel_rfl
/-- How great a message's parts are. -/
structure MsgBulk (m : Msg) (n : Nat) : Prop where
  q : ∀ q ∈ m.qs, q.n.size ≤ n
  a : ∀ r ∈ m.an, r.n.size + r.tg.size + r.tx.size ≤ n
  s : ∀ r ∈ m.sv, r.n.size + r.tg.size + r.tx.size ≤ n
  d : ∀ r ∈ m.ad, r.n.size + r.tg.size + r.tx.size ≤ n
  l : m.qs.length + m.an.length + m.sv.length + m.ad.length ≤ n
theorem MsgBulk.mono {m : Msg} {n k : Nat} (h : MsgBulk m n) (hk : n ≤ k) : MsgBulk m k := ⟨fun q hq => Nat.le_trans (h.q q hq) hk, fun r hr => Nat.le_trans (h.a r hr) hk, fun r hr => Nat.le_trans (h.s r hr) hk, fun r hr => Nat.le_trans (h.d r hr) hk, Nat.le_trans h.l hk⟩
theorem open_msg {H : Type} {enc : TypeId × Value → H} {W : World} {base base0 : Nat} {spare : Nat → Bool} {held : Bool} {v : Value} {d : DataW H} {ps : List MemPlace}
    (hv : Value.okWide Tryz.prog W .any base0 25 v) (h : DataW.Trod enc Tryz.prog W base spare held 25 v d ps) : ∃ (m : Msg) (p : Pl), v = mv m p ∧ MsgLies W m p ∧ MsgFits m ∧ MsgBulk m (Rows.uptoBulk d) := by
  obtain ⟨f0, f1, f2, f3, f4, f5, f6, f7, f8, f9, f10, f11, hs, ⟨t0, t1, t2, t3, t4, t5, t6, t7, t8, t9, t10, t11⟩, o0, o1, o2, o3, o4, o5, o6, o7, o8, o9, o10, o11⟩ := Tryz.dnsTwelve
  obtain ⟨cs, rfl, hc⟩ := okWide_struct hs hv
  obtain ⟨fuel, hf⟩ := h
  obtain ⟨xs, n, _, hx, hl, hlen, hf⟩ := DataW.trod_struct hs hf
  rw [Tryz.dnsCells] at hl
  obtain ⟨cs⟩ := cs
  simp only [Value.cells] at hl hf
  match cs, hl with
  | [c0, c1, c2, c3, c4, c5, c6, c7, c8, c9, c10, c11], _ =>
    match xs, hlen with
    | [y0, y1, y2, y3, y4, y5, y6, y7, y8, y9, y10, y11], _ =>
      have g0 := hf 0 f0 rfl
      have g1 := hf 1 f1 rfl
      have g2 := hf 2 f2 rfl
      have g3 := hf 3 f3 rfl
      have g4 := hf 4 f4 rfl
      have g5 := hf 5 f5 rfl
      have g6 := hf 6 f6 rfl
      have g7 := hf 7 f7 rfl
      have g8 := hf 8 f8 rfl
      have g9 := hf 9 f9 rfl
      have g10 := hf 10 f10 rfl
      have g11 := hf 11 f11 rfl
      simp only [t0, t1, t2, t3, t4, t5, t6, t7, t8, t9, t10, t11, o0, o1, o2, o3, o4, o5, o6, o7, o8, o9, o10, o11, Tryz.oneB, Tryz.oneI, Tryz.oneQs, Tryz.oneRs] at g0 g1 g2 g3 g4 g5 g6 g7 g8 g9 g10 g11
      simp at g0 g1 g2 g3 g4 g5 g6 g7 g8 g9 g10 g11
      obtain ⟨s0, e0, _, _⟩ := DataW.trod_int Tryz.underlying3 g0
      obtain ⟨s1, e1, _⟩ := DataW.trod_bool Tryz.underlying4 g1
      obtain ⟨s2, e2, _, _⟩ := DataW.trod_int Tryz.underlying3 g2
      obtain ⟨s3, e3, _⟩ := DataW.trod_bool Tryz.underlying4 g3
      obtain ⟨s4, e4, _⟩ := DataW.trod_bool Tryz.underlying4 g4
      obtain ⟨s5, e5, _⟩ := DataW.trod_bool Tryz.underlying4 g5
      obtain ⟨s6, e6, _, _⟩ := DataW.trod_int Tryz.underlying3 g6
      obtain ⟨qa, qs, qc, e7, q1, q2, q3, q4, q5⟩ := open_qlist g7
      obtain ⟨aa, an, ac, e8, a1, a2, a3, a4, a5⟩ := open_rlist g8
      obtain ⟨sa, sv, sc, e9, b1, b2, b3, b4, b5⟩ := open_rlist g9
      obtain ⟨da, ad, dc, e10, d1, d2, d3, d4, d5⟩ := open_rlist g10
      obtain ⟨s11, e11, _, _⟩ := DataW.trod_int Tryz.underlying3 g11
      simp only [List.cons.injEq, and_true] at e0 e1 e2 e3 e4 e5 e6 e7 e8 e9 e10 e11
      have hd : d = .agg [y0.1, y1.1, y2.1, y3.1, y4.1, y5.1, y6.1, y7.1, y8.1, y9.1, y10.1, y11.1] := by
        have := congrArg Prod.fst hx
        simpa using this
      have hsum : Rows.uptoBulk y7.1 + Rows.uptoBulk y8.1 + Rows.uptoBulk y9.1 + Rows.uptoBulk y10.1 ≤ Rows.uptoBulk d := by
        rw [hd]; simp only [Rows.uptoBulk, Rows.uptoBulkAll]; omega
      refine ⟨⟨s0, s1, s2, s3, s4, s5, s6, qs, an, sv, ad, s11⟩, ⟨qa, qc, aa, ac, sa, sc, da, dc⟩, ?_, ⟨q1, a1, b1, d1⟩, ⟨q2, a2, b2, d2, q3, a3, b3, d3⟩, ⟨fun q h => ?_, fun r h => ?_, fun r h => ?_, fun r h => ?_, ?_⟩⟩
      · simp [mv, cellsM, e0, e1, e2, e3, e4, e5, e6, e7, e8, e9, e10, e11]
      · have := q5 q h; omega
      · have := a5 r h; omega
      · have := b5 r h; omega
      · have := d5 r h; omega
      · simp only; omega

end Go.Proofs.YtdmooggmoihggaaGreatDoor
