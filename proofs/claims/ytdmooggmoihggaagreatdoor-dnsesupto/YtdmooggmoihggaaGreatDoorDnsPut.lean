/-
  Contracts of package dns's given and Put, at every message.
-/
import Derived.Test.YtdmooggmoihggaaGreatDoorDnsGive
import Derived.Test.YtdmooggmoihggaaGreatDoorDnsAsk
namespace Go.Proofs.YtdmooggmoihggaaGreatDoor
set_option maxRecDepth 100000
open Go.ChangeShapes Go.WideShapes Go.ChangeAt Go.RowKit Go.Pin Go.PlainAid

theorem trio_cell {w : World} {B : Nat} {cs : Array Value} (h : w.heap[B]? = some (.cells cs 23 (0, 0))) (j : Nat) : w.cell? ⟨B, j, none⟩ = cs[j]? := by
  simp only [World.cell?, h]
  simp
theorem trio_ink {w w' : World} {b B : Nat} {cs : Array Value} (h : w.heap[B]? = some (.cells cs 23 (0, 0))) (hi : Ink b w w') (hn : B ≠ b) : w'.heap[B]? = some (.cells cs 23 (0, 0)) :=
  (hi.oth B (Array.getElem?_eq_some_iff.1 h).1 hn (fun ⟨cur, f, e⟩ => by
    rw [h] at e
    simp only [Option.some.injEq, Obj.cells.injEq] at e
    exact absurd e.2.1 (by decide))).trans h
theorem recs_at {w : World} {a : Option Addr} {rs : List Rec} (h : RecsLie w a rs) (j : Nat) (hj : j < rs.length) : ∃ x r, a = some x ∧ rs[j]? = some r ∧ RecFrom w (x.add (j * 7)) r := by
  rcases h with rfl | ⟨x, rfl, h⟩
  · simp at hj
  · exact ⟨x, rs[j], rfl, List.getElem?_eq_getElem hj, h j _ (List.getElem?_eq_getElem hj)⟩
theorem ques_at {w : World} {a : Option Addr} {rs : List Qn} (h : QuesLie w a rs) (j : Nat) (hj : j < rs.length) : ∃ x r, a = some x ∧ rs[j]? = some r ∧ QnFrom w (x.add (j * 2)) r := by
  rcases h with rfl | ⟨x, rfl, h⟩
  · simp at hj
  · exact ⟨x, rs[j], rfl, List.getElem?_eq_getElem hj, h j _ (List.getElem?_eq_getElem hj)⟩

set_option maxHeartbeats 4000000 in
theorem given_c (m : Msg) (p : Pl) (w : World) (hm : MayM m) (hf : MsgFits m) (hl : MsgLies w m p) (hL : Laid w) : Calls Tryz.prog 15 #[mv m p] w fun e w' => e = .returned (.string (mk (writtenM m))) ∧ Below w.heap.size w w' := by
  have HH : Hid (∀ b w, Wr w b 0 true ⟨[], [], false⟩ → Calls Tryz.prog 39 #[.pointer (some ⟨b, 0, none⟩), mv m p] w fun e w' => e = .returned (.tuple #[]) ∧ Wr w' b 0 true ⟨(stQ m 0).1, (stQ m 0).2, false⟩ ∧ Ink b w w') := fun b w h => head_w b m p w h hm
  have HQ : Hid (∀ (b j : Nat) (q : Qn), m.qs[j]? = some q → ∀ w, Wr w b 0 true ⟨(stQ m j).1, (stQ m j).2, false⟩ → Calls Tryz.prog 40 #[.pointer (some ⟨b, 0, none⟩), .agg #[.string q.n, .int .i64 q.ty]] w fun e w' => e = .returned (.tuple #[]) ∧ Wr w' b 0 true ⟨(stQ m (j + 1)).1, (stQ m (j + 1)).2, false⟩ ∧ Ink b w w') := fun b j q hq w h => by
    rw [stQ_next hq]
    exact ques_w b (stQ m j) q w h (stQ_ok hm j) (hm.qs q (List.mem_of_getElem? hq)) (hf.q q (List.mem_of_getElem? hq))
  have HR : ∀ (b j : Nat) (r : Rec), (m.an ++ m.sv ++ m.ad)[j]? = some r → IsRec r → ∀ w, Laid w → Wr w b 0 true ⟨(stR m j).1, (stR m j).2, false⟩ → Calls Tryz.prog 41 #[.pointer (some ⟨b, 0, none⟩), .func (.func 42) #[] #[], .agg #[.string r.n, .int .i64 r.ty, .int .i64 r.ttl, .int .i64 r.ad, .string r.tg, .string r.tx, .int .i64 r.se]] w fun e w' => e = .returned (.tuple #[]) ∧ Wr w' b 0 true ⟨(stR m (j + 1)).1, (stR m (j + 1)).2, false⟩ ∧ Ink b w w' := fun b j r hr hi w hL h => by
    rw [stR_next hr]
    exact rec_w b (stR m j) r w h (stR_ok hm j) (mem_all hm (List.mem_of_getElem? hr)) hi hL
  have HR0 : Hid (∀ (b j : Nat) (r : Rec), m.an[j]? = some r → ∀ w, Laid w → Wr w b 0 true ⟨(stR m (0 + j)).1, (stR m (0 + j)).2, false⟩ → Calls Tryz.prog 41 #[.pointer (some ⟨b, 0, none⟩), .func (.func 42) #[] #[], .agg #[.string r.n, .int .i64 r.ty, .int .i64 r.ttl, .int .i64 r.ad, .string r.tg, .string r.tx, .int .i64 r.se]] w fun e w' => e = .returned (.tuple #[]) ∧ Wr w' b 0 true ⟨(stR m (0 + (j + 1))).1, (stR m (0 + (j + 1))).2, false⟩ ∧ Ink b w w') := fun b j r hr => HR b (0 + j) r (by rw [Nat.zero_add]; exact all_an hr) (hf.a r (List.mem_of_getElem? hr))
  have HR1 : Hid (∀ (b j : Nat) (r : Rec), m.sv[j]? = some r → ∀ w, Laid w → Wr w b 0 true ⟨(stR m (m.an.length + j)).1, (stR m (m.an.length + j)).2, false⟩ → Calls Tryz.prog 41 #[.pointer (some ⟨b, 0, none⟩), .func (.func 42) #[] #[], .agg #[.string r.n, .int .i64 r.ty, .int .i64 r.ttl, .int .i64 r.ad, .string r.tg, .string r.tx, .int .i64 r.se]] w fun e w' => e = .returned (.tuple #[]) ∧ Wr w' b 0 true ⟨(stR m (m.an.length + (j + 1))).1, (stR m (m.an.length + (j + 1))).2, false⟩ ∧ Ink b w w') := fun b j r hr => HR b (m.an.length + j) r (all_sv hr) (hf.s r (List.mem_of_getElem? hr))
  have HR2 : Hid (∀ (b j : Nat) (r : Rec), m.ad[j]? = some r → ∀ w, Laid w → Wr w b 0 true ⟨(stR m (m.an.length + m.sv.length + j)).1, (stR m (m.an.length + m.sv.length + j)).2, false⟩ → Calls Tryz.prog 41 #[.pointer (some ⟨b, 0, none⟩), .func (.func 42) #[] #[], .agg #[.string r.n, .int .i64 r.ty, .int .i64 r.ttl, .int .i64 r.ad, .string r.tg, .string r.tx, .int .i64 r.se]] w fun e w' => e = .returned (.tuple #[]) ∧ Wr w' b 0 true ⟨(stR m (m.an.length + m.sv.length + (j + 1))).1, (stR m (m.an.length + m.sv.length + (j + 1))).2, false⟩ ∧ Ink b w w') := fun b j r hr => HR b (m.an.length + m.sv.length + j) r (all_ad hr) (hf.d r (List.mem_of_getElem? hr))
  clear HR
  have HO : Hid (∀ b : Nat, m.sz ≠ 0 → ∀ w, Wr w b 0 true ⟨(stR m (m.an.length + m.sv.length + m.ad.length)).1, (stR m (m.an.length + m.sv.length + m.ad.length)).2, false⟩ → Calls Tryz.prog 43 #[.pointer (some ⟨b, 0, none⟩), .int .i64 m.sz] w fun e w' => e = .returned (.tuple #[]) ∧ (∃ ks, Wr w' b 0 true ⟨writtenM m, ks, false⟩) ∧ Ink b w w') := fun b hz w h => by
    rw [written_is]
    exact opt_w b _ m.sz w h (stR_ok hm _) (by have := hm.sz; omega)
  have HO0 : Hid (m.sz = 0 → (stR m (m.an.length + m.sv.length + m.ad.length)).1 = writtenM m) := fun hz => by rw [written_is, hz]; simp [optL]
  have HG : Hid (∀ b x w, Wr w b 0 true x → _) := fun b x w h => given_g b 0 true x w h
  have hQR : Hid (stQ m m.qs.length = stR m 0) := by show _ = _; rw [stQ_len, stR_zero]
  obtain ⟨SQ, hSQ⟩ : ∃ f, stQ m = f := ⟨_, rfl⟩
  obtain ⟨SR, hSR⟩ : ∃ f, stR m = f := ⟨_, rfl⟩
  rw [hSQ] at HH HQ hQR
  rw [hSR] at HR0 HR1 HR2 HO HO0 hQR
  clear hSQ hSR
  generalize writtenM m = L at *
  obtain ⟨qa, qc, aa, ac, sa, sc, da, dc⟩ := p
  have hl4 : (m.qs.length : Int) ≤ 4 := by have := hm.ql; omega
  have hla : (m.an.length : Int) ≤ 32 := by have := hm.anl; omega
  have hls : (m.sv.length : Int) ≤ 32 := by have := hm.svl; omega
  have hld : (m.ad.length : Int) ≤ 32 := by have := hm.adl; omega
  have B0 : Hid (Below w.heap.size w (w.alloc (.cells (cellsM m ⟨qa, qc, aa, ac, sa, sc, da, dc⟩) 25))) := (Below.refl w.heap.size w).alloc (Nat.le_refl _) _
  have HX : Hid (∀ w', Below (w.heap.size + 1) (w.alloc (.cells (cellsM m ⟨qa, qc, aa, ac, sa, sc, da, dc⟩) 25)) w' → (w'.cell? ⟨w.heap.size, 0, none⟩ = some (.int .i64 m.id) ∧ w'.cell? ⟨w.heap.size, 1, none⟩ = some (.bool m.rsp) ∧ w'.cell? ⟨w.heap.size, 2, none⟩ = some (.int .i64 m.op) ∧ w'.cell? ⟨w.heap.size, 3, none⟩ = some (.bool m.au) ∧ w'.cell? ⟨w.heap.size, 4, none⟩ = some (.bool m.tr) ∧ w'.cell? ⟨w.heap.size, 5, none⟩ = some (.bool m.re) ∧ w'.cell? ⟨w.heap.size, 6, none⟩ = some (.int .i64 m.co) ∧
      w'.cell? ⟨w.heap.size, 7, none⟩ = some (.slice qa m.qs.length qc) ∧ w'.cell? ⟨w.heap.size, 8, none⟩ = some (.slice aa m.an.length ac) ∧ w'.cell? ⟨w.heap.size, 9, none⟩ = some (.slice sa m.sv.length sc) ∧ w'.cell? ⟨w.heap.size, 10, none⟩ = some (.slice da m.ad.length dc) ∧ w'.cell? ⟨w.heap.size, 11, none⟩ = some (.int .i64 m.sz)) ∧
      (∀ j, j < m.qs.length → ∃ x r, qa = some x ∧ m.qs[j]? = some r ∧ QnFrom w' (x.add (j * 2)) r) ∧ (∀ j, j < m.an.length → ∃ x r, aa = some x ∧ m.an[j]? = some r ∧ RecFrom w' (x.add (j * 7)) r) ∧ (∀ j, j < m.sv.length → ∃ x r, sa = some x ∧ m.sv[j]? = some r ∧ RecFrom w' (x.add (j * 7)) r) ∧ (∀ j, j < m.ad.length → ∃ x r, da = some x ∧ m.ad[j]? = some r ∧ RecFrom w' (x.add (j * 7)) r) ∧ Laid w') := fun w' hb => by
    have hb2 : Below w.heap.size w w' := B0.out.trans (hb.mono (by omega))
    have hX : BoxM w' w.heap.size m ⟨qa, qc, aa, ac, sa, sc, da, dc⟩ := (hb.block _ (by omega)).trans (BoxM.new w m _)
    exact ⟨hX.all, ques_at (hl.q.below hb2), recs_at (hl.a.below hb2), recs_at (hl.s.below hb2), recs_at (hl.d.below hb2), hL.below hb2⟩
  clear hm hf hl hL
  simp only [mv, cellsM] at HH B0 HX ⊢
  go_enter Tryz.func15, Tryz.ntmps15
  go_wp2_with fail
  have hsz0 : (w.alloc (.cells #[.int .i64 m.id, .bool m.rsp, .int .i64 m.op, .bool m.au, .bool m.tr, .bool m.re, .int .i64 m.co, .slice qa m.qs.length qc, .slice aa m.an.length ac, .slice sa m.sv.length sc, .slice da m.ad.length dc, .int .i64 m.sz] 25)).heap.size = w.heap.size + 1 := by simp
  generalize w.alloc (.cells #[.int .i64 m.id, .bool m.rsp, .int .i64 m.op, .bool m.au, .bool m.tr, .bool m.re, .int .i64 m.co, .slice qa m.qs.length qc, .slice aa m.an.length ac, .slice sa m.sv.length sc, .slice da m.ad.length dc, .int .i64 m.sz] 25) = w0 at *
  refine (from_g 0 none 0 0 _).mono ?_; rintro e w1 ⟨rfl, hb1⟩
  have hbig : w.heap.size + 1 ≤ w1.heap.size := by have := hb1.size; omega
  have HA : Below w1.heap.size w1 (w1.alloc (.cells #[.int .i64 0, .slice none 0 0, .slice none 0 0, .bool false] 78)) := (Below.refl _ _).alloc (Nat.le_refl _) _
  have WR : Hid (Wr (w1.alloc (.cells #[.int .i64 0, .slice none 0 0, .slice none 0 0, .bool false] 78)) w1.heap.size 0 true ⟨[], [], false⟩) :=
    ⟨new_cell _ _ _ _ _ rfl, new_cell _ _ _ _ _ rfl, ⟨none, 0, none, 0, new_cell _ _ _ _ _ rfl, Bytes.nil _ _, new_cell _ _ _ _ _ rfl, .inl rfl, (fun y hy _ => by cases hy), fun _ _ => World.ownsRow_nil _ _ _ _⟩, fun _ => new_frozen _ _ _ _, by simp⟩
  have Q2 : Hid (Below (w.heap.size + 1) w0 (w1.alloc (.cells #[.int .i64 0, .slice none 0 0, .slice none 0 0, .bool false] 78))) := (hb1.mono (by omega)).trans (HA.mono hbig)
  obtain ⟨⟨c0, c1, c2, c3, c4, c5, c6, c7, c8, c9, c10, c11⟩, _, _, _, _, hLL⟩ := HX.out _ Q2.out
  clear hb1 HA hLL
  go_wp2_with fail
  generalize w1.alloc (.cells #[.int .i64 0, .slice none 0 0, .slice none 0 0, .bool false] 78) = w2 at *
  refine (HH.out _ _ WR.out).mono ?_; rintro e w3 ⟨rfl, hW3, hI3⟩
  have W3 : Hid (Wr w3 w1.heap.size 0 true ⟨(SQ 0).1, (SQ 0).2, false⟩) := hW3
  have Q3 : Hid (Below (w.heap.size + 1) w0 w3) := Q2.out.trans (hI3.bel.mono hbig)
  clear c0 c1 c2 c3 c4 c5 c6 c7 c8 c9 c10 c11 hW3 hI3 WR Q2 HH
  obtain ⟨⟨c0, c1, c2, c3, c4, c5, c6, c7, c8, c9, c10, c11⟩, _, _, _, _, hLL⟩ := HX.out _ Q3.out
  clear hLL
  go_wp2_with fail
  clear c0 c1 c2 c3 c4 c5 c6 c7 c8 c9 c10 c11
  go_loopw [17] (fun i wr => ∃ j : Nat, j ≤ m.qs.length ∧ i = .int .i64 j ∧ Hid (Wr wr w1.heap.size 0 true ⟨(SQ j).1, (SQ j).2, false⟩) ∧ Hid (Below (w.heap.size + 1) w0 wr)) (fun i _ => m.qs.length - (intOf i).toNat)
  case atStart => exact ⟨0, Nat.zero_le _, rfl, W3.out, Q3.out⟩
  case round =>
    clear W3 Q3
    obtain ⟨j, hj, rfl, hWr, hBr⟩ := hrel
    by_cases hlt : j < m.qs.length
    · obtain ⟨x, r, rfl, hr, hrec⟩ := (HX.out _ hBr.out).2.1 j hlt
      have HC : Hid (∀ w, Wr w w1.heap.size 0 true ⟨(SQ j).1, (SQ j).2, false⟩ → _) := HQ.out w1.heap.size j r hr
      obtain ⟨g0, g1⟩ := hrec
      have hltw := hWr.out.lt
      have HA : Below wr.heap.size wr (wr.alloc (.cells #[.string r.n, .int .i64 r.ty] 59)) := (Below.refl _ _).alloc (Nat.le_refl _) _
      have Wr2 : Hid (Wr (wr.alloc (.cells #[.string r.n, .int .i64 r.ty] 59)) w1.heap.size 0 true ⟨(SQ j).1, (SQ j).2, false⟩) := hWr.out.below HA
      have Br2 : Hid (Below (w.heap.size + 1) w0 (wr.alloc (.cells #[.string r.n, .int .i64 r.ty] 59))) := hBr.out.trans (HA.mono (by omega))
      clear hr hWr hBr HA HQ
      obtain ⟨n, ty⟩ := r
      simp only at g0 g1 Wr2 Br2 HC
      go_wp2_with fail
      generalize wr.alloc (.cells #[.string n, .int .i64 ty] 59) = wa at *
      refine (HC.out _ Wr2.out).mono ?_; rintro e wb ⟨rfl, hWb, hIb⟩
      have Wb : Hid (_) := hWb
      have hb2 : Hid (Below (w.heap.size + 1) w0 wb) := Br2.out.trans (hIb.bel.mono hbig)
      clear g0 g1 Wr2 Br2 HC hIb hWb
      go_wp2
      go_roundw
      case rel => exact ⟨j + 1, by omega, by go_num, Wb.out, hb2⟩
      case measure => simp [intOf]; omega
    · obtain rfl : j = m.qs.length := by omega
      obtain ⟨⟨c0, c1, c2, c3, c4, c5, c6, c7, c8, c9, c10, c11⟩, _, _, _, _, hLL⟩ := HX.out _ hBr.out
      have hltw := hWr.out.lt
      have HA : Below wr.heap.size wr (wr.alloc (.cells #[.slice aa m.an.length ac, .slice sa m.sv.length sc, .slice da m.ad.length dc] 23)) := (Below.refl _ _).alloc (Nat.le_refl _) _
      have W0 : Hid (Wr (wr.alloc (.cells #[.slice aa m.an.length ac, .slice sa m.sv.length sc, .slice da m.ad.length dc] 23)) w1.heap.size 0 true ⟨(SR (0 + 0)).1, (SR (0 + 0)).2, false⟩) := by
        have := hWr.out.below HA
        rw [hQR.out] at this
        exact this
      have Q0 : Hid (Below (w.heap.size + 1) w0 (wr.alloc (.cells #[.slice aa m.an.length ac, .slice sa m.sv.length sc, .slice da m.ad.length dc] 23))) := hBr.out.trans (HA.mono (by omega))
      have T0 : Hid ((wr.alloc (.cells #[.slice aa m.an.length ac, .slice sa m.sv.length sc, .slice da m.ad.length dc] 23)).heap[wr.heap.size]? = some (.cells #[.slice aa m.an.length ac, .slice sa m.sv.length sc, .slice da m.ad.length dc] 23 (0, 0))) := heap_alloc_new wr _
      have hBne : wr.heap.size ≠ w1.heap.size := by omega
      clear hWr hBr HA hlt hj HQ hQR hLL
      go_wp2_with fail
      clear c0 c1 c2 c3 c4 c5 c6 c7 c8 c9 c10 c11
      refine wp_loop_rounds 4 ?_
      rw [rounds_succ]
      have k0 := trio_cell T0.out 0
      have k1 := trio_cell T0.out 1
      have k2 := trio_cell T0.out 2
      simp only [List.getElem?_toArray, List.getElem?_cons_zero, List.getElem?_cons_succ] at k0 k1 k2
      generalize wr.alloc (.cells #[.slice aa m.an.length ac, .slice sa m.sv.length sc, .slice da m.ad.length dc] 23) = wk at *
      generalize wr.heap.size = B at *
      go_wp2_with fail
      clear k0 k1 k2
      go_loopw [38] (fun i wr => ∃ j : Nat, j ≤ m.an.length ∧ i = .int .i64 j ∧ Hid (Wr wr w1.heap.size 0 true ⟨(SR (0 + j)).1, (SR (0 + j)).2, false⟩) ∧ Hid (Below (w.heap.size + 1) w0 wr) ∧ Hid (wr.heap[B]? = some (.cells #[.slice aa m.an.length ac, .slice sa m.sv.length sc, .slice da m.ad.length dc] 23 (0, 0)))) (fun i _ => m.an.length - (intOf i).toNat)
      case atStart => exact ⟨0, Nat.zero_le _, rfl, W0.out, Q0.out, T0.out⟩
      case round =>
        clear W0 Q0 T0
        obtain ⟨j, hj, rfl, hWr, hBr, hTr⟩ := hrel
        by_cases hlt : j < m.an.length
        · obtain ⟨x, r, rfl, hr, hrec⟩ := (HX.out _ hBr.out).2.2.1 j hlt
          have hL := (HX.out _ hBr.out).2.2.2.2.2
          have HC : Hid (∀ w, Laid w → Wr w w1.heap.size 0 true ⟨(SR (0 + j)).1, (SR (0 + j)).2, false⟩ → _) := HR0.out w1.heap.size j r hr
          obtain ⟨g0, g1, g2, g3, g4, g5, g6⟩ := hrec
          have hltw := hWr.out.lt
          have HA : Below wr.heap.size wr (wr.alloc (.cells #[.string r.n, .int .i64 r.ty, .int .i64 r.ttl, .int .i64 r.ad, .string r.tg, .string r.tx, .int .i64 r.se] 82)) := (Below.refl _ _).alloc (Nat.le_refl _) _
          have Wr2 : Hid (Wr (wr.alloc (.cells #[.string r.n, .int .i64 r.ty, .int .i64 r.ttl, .int .i64 r.ad, .string r.tg, .string r.tx, .int .i64 r.se] 82)) w1.heap.size 0 true ⟨(SR (0 + j)).1, (SR (0 + j)).2, false⟩) := hWr.out.below HA
          have Br2 : Hid (Below (w.heap.size + 1) w0 (wr.alloc (.cells #[.string r.n, .int .i64 r.ty, .int .i64 r.ttl, .int .i64 r.ad, .string r.tg, .string r.tx, .int .i64 r.se] 82))) := hBr.out.trans (HA.mono (by omega))
          have Tr2 : Hid ((wr.alloc (.cells #[.string r.n, .int .i64 r.ty, .int .i64 r.ttl, .int .i64 r.ad, .string r.tg, .string r.tx, .int .i64 r.se] 82)).heap[B]? = some (.cells #[.slice (some x) m.an.length ac, .slice sa m.sv.length sc, .slice da m.ad.length dc] 23 (0, 0))) := (HA.block B (Array.getElem?_eq_some_iff.1 hTr.out).1).trans hTr.out
          have L2 : Hid (Laid (wr.alloc (.cells #[.string r.n, .int .i64 r.ty, .int .i64 r.ttl, .int .i64 r.ad, .string r.tg, .string r.tx, .int .i64 r.se] 82))) := hL.below HA
          clear hr hL hWr hBr hTr HA HR0 HR1 HR2
          obtain ⟨n, ty, ttl, ad, tg, tx, se⟩ := r
          simp only at g0 g1 g2 g3 g4 g5 g6 Wr2 Br2 Tr2 L2 HC
          go_wp2_with fail
          generalize wr.alloc (.cells #[.string n, .int .i64 ty, .int .i64 ttl, .int .i64 ad, .string tg, .string tx, .int .i64 se] 82) = wa at *
          refine (HC.out _ L2.out Wr2.out).mono ?_; rintro e wb ⟨rfl, hWb, hIb⟩
          have Wb : Hid (_) := hWb
          have hb2 : Hid (Below (w.heap.size + 1) w0 wb) := Br2.out.trans (hIb.bel.mono hbig)
          have ht2 : Hid (wb.heap[B]? = some (.cells #[.slice (some x) m.an.length ac, .slice sa m.sv.length sc, .slice da m.ad.length dc] 23 (0, 0))) := trio_ink Tr2.out hIb hBne
          clear g0 g1 g2 g3 g4 g5 g6 Wr2 Br2 Tr2 L2 HC hIb hWb
          go_wp2
          go_roundw
          case rel => exact ⟨j + 1, by omega, by go_num, Wb.out, hb2, ht2⟩
          case measure => simp [intOf]; omega
        · obtain rfl : j = m.an.length := by omega
          have k0 := trio_cell hTr.out 0
          have k1 := trio_cell hTr.out 1
          have k2 := trio_cell hTr.out 2
          simp only [List.getElem?_toArray, List.getElem?_cons_zero, List.getElem?_cons_succ] at k0 k1 k2
          have W1 : Hid (Wr wr w1.heap.size 0 true ⟨(SR (m.an.length + 0)).1, (SR (m.an.length + 0)).2, false⟩) := by have := hWr.out; rw [Nat.zero_add] at this; exact this
          have Q1 : Hid (Below (w.heap.size + 1) w0 wr) := hBr.out
          have T1 : Hid (wr.heap[B]? = some (.cells #[.slice aa m.an.length ac, .slice sa m.sv.length sc, .slice da m.ad.length dc] 23 (0, 0))) := hTr.out
          clear hWr hBr hTr hlt hj
          go_wp2_with fail
          rw [rounds_succ]
          go_wp2_with fail
          clear k0 k1 k2
          rename World => wk1
          go_loopw [38] (fun i wr => ∃ j : Nat, j ≤ m.sv.length ∧ i = .int .i64 j ∧ Hid (Wr wr w1.heap.size 0 true ⟨(SR (m.an.length + j)).1, (SR (m.an.length + j)).2, false⟩) ∧ Hid (Below (w.heap.size + 1) w0 wr) ∧ Hid (wr.heap[B]? = some (.cells #[.slice aa m.an.length ac, .slice sa m.sv.length sc, .slice da m.ad.length dc] 23 (0, 0)))) (fun i _ => m.sv.length - (intOf i).toNat)
          case atStart => exact ⟨0, Nat.zero_le _, rfl, W1.out, Q1.out, T1.out⟩
          case round =>
            clear W1 Q1 T1
            obtain ⟨j, hj, rfl, hWr, hBr, hTr⟩ := hrel
            by_cases hlt : j < m.sv.length
            · obtain ⟨x, r, rfl, hr, hrec⟩ := (HX.out _ hBr.out).2.2.2.1 j hlt
              have hL := (HX.out _ hBr.out).2.2.2.2.2
              have HC : Hid (∀ w, Laid w → Wr w w1.heap.size 0 true ⟨(SR (m.an.length + j)).1, (SR (m.an.length + j)).2, false⟩ → _) := HR1.out w1.heap.size j r hr
              obtain ⟨g0, g1, g2, g3, g4, g5, g6⟩ := hrec
              have hltw := hWr.out.lt
              have HA : Below wr.heap.size wr (wr.alloc (.cells #[.string r.n, .int .i64 r.ty, .int .i64 r.ttl, .int .i64 r.ad, .string r.tg, .string r.tx, .int .i64 r.se] 82)) := (Below.refl _ _).alloc (Nat.le_refl _) _
              have Wr2 : Hid (Wr (wr.alloc (.cells #[.string r.n, .int .i64 r.ty, .int .i64 r.ttl, .int .i64 r.ad, .string r.tg, .string r.tx, .int .i64 r.se] 82)) w1.heap.size 0 true ⟨(SR (m.an.length + j)).1, (SR (m.an.length + j)).2, false⟩) := hWr.out.below HA
              have Br2 : Hid (Below (w.heap.size + 1) w0 (wr.alloc (.cells #[.string r.n, .int .i64 r.ty, .int .i64 r.ttl, .int .i64 r.ad, .string r.tg, .string r.tx, .int .i64 r.se] 82))) := hBr.out.trans (HA.mono (by omega))
              have Tr2 : Hid ((wr.alloc (.cells #[.string r.n, .int .i64 r.ty, .int .i64 r.ttl, .int .i64 r.ad, .string r.tg, .string r.tx, .int .i64 r.se] 82)).heap[B]? = some (.cells #[.slice aa m.an.length ac, .slice (some x) m.sv.length sc, .slice da m.ad.length dc] 23 (0, 0))) := (HA.block B (Array.getElem?_eq_some_iff.1 hTr.out).1).trans hTr.out
              have L2 : Hid (Laid (wr.alloc (.cells #[.string r.n, .int .i64 r.ty, .int .i64 r.ttl, .int .i64 r.ad, .string r.tg, .string r.tx, .int .i64 r.se] 82))) := hL.below HA
              clear hr hL hWr hBr hTr HA HR0 HR1 HR2
              obtain ⟨n, ty, ttl, ad, tg, tx, se⟩ := r
              simp only at g0 g1 g2 g3 g4 g5 g6 Wr2 Br2 Tr2 L2 HC
              go_wp2_with fail
              generalize wr.alloc (.cells #[.string n, .int .i64 ty, .int .i64 ttl, .int .i64 ad, .string tg, .string tx, .int .i64 se] 82) = wa at *
              refine (HC.out _ L2.out Wr2.out).mono ?_; rintro e wb ⟨rfl, hWb, hIb⟩
              have Wb : Hid (_) := hWb
              have hb2 : Hid (Below (w.heap.size + 1) w0 wb) := Br2.out.trans (hIb.bel.mono hbig)
              have ht2 : Hid (wb.heap[B]? = some (.cells #[.slice aa m.an.length ac, .slice (some x) m.sv.length sc, .slice da m.ad.length dc] 23 (0, 0))) := trio_ink Tr2.out hIb hBne
              clear g0 g1 g2 g3 g4 g5 g6 Wr2 Br2 Tr2 L2 HC hIb hWb
              go_wp2
              go_roundw
              case rel => exact ⟨j + 1, by omega, by go_num, Wb.out, hb2, ht2⟩
              case measure => simp [intOf]; omega
            · obtain rfl : j = m.sv.length := by omega
              have k0 := trio_cell hTr.out 0
              have k1 := trio_cell hTr.out 1
              have k2 := trio_cell hTr.out 2
              simp only [List.getElem?_toArray, List.getElem?_cons_zero, List.getElem?_cons_succ] at k0 k1 k2
              have W2 : Hid (Wr wr w1.heap.size 0 true ⟨(SR (m.an.length + m.sv.length + 0)).1, (SR (m.an.length + m.sv.length + 0)).2, false⟩) := by have := hWr.out; exact this
              have Q2 : Hid (Below (w.heap.size + 1) w0 wr) := hBr.out
              have T2 : Hid (wr.heap[B]? = some (.cells #[.slice aa m.an.length ac, .slice sa m.sv.length sc, .slice da m.ad.length dc] 23 (0, 0))) := hTr.out
              clear hWr hBr hTr hlt hj
              go_wp2_with fail
              rw [rounds_succ]
              go_wp2_with fail
              clear k0 k1 k2
              rename World => wk2
              go_loopw [38] (fun i wr => ∃ j : Nat, j ≤ m.ad.length ∧ i = .int .i64 j ∧ Hid (Wr wr w1.heap.size 0 true ⟨(SR (m.an.length + m.sv.length + j)).1, (SR (m.an.length + m.sv.length + j)).2, false⟩) ∧ Hid (Below (w.heap.size + 1) w0 wr) ∧ Hid (wr.heap[B]? = some (.cells #[.slice aa m.an.length ac, .slice sa m.sv.length sc, .slice da m.ad.length dc] 23 (0, 0)))) (fun i _ => m.ad.length - (intOf i).toNat)
              case atStart => exact ⟨0, Nat.zero_le _, rfl, W2.out, Q2.out, T2.out⟩
              case round =>
                clear W2 Q2 T2
                obtain ⟨j, hj, rfl, hWr, hBr, hTr⟩ := hrel
                by_cases hlt : j < m.ad.length
                · obtain ⟨x, r, rfl, hr, hrec⟩ := (HX.out _ hBr.out).2.2.2.2.1 j hlt
                  have hL := (HX.out _ hBr.out).2.2.2.2.2
                  have HC : Hid (∀ w, Laid w → Wr w w1.heap.size 0 true ⟨(SR (m.an.length + m.sv.length + j)).1, (SR (m.an.length + m.sv.length + j)).2, false⟩ → _) := HR2.out w1.heap.size j r hr
                  obtain ⟨g0, g1, g2, g3, g4, g5, g6⟩ := hrec
                  have hltw := hWr.out.lt
                  have HA : Below wr.heap.size wr (wr.alloc (.cells #[.string r.n, .int .i64 r.ty, .int .i64 r.ttl, .int .i64 r.ad, .string r.tg, .string r.tx, .int .i64 r.se] 82)) := (Below.refl _ _).alloc (Nat.le_refl _) _
                  have Wr2 : Hid (Wr (wr.alloc (.cells #[.string r.n, .int .i64 r.ty, .int .i64 r.ttl, .int .i64 r.ad, .string r.tg, .string r.tx, .int .i64 r.se] 82)) w1.heap.size 0 true ⟨(SR (m.an.length + m.sv.length + j)).1, (SR (m.an.length + m.sv.length + j)).2, false⟩) := hWr.out.below HA
                  have Br2 : Hid (Below (w.heap.size + 1) w0 (wr.alloc (.cells #[.string r.n, .int .i64 r.ty, .int .i64 r.ttl, .int .i64 r.ad, .string r.tg, .string r.tx, .int .i64 r.se] 82))) := hBr.out.trans (HA.mono (by omega))
                  have Tr2 : Hid ((wr.alloc (.cells #[.string r.n, .int .i64 r.ty, .int .i64 r.ttl, .int .i64 r.ad, .string r.tg, .string r.tx, .int .i64 r.se] 82)).heap[B]? = some (.cells #[.slice aa m.an.length ac, .slice sa m.sv.length sc, .slice (some x) m.ad.length dc] 23 (0, 0))) := (HA.block B (Array.getElem?_eq_some_iff.1 hTr.out).1).trans hTr.out
                  have L2 : Hid (Laid (wr.alloc (.cells #[.string r.n, .int .i64 r.ty, .int .i64 r.ttl, .int .i64 r.ad, .string r.tg, .string r.tx, .int .i64 r.se] 82))) := hL.below HA
                  clear hr hL hWr hBr hTr HA HR0 HR1 HR2
                  obtain ⟨n, ty, ttl, ad, tg, tx, se⟩ := r
                  simp only at g0 g1 g2 g3 g4 g5 g6 Wr2 Br2 Tr2 L2 HC
                  go_wp2_with fail
                  generalize wr.alloc (.cells #[.string n, .int .i64 ty, .int .i64 ttl, .int .i64 ad, .string tg, .string tx, .int .i64 se] 82) = wa at *
                  refine (HC.out _ L2.out Wr2.out).mono ?_; rintro e wb ⟨rfl, hWb, hIb⟩
                  have Wb : Hid (_) := hWb
                  have hb2 : Hid (Below (w.heap.size + 1) w0 wb) := Br2.out.trans (hIb.bel.mono hbig)
                  have ht2 : Hid (wb.heap[B]? = some (.cells #[.slice aa m.an.length ac, .slice sa m.sv.length sc, .slice (some x) m.ad.length dc] 23 (0, 0))) := trio_ink Tr2.out hIb hBne
                  clear g0 g1 g2 g3 g4 g5 g6 Wr2 Br2 Tr2 L2 HC hIb hWb
                  go_wp2
                  go_roundw
                  case rel => exact ⟨j + 1, by omega, by go_num, Wb.out, hb2, ht2⟩
                  case measure => simp [intOf]; omega
                · obtain rfl : j = m.ad.length := by omega
                  have k0 := trio_cell hTr.out 0
                  have k1 := trio_cell hTr.out 1
                  have k2 := trio_cell hTr.out 2
                  simp only [List.getElem?_toArray, List.getElem?_cons_zero, List.getElem?_cons_succ] at k0 k1 k2
                  obtain ⟨⟨c0, c1, c2, c3, c4, c5, c6, c7, c8, c9, c10, c11⟩, _, _, _, _, hLL⟩ := HX.out _ hBr.out
                  have WN : Hid (Wr wr w1.heap.size 0 true ⟨(SR (m.an.length + m.sv.length + m.ad.length)).1, (SR (m.an.length + m.sv.length + m.ad.length)).2, false⟩) := hWr.out
                  have QN : Hid (Below (w.heap.size + 1) w0 wr) := hBr.out
                  clear hWr hBr hTr hlt hj hLL
                  go_wp2_with fail
                  rw [rounds_succ]
                  by_cases hz : m.sz = 0
                  · have hbz : (m.sz != 0) = false := by simp [hz]
                    have hP := HO0.out hz
                    clear hz HO0
                    go_wp2_with fail
                    refine (HG.out _ _ _ WN.out).mono ?_; rintro e wz ⟨rfl, rfl⟩
                    go_wp2
                    go_ret
                    exact ⟨rfl, B0.out.trans (QN.out.mono (by omega))⟩
                  · have hbz : (m.sz != 0) = true := by simpa using hz
                    have HOz : Hid (∀ w, Wr w w1.heap.size 0 true ⟨(SR (m.an.length + m.sv.length + m.ad.length)).1, (SR (m.an.length + m.sv.length + m.ad.length)).2, false⟩ → _) := HO.out w1.heap.size hz
                    clear hz HO
                    go_wp2_with fail
                    refine (HOz.out _ WN.out).mono ?_; rintro e wo ⟨rfl, ⟨ks, hWo⟩, hIo⟩
                    have Wo : Hid (Wr wo w1.heap.size 0 true ⟨L, ks, false⟩) := hWo
                    have Qo : Hid (Below (w.heap.size + 1) w0 wo) := QN.out.trans (hIo.bel.mono hbig)
                    clear hIo hWo c0 c1 c2 c3 c4 c5 c6 c7 c8 c9 c10 c11 WN QN
                    go_wp2_with fail
                    refine (HG.out _ _ _ Wo.out).mono ?_; rintro e wz ⟨rfl, rfl⟩
                    go_wp2
                    go_ret
                    exact ⟨rfl, B0.out.trans (Qo.out.mono (by omega))⟩

/-! ### Put -/
def cutP (p : Pl) : Pl := ⟨p.qa, p.qc, none, 0, none, 0, none, 0⟩
theorem cut_lies {w : World} {m : Msg} {p : Pl} (h : MsgLies w m p) : MsgLies w (cutM m) (cutP p) := ⟨h.q, .inl rfl, .inl rfl, .inl rfl⟩
theorem cut_fits {m : Msg} (h : MsgFits m) : MsgFits (cutM m) := ⟨h.q, by simp [cutM], by simp [cutM], by simp [cutM], h.ql, by simp [cutM], by simp [cutM], by simp [cutM]⟩
theorem without_c (m : Msg) (p : Pl) (w : World) : Calls Tryz.prog 16 #[mv m p] w fun e w' => e = .returned (mv (cutM m) (cutP p)) ∧ Below w.heap.size w w' := by
  simp only [mv, cellsM, cutM, cutP]
  go_enter Tryz.func16, Tryz.ntmps16
  go_wp2
  refine bodyPost_ret (v := .agg #[.int .i64 m.id, .bool m.rsp, .int .i64 m.op, .bool m.au, .bool true, .bool m.re, .int .i64 m.co, .slice p.qa m.qs.length p.qc, .slice none 0 0, .slice none 0 0, .slice none 0 0, .int .i64 m.sz]) (by simp [results, Tryz.results16, go_sem]) rfl ⟨rfl, ?_⟩
  exact ((Below.refl _ _).alloc (Nat.le_refl _) _).alloc (by simp) _

theorem dput_may (m : Msg) (p : Pl) (most : Int) (w : World) (hf : MsgFits m) (hl : MsgLies w m p) (hm : mayM m = false) :
    Calls Tryz.prog 5 #[mv m p, .int .i64 most] w fun e w' => e = .returned (.tuple #[.string ⟨#[]⟩, .int .i64 500]) ∧ Below w.heap.size w w' := by
  have B0 : Hid (Below w.heap.size w (w.alloc (.cells (cellsM m p) 25))) := (Below.refl w.heap.size w).alloc (Nat.le_refl _) _
  have HM : Hid (∀ w', Below w.heap.size w w' → _) := fun w' hb => dMay_c m p w' hf (hl.below hb)
  rw [hm] at HM
  clear hf hl hm
  simp only [mv, cellsM] at *
  go_enter Tryz.func5, Tryz.ntmps5
  go_wp2_with fail
  refine (HM.out _ B0.out).mono ?_; rintro e w1 ⟨rfl, hb1⟩
  have B1 : Hid (Below w.heap.size w w1) := bel_trans B0.out hb1
  clear hb1
  go_wp2
  go_ret2
  exact ⟨rfl, B1.out⟩
theorem dput_most (m : Msg) (p : Pl) (most : Int) (w : World) (hf : MsgFits m) (hl : MsgLies w m p) (hm : mayM m = true) (ho : most < 12 ∨ 65535 < most) :
    Calls Tryz.prog 5 #[mv m p, .int .i64 most] w fun e w' => e = .returned (.tuple #[.string ⟨#[]⟩, .int .i64 500]) ∧ Below w.heap.size w w' := by
  have B0 : Hid (Below w.heap.size w (w.alloc (.cells (cellsM m p) 25))) := (Below.refl w.heap.size w).alloc (Nat.le_refl _) _
  have HM : Hid (∀ w', Below w.heap.size w w' → _) := fun w' hb => dMay_c m p w' hf (hl.below hb)
  rw [hm] at HM
  clear hf hl hm
  simp only [mv, cellsM] at *
  by_cases h12 : most < 12
  · have hd : decide (most < 12) = true := by simpa using h12
    clear ho
    go_enter Tryz.func5, Tryz.ntmps5
    go_wp2_with fail
    refine (HM.out _ B0.out).mono ?_; rintro e w1 ⟨rfl, hb1⟩
    have B1 : Hid (Below w.heap.size w w1) := bel_trans B0.out hb1
    clear hb1
    go_wp2
    go_ret2
    exact ⟨rfl, B1.out⟩
  · have hd : decide (most < 12) = false := by simpa using h12
    have hd2 : decide (65535 < most) = true := by simp; omega
    clear ho
    go_enter Tryz.func5, Tryz.ntmps5
    go_wp2_with fail
    refine (HM.out _ B0.out).mono ?_; rintro e w1 ⟨rfl, hb1⟩
    have B1 : Hid (Below w.heap.size w w1) := bel_trans B0.out hb1
    clear hb1
    go_wp2
    go_ret2
    exact ⟨rfl, B1.out⟩
set_option maxHeartbeats 1000000 in
theorem dput_on (m : Msg) (p : Pl) (most : Int) (w : World) (hf : MsgFits m) (hl : MsgLies w m p) (hL : Laid w) (hm : MayM m) (h0 : 12 ≤ most) (h1 : most ≤ 65535) :
    Calls Tryz.prog 5 #[mv m p, .int .i64 most] w fun e w' => e = .returned (.tuple #[.string (if ((writtenM m).length : Int) ≤ most then mk (writtenM m) else if ((writtenM (cutM m)).length : Int) ≤ most then mk (writtenM (cutM m)) else ⟨#[]⟩), .int .i64 (if ((writtenM m).length : Int) ≤ most then 0 else if ((writtenM (cutM m)).length : Int) ≤ most then 0 else 501)]) ∧ Below w.heap.size w w' := by
  have B0 : Hid (Below w.heap.size w (w.alloc (.cells (cellsM m p) 25))) := (Below.refl w.heap.size w).alloc (Nat.le_refl _) _
  have HM : Hid (∀ w', Below w.heap.size w w' → _) := fun w' hb => dMay_c m p w' hf (hl.below hb)
  rw [(mayM_iff m).2 hm] at HM
  have HG : Hid (∀ w', Below w.heap.size w w' → _) := fun w' hb => given_c m p w' hm hf (hl.below hb) (hL.below hb)
  have HW : Hid (∀ w', _) := fun w' => without_c m p w'
  have HC : Hid (∀ w', Below w.heap.size w w' → _) := fun w' hb => given_c (cutM m) (cutP p) w' (mayM_cut hm) (cut_fits hf) (cut_lies (hl.below hb)) (hL.below hb)
  have BX : Hid (BoxM (w.alloc (.cells (cellsM m p) 25)) w.heap.size m p) := BoxM.new w m p
  have hbel : Hid (∀ w' w'', BoxM w' w.heap.size m p → Below w'.heap.size w' w'' → BoxM w'' w.heap.size m p) := fun w' w'' h1 h2 => h1.below h2
  have hcell : Hid (∀ w', BoxM w' w.heap.size m p → _) := fun w' h => h.all
  have s1 := size_mk (writtenM m)
  have s2 := size_mk (writtenM (cutM m))
  have l1 := (getM_written hm).2.2
  have l2 := (getM_written (mayM_cut hm)).2.2
  have hd : decide (most < 12) = false := by simp; omega
  have hd2 : decide (65535 < most) = false := by simp; omega
  generalize (writtenM m).length = n1 at *
  generalize (writtenM (cutM m)).length = n2 at *
  generalize mk (writtenM m) = L at *
  generalize mk (writtenM (cutM m)) = L' at *
  clear hf hl hL hm
  have hmc : Hid (mv (cutM m) (cutP p) = .agg #[.int .i64 m.id, .bool m.rsp, .int .i64 m.op, .bool m.au, .bool true, .bool m.re, .int .i64 m.co, .slice p.qa m.qs.length p.qc, .slice none 0 0, .slice none 0 0, .slice none 0 0, .int .i64 m.sz]) := rfl
  rw [hmc.out] at HW HC
  clear hmc
  simp only [mv, cellsM] at *
  by_cases hn1 : (n1 : Int) ≤ most
  · rw [if_pos hn1, if_pos hn1]
    go_enter Tryz.func5, Tryz.ntmps5
    go_wp2_with fail
    refine (HM.out _ B0.out).mono ?_; rintro e w1 ⟨rfl, hb1⟩
    have B1 : Hid (Below w.heap.size w w1) := bel_trans B0.out hb1
    have X1 : Hid (_) := hbel.out _ _ BX.out hb1
    obtain ⟨c0, c1, c2, c3, c4, c5, c6, c7, c8, c9, c10, c11⟩ := hcell.out _ X1.out
    clear hb1 B0 BX
    go_wp2_with fail
    refine (HG.out _ B1.out).mono ?_; rintro e w2 ⟨rfl, hb2⟩
    have B2 : Hid (Below w.heap.size w w2) := bel_trans B1.out hb2
    clear hb2 c0 c1 c2 c3 c4 c5 c6 c7 c8 c9 c10 c11 X1 B1
    go_wp2
    go_ret2
    exact ⟨rfl, B2.out⟩
  · rw [if_neg hn1, if_neg hn1]
    by_cases hn2 : (n2 : Int) ≤ most
    case' pos => rw [if_pos hn2, if_pos hn2]
    case' neg => rw [if_neg hn2, if_neg hn2]
    all_goals
      go_enter Tryz.func5, Tryz.ntmps5
      go_wp2_with fail
      refine (HM.out _ B0.out).mono ?_; rintro e w1 ⟨rfl, hb1⟩
      have B1 : Hid (Below w.heap.size w w1) := bel_trans B0.out hb1
      have X1 : Hid (_) := hbel.out _ _ BX.out hb1
      obtain ⟨c0, c1, c2, c3, c4, c5, c6, c7, c8, c9, c10, c11⟩ := hcell.out _ X1.out
      clear hb1 B0 BX
      go_wp2_with fail
      refine (HG.out _ B1.out).mono ?_; rintro e w2 ⟨rfl, hb2⟩
      have B2 : Hid (Below w.heap.size w w2) := bel_trans B1.out hb2
      have X2 : Hid (_) := hbel.out _ _ X1.out hb2
      clear hb2 c0 c1 c2 c3 c4 c5 c6 c7 c8 c9 c10 c11 X1 B1
      obtain ⟨c0, c1, c2, c3, c4, c5, c6, c7, c8, c9, c10, c11⟩ := hcell.out _ X2.out
      go_wp2_with fail
      refine (HW.out _).mono ?_; rintro e w3 ⟨rfl, hb3⟩
      have B3 : Hid (Below w.heap.size w w3) := bel_trans B2.out hb3
      clear hb3 c0 c1 c2 c3 c4 c5 c6 c7 c8 c9 c10 c11 X2 B2
      go_wp2_with fail
      refine (HC.out _ B3.out).mono ?_; rintro e w4 ⟨rfl, hb4⟩
      have B4 : Hid (Below w.heap.size w w4) := bel_trans B3.out hb4
      clear hb4 B3
      go_wp2
      go_ret2
      exact ⟨rfl, B4.out⟩
/-- Put, at every message and bound. -/
theorem dPut_c (m : Msg) (p : Pl) (most : Int) (w : World) (hf : MsgFits m) (hl : MsgLies w m p) (hL : Laid w) :
    Calls Tryz.prog 5 #[mv m p, .int .i64 most] w fun e w' => e = .returned (.tuple #[.string (putM m most).1, .int .i64 (putM m most).2]) ∧ Below w.heap.size w w' := by
  unfold putM
  cases hm : mayM m with
  | false => simpa using dput_may m p most w hf hl hm
  | true =>
    by_cases ho : most < 12 ∨ 65535 < most
    · have e : ((!true || decide (most < 12) || decide (65535 < most)) = true) := by simpa using ho
      rw [if_pos e]
      exact dput_most m p most w hf hl hm ho
    · have e : ¬ ((!true || decide (most < 12) || decide (65535 < most)) = true) := by simpa using ho
      rw [if_neg e]
      have := dput_on m p most w hf hl hL ((mayM_iff m).1 hm) (by omega) (by omega)
      split
      · rename_i h1; rw [if_pos h1, if_pos h1] at this; exact this
      · rename_i h1
        rw [if_neg h1, if_neg h1] at this
        split
        · rename_i h2; rw [if_pos h2, if_pos h2] at this; exact this
        · rename_i h2; rw [if_neg h2, if_neg h2] at this; exact this

end Go.Proofs.YtdmooggmoihggaaGreatDoor
