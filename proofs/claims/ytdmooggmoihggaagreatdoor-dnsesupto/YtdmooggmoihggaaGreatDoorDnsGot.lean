/-
  The contract of package dns's Get, at every text.
-/
import Derived.Test.YtdmooggmoihggaaGreatDoorDnsGet
namespace Go.Proofs.YtdmooggmoihggaaGreatDoor
set_option maxRecDepth 100000
open Go.ChangeShapes Go.WideShapes Go.ChangeAt Go.RowKit Go.Pin Go.PlainAid

theorem Rows4.below {w w' : World} {base : Nat} {m : Msg} {p : Pl} (h : Rows4 w base m p) (hb : Below w.heap.size w w') : Rows4 w' base m p := h.keep fun g _ hg => hb.block g hg
theorem BoxM.turnB {w w' : World} {b c : Nat} {m : Msg} {p : Pl} (h : BoxM w c m p) (hb : TurnB b w w') (hn : c ≠ b) : BoxM w' c m p := (hb.oth c hn h.lt).trans h
theorem Rows4.turn {w w' : World} {base b : Nat} {m : Msg} {p : Pl} (h : Rows4 w base m p) (hb : Turn b w w') (hn : b < base) : Rows4 w' base m p := h.keep fun g h1 hg => hb.oth g (by omega) hg

set_option maxHeartbeats 2000000 in
theorem dget_on (s : ByteArray) (w : World) (hs : s.size ≤ 1125899906842624) (hL : Laid w) :
    Calls Tryz.prog 7 #[.string s] w fun e w' => ((endK s).f = true → e = .returned (.tuple #[mv zeroM nilP, .int .i64 500])) ∧ ((endK s).f = false → mayM (msgK s) = false → e = .returned (.tuple #[mv zeroM nilP, .int .i64 500])) ∧ ((endK s).f = false → mayM (msgK s) = true → ∃ p, e = .returned (.tuple #[mv (msgK s) p, .int .i64 0]) ∧ Rows4 w' w.heap.size (msgK s) p) ∧ Below w.heap.size w w' := by
  have HF : Hid (∀ w, _) := fun w => from_c s 0 w
  have hf0 : (decide ((0 : Int) < 0) || decide ((s.size : Int) < 0)) = false := by simp
  rw [hf0] at HF
  have HM : Hid (∀ b w, TkAt w b s ⟨0, false⟩ → b ≠ 0 → Laid w → _) := fun b w h h0 hL => message_c b s w hs h h0 hL
  have HA : Hid (∀ b w, TkAt w b s (rowD s).1 → _) := fun b w h => at_c b s (rowD s).1 w h
  have HT : Hid (∀ b w, TkAt w b s (rowD s).1 → Calls Tryz.prog 20 #[.pointer (some ⟨b, 0, none⟩), .bool ((rowD s).1.at_ == s.size)] w fun e w' => e = .returned (.tuple #[]) ∧ TkAt w' b s (endK s) ∧ Turn b w w') := fun b w h => must_c b s (rowD s).1 ((rowD s).1.at_ == s.size) w h
  have HO : Hid (∀ b w, TkAt w b s (endK s) → _) := fun b w h => ok_c b s (endK s) w h
  have HY : Hid (∀ p base w, Rows4 w base (msgK s) p → _) := fun p base w h => dMay_c (msgK s) p w (msgK_fits h) h.lies
  generalize msgK s = M at *
  generalize endK s = xE at *
  generalize rowD s = xD at *
  have Z0 : Hid (BoxM (w.alloc (.cells (cellsM zeroM nilP) 25)) w.heap.size zeroM nilP) := BoxM.new w zeroM nilP
  have B0 : Hid (Below w.heap.size w (w.alloc (.cells (cellsM zeroM nilP) 25))) := (Below.refl _ _).alloc (Nat.le_refl _) _
  have L0 : Hid (Laid (w.alloc (.cells (cellsM zeroM nilP) 25))) := hL.below B0.out
  have lt0 := hL.lt
  have S0 : Hid ((w.alloc (.cells (cellsM zeroM nilP) 25)).heap.size = w.heap.size + 1) := by show _ = _; simp
  clear hL hs hf0
  simp only [cellsM, zeroM, nilP, List.length_nil] at Z0 B0 L0 S0
  go_enter Tryz.func7, Tryz.ntmps7
  go_wp2_with fail
  generalize w.alloc (.cells #[.int .i64 0, .bool false, .int .i64 0, .bool false, .bool false, .bool false, .int .i64 0, .slice none 0 0, .slice none 0 0, .slice none 0 0, .slice none 0 0, .int .i64 0] 25) = w0 at *
  refine (HF.out _).mono ?_; rintro e w1 ⟨rfl, hb1⟩
  have hA : Below w1.heap.size w1 (w1.alloc (.cells #[.string s, .int .i64 0, .bool false] 47)) := (Below.refl _ _).alloc (Nat.le_refl _) _
  have T2 : Hid (TkAt (w1.alloc (.cells #[.string s, .int .i64 0, .bool false] 47)) w1.heap.size s ⟨0, false⟩) := ⟨new_cell _ _ _ _ _ rfl, new_cell _ _ _ _ _ rfl, new_cell _ _ _ _ _ rfl, fun _ => new_frozen _ _ _ _, by simp, fun _ => ⟨by simp, by simp⟩, by simp⟩
  have Z2 : Hid (BoxM (w1.alloc (.cells #[.string s, .int .i64 0, .bool false] 47)) w.heap.size zeroM nilP) := (BoxM.below (BoxM.below Z0.out hb1) hA)
  have B2 : Hid (Below w.heap.size w (w1.alloc (.cells #[.string s, .int .i64 0, .bool false] 47))) := bel_trans (bel_trans B0.out hb1) hA
  have L2 : Hid (Laid (w1.alloc (.cells #[.string s, .int .i64 0, .bool false] 47))) := (L0.out.below hb1).below hA
  have hlt : w.heap.size < w1.heap.size := by have := hb1.size; have := S0.out; omega
  have S2 : Hid ((w1.alloc (.cells #[.string s, .int .i64 0, .bool false] 47)).heap.size = w1.heap.size + 1) := by show _ = _; simp
  clear hA hb1 Z0 B0 L0 S0 HF
  go_wp2_with fail
  generalize w1.alloc (.cells #[.string s, .int .i64 0, .bool false] 47) = w2 at *
  refine (HM.out _ _ T2.out (by omega) L2.out).mono ?_; rintro e w3 ⟨⟨p, rfl, hR3⟩, hT3, hU3⟩
  simp only [mv, cellsM]
  have hA : Below w3.heap.size w3 (w3.alloc (.cells #[.int .i64 M.id, .bool M.rsp, .int .i64 M.op, .bool M.au, .bool M.tr, .bool M.re, .int .i64 M.co, .slice p.qa M.qs.length p.qc, .slice p.aa M.an.length p.ac, .slice p.sa M.sv.length p.sc, .slice p.da M.ad.length p.dc, .int .i64 M.sz] 25)) := (Below.refl _ _).alloc (Nat.le_refl _) _
  have s3 := hU3.bel.size
  have s2 := S2.out
  have X4 : Hid (BoxM (w3.alloc (.cells #[.int .i64 M.id, .bool M.rsp, .int .i64 M.op, .bool M.au, .bool M.tr, .bool M.re, .int .i64 M.co, .slice p.qa M.qs.length p.qc, .slice p.aa M.an.length p.ac, .slice p.sa M.sv.length p.sc, .slice p.da M.ad.length p.dc, .int .i64 M.sz] 25)) w3.heap.size M p) := BoxM.new w3 M p
  have T4 : Hid (TkAt (w3.alloc (.cells #[.int .i64 M.id, .bool M.rsp, .int .i64 M.op, .bool M.au, .bool M.tr, .bool M.re, .int .i64 M.co, .slice p.qa M.qs.length p.qc, .slice p.aa M.an.length p.ac, .slice p.sa M.sv.length p.sc, .slice p.da M.ad.length p.dc, .int .i64 M.sz] 25)) w1.heap.size s xD.1) := hT3.below hA hT3.lt
  have R4 : Hid (Rows4 (w3.alloc (.cells #[.int .i64 M.id, .bool M.rsp, .int .i64 M.op, .bool M.au, .bool M.tr, .bool M.re, .int .i64 M.co, .slice p.qa M.qs.length p.qc, .slice p.aa M.an.length p.ac, .slice p.sa M.sv.length p.sc, .slice p.da M.ad.length p.dc, .int .i64 M.sz] 25)) w2.heap.size M p) := hR3.below hA
  have Z4 : Hid (BoxM (w3.alloc (.cells #[.int .i64 M.id, .bool M.rsp, .int .i64 M.op, .bool M.au, .bool M.tr, .bool M.re, .int .i64 M.co, .slice p.qa M.qs.length p.qc, .slice p.aa M.an.length p.ac, .slice p.sa M.sv.length p.sc, .slice p.da M.ad.length p.dc, .int .i64 M.sz] 25)) w.heap.size zeroM nilP) := (Z2.out.turnB hU3 (by omega)).below hA
  have B4 : Hid (Below w.heap.size w (w3.alloc (.cells #[.int .i64 M.id, .bool M.rsp, .int .i64 M.op, .bool M.au, .bool M.tr, .bool M.re, .int .i64 M.co, .slice p.qa M.qs.length p.qc, .slice p.aa M.an.length p.ac, .slice p.sa M.sv.length p.sc, .slice p.da M.ad.length p.dc, .int .i64 M.sz] 25))) := (B2.out.trans (hU3.bel.mono (by omega))).trans (hA.mono (by omega))
  have hc4 : w1.heap.size < w3.heap.size := by omega
  have h12 : w1.heap.size < w2.heap.size := by omega
  clear hA hR3 hT3 hU3 T2 Z2 B2 L2 HM s2 S2
  go_wp2_with fail
  generalize w3.alloc (.cells #[.int .i64 M.id, .bool M.rsp, .int .i64 M.op, .bool M.au, .bool M.tr, .bool M.re, .int .i64 M.co, .slice p.qa M.qs.length p.qc, .slice p.aa M.an.length p.ac, .slice p.sa M.sv.length p.sc, .slice p.da M.ad.length p.dc, .int .i64 M.sz] 25) = w4 at *
  generalize w3.heap.size = c4 at *
  refine (HA.out _ _ T4.out).mono ?_; rintro e w5 ⟨rfl, rfl⟩
  go_wp2_with fail
  refine (HT.out _ _ T4.out).mono ?_; rintro e w6 ⟨rfl, hT6, hU6⟩
  have X6 : Hid (BoxM w6 c4 M p) := X4.out.turn hU6 (by omega)
  have R6 : Hid (Rows4 w6 w2.heap.size M p) := R4.out.turn hU6 (by omega)
  have Z6 : Hid (BoxM w6 w.heap.size zeroM nilP) := Z4.out.turn hU6 (by omega)
  have B6 : Hid (Below w.heap.size w w6) := B4.out.trans (hU6.bel.mono (by omega))
  have T6 : Hid (_) := hT6
  clear hU6 hT6 X4 R4 Z4 B4 T4 HA HT
  go_wp2_with fail
  refine (HO.out _ _ T6.out).mono ?_; rintro e w7 ⟨rfl, rfl⟩
  cases hf : xE.f
  case true =>
    obtain ⟨r0, r1, r2, r3, r4, r5, r6, r7, r8, r9, r10, r11⟩ := Z6.out.all
    simp only [zeroM, nilP, List.length_nil] at r0 r1 r2 r3 r4 r5 r6 r7 r8 r9 r10 r11
    have p0 := Z6.out.fz 0
    have p1 := Z6.out.fz 1
    have p2 := Z6.out.fz 2
    have p3 := Z6.out.fz 3
    have p4 := Z6.out.fz 4
    have p5 := Z6.out.fz 5
    have p6 := Z6.out.fz 6
    have p7 := Z6.out.fz 7
    have p8 := Z6.out.fz 8
    have p9 := Z6.out.fz 9
    have p10 := Z6.out.fz 10
    have p11 := Z6.out.fz 11
    have Q : Hid (BoxM (layM w7 w.heap.size zeroM nilP) w.heap.size zeroM nilP) := layM_box Z6.out zeroM nilP
    have V : Hid (Below w.heap.size w (layM w7 w.heap.size zeroM nilP)) := layM_below B6.out (Nat.le_refl _) zeroM nilP
    clear HY
    go_wp2
    have Q1 := Q.out.all
    have V1 := V.out
    simp only [layM, zeroM, nilP, List.length_nil] at Q1 V1
    obtain ⟨a0, a1, a2, a3, a4, a5, a6, a7, a8, a9, a10, a11⟩ := Q1
    refine bodyPost_ret (v := .tuple #[.agg #[.int .i64 0, .bool false, .int .i64 0, .bool false, .bool false, .bool false, .int .i64 0, .slice none 0 0, .slice none 0 0, .slice none 0 0, .slice none 0 0, .int .i64 0], .int .i64 500]) (by simp [results, Tryz.results7, go_sem, a0, a1, a2, a3, a4, a5, a6, a7, a8, a9, a10, a11]) rfl ⟨fun _ => rfl, (fun h => by rw [hf] at h; cases h), (fun h => by rw [hf] at h; cases h), V1⟩
  case false =>
    obtain ⟨g0, g1, g2, g3, g4, g5, g6, g7, g8, g9, g10, g11⟩ := X6.out.all
    have C := HY.out p w2.heap.size w7 R6.out
    simp only [mv, cellsM] at C
    go_wp2_with fail
    refine C.mono ?_; rintro e w8 ⟨rfl, hb8⟩
    have X8 : Hid (BoxM w8 c4 M p) := X6.out.below hb8
    have R8 : Hid (Rows4 w8 w2.heap.size M p) := R6.out.below hb8
    have Z8 : Hid (BoxM w8 w.heap.size zeroM nilP) := Z6.out.below hb8
    have B8 : Hid (Below w.heap.size w w8) := bel_trans B6.out hb8
    clear hb8 g0 g1 g2 g3 g4 g5 g6 g7 g8 g9 g10 g11 C X6 R6 Z6 B6 T6 HO
    cases hm : mayM M
    · obtain ⟨r0, r1, r2, r3, r4, r5, r6, r7, r8, r9, r10, r11⟩ := Z8.out.all
      simp only [zeroM, nilP, List.length_nil] at r0 r1 r2 r3 r4 r5 r6 r7 r8 r9 r10 r11
      have p0 := Z8.out.fz 0
      have p1 := Z8.out.fz 1
      have p2 := Z8.out.fz 2
      have p3 := Z8.out.fz 3
      have p4 := Z8.out.fz 4
      have p5 := Z8.out.fz 5
      have p6 := Z8.out.fz 6
      have p7 := Z8.out.fz 7
      have p8 := Z8.out.fz 8
      have p9 := Z8.out.fz 9
      have p10 := Z8.out.fz 10
      have p11 := Z8.out.fz 11
      have Q : Hid (BoxM (layM w8 w.heap.size zeroM nilP) w.heap.size zeroM nilP) := layM_box Z8.out zeroM nilP
      have V : Hid (Below w.heap.size w (layM w8 w.heap.size zeroM nilP)) := layM_below B8.out (Nat.le_refl _) zeroM nilP
      clear HY
      go_wp2
      have Q1 := Q.out.all
      have V1 := V.out
      simp only [layM, zeroM, nilP, List.length_nil] at Q1 V1
      obtain ⟨a0, a1, a2, a3, a4, a5, a6, a7, a8, a9, a10, a11⟩ := Q1
      refine bodyPost_ret (v := .tuple #[.agg #[.int .i64 0, .bool false, .int .i64 0, .bool false, .bool false, .bool false, .int .i64 0, .slice none 0 0, .slice none 0 0, .slice none 0 0, .slice none 0 0, .int .i64 0], .int .i64 500]) (by simp [results, Tryz.results7, go_sem, a0, a1, a2, a3, a4, a5, a6, a7, a8, a9, a10, a11]) rfl ⟨fun _ => rfl, fun _ _ => rfl, (fun _ h => by rw [hm] at h; cases h), V1⟩
    · obtain ⟨g0, g1, g2, g3, g4, g5, g6, g7, g8, g9, g10, g11⟩ := X8.out.all
      obtain ⟨r0, r1, r2, r3, r4, r5, r6, r7, r8, r9, r10, r11⟩ := Z8.out.all
      simp only [zeroM, nilP, List.length_nil] at r0 r1 r2 r3 r4 r5 r6 r7 r8 r9 r10 r11
      have p0 := Z8.out.fz 0
      have p1 := Z8.out.fz 1
      have p2 := Z8.out.fz 2
      have p3 := Z8.out.fz 3
      have p4 := Z8.out.fz 4
      have p5 := Z8.out.fz 5
      have p6 := Z8.out.fz 6
      have p7 := Z8.out.fz 7
      have p8 := Z8.out.fz 8
      have p9 := Z8.out.fz 9
      have p10 := Z8.out.fz 10
      have p11 := Z8.out.fz 11
      have hne : ¬ w.heap.size = c4 := by omega
      have Q : Hid (BoxM (layM w8 w.heap.size M p) w.heap.size M p) := layM_box Z8.out M p
      have V : Hid (Below w.heap.size w (layM w8 w.heap.size M p)) := layM_below B8.out (Nat.le_refl _) M p
      have W : Hid (Rows4 (layM w8 w.heap.size M p) w.heap.size M p) := (R8.out.keep fun g h1 _ => layM_other _ _ _ _ _ (by omega)).base (by omega)
      clear HY X8 R8 Z8 B8
      go_wp2
      have Q1 := Q.out.all
      have V1 := V.out
      have W1 := W.out
      simp only [layM] at Q1 V1 W1
      obtain ⟨a0, a1, a2, a3, a4, a5, a6, a7, a8, a9, a10, a11⟩ := Q1
      refine bodyPost_ret (v := .tuple #[.agg #[.int .i64 M.id, .bool M.rsp, .int .i64 M.op, .bool M.au, .bool M.tr, .bool M.re, .int .i64 M.co, .slice p.qa M.qs.length p.qc, .slice p.aa M.an.length p.ac, .slice p.sa M.sv.length p.sc, .slice p.da M.ad.length p.dc, .int .i64 M.sz], .int .i64 0]) (by simp [results, Tryz.results7, go_sem, a0, a1, a2, a3, a4, a5, a6, a7, a8, a9, a10, a11]) rfl ⟨(fun h => by rw [hf] at h; cases h), (fun _ h => by rw [hm] at h; cases h), fun _ _ => ⟨p, rfl, W1⟩, V1⟩

/-- Get, at every text: it answers what getM tells. -/
theorem dGet_c (s : ByteArray) (w : World) (hs : s.size ≤ 1125899906842624) (hL : Laid w) :
    Calls Tryz.prog 7 #[.string s] w fun e w' => (match getM s with | none => e = .returned (.tuple #[mv zeroM nilP, .int .i64 500]) | some m => ∃ p, e = .returned (.tuple #[mv m p, .int .i64 0]) ∧ Rows4 w' w.heap.size m p) ∧ Below w.heap.size w w' := by
  rw [← getK_is s]
  refine (dget_on s w hs hL).mono fun e w' ⟨h1, h2, h3, h4⟩ => ⟨?_, h4⟩
  cases hf : (endK s).f with
  | true => simpa [hf] using h1 hf
  | false =>
    cases hm : mayM (msgK s) with
    | false => simpa [hf, hm] using h2 hf hm
    | true => simpa [hf, hm] using h3 hf hm

end Go.Proofs.YtdmooggmoihggaaGreatDoor
