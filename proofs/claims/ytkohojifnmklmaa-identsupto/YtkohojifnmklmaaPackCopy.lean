/-
  Contract of the laws' CopyPacket.
-/
import Derived.Test.YtkohojifnmklmaaPackRef2
import Derived.Test.YtkohojifnmklmaaPackGet
namespace Go.Proofs.Ytkohojifnmklmaa
open Go.ChangeShapes Go.WideShapes Go.ChangeAt Go.RowKit Go.Pin Go.PlainAid

theorem layP_opts {w : World} {base r : Nat} {v : Value} {ks : List Opn} (h : Opts w base v ks) (hr : r < base) (P : Pk) (a : Option Addr) (c : Nat) : Opts (layP w r P a c) base v ks := h.keep fun g hg _ _ _ => layP_other _ _ _ _ _ _ (show g ≠ r by omega)
set_option maxRecDepth 100000 in
set_option maxHeartbeats 4000000 in
theorem copyPk_some (p : Pk) (x : Addr) (c : Nat) (w : World) (hl : p.os.length * 24 ≤ 140737488351232) (hL : OpFrom w x p.os) :
    Calls Try.prog 7 #[pv p (some x) c] w fun e w' => (∃ a' c', e = .returned (pv p a' c') ∧ Opts w' w.heap.size (.slice a' p.os.length c') p.os) ∧ Below w.heap.size w w' := by
  obtain ⟨i0, hi, hz0, hz1, hz2⟩ := info_parts Try.infoOp
  obtain ⟨w0, hw0⟩ : ∃ w0, (w.alloc (.cells (cellsP p (some x) c) 24)).alloc (.cells (cellsP zeroP none 0) 24) = w0 := ⟨_, rfl⟩
  have hb0 : Below w.heap.size w w0 := by rw [← hw0]; exact ((Below.refl _ _).alloc (Nat.le_refl _) _).alloc (by simp) _
  have X0 : Hid (BoxP w0 w.heap.size p (some x) c) := by
    show BoxP _ _ _ _ _
    rw [← hw0]; exact (BoxP.new w p (some x) c).below ((Below.refl _ _).alloc (Nat.le_refl _) _)
  have Z0 : Hid (BoxP w0 (w.heap.size + 1) zeroP none 0) := by
    show BoxP _ _ _ _ _
    have := BoxP.new (w.alloc (.cells (cellsP p (some x) c) 24)) zeroP none 0
    rw [show (w.alloc (.cells (cellsP p (some x) c) 24)).heap.size = w.heap.size + 1 by simp, hw0] at this
    exact this
  have S0 : Hid (w0.heap.size = w.heap.size + 2) := by show _ = _; rw [← hw0]; simp
  have B0 : Hid (Below w.heap.size w w0) := hb0
  have H : Hid (∀ o j u, (opCells p.os)[j]? = some u → (w0.alloc o).cell? (x.add j) = some u) := by
    intro o j u hj
    have := opcells_of_from (hL.below hb0) j u hj
    rw [← this]
    exact ((Below.refl w0.heap.size w0).alloc (Nat.le_refl _) o).cell (World.block_lt_of_cell? w0 _ this)
  obtain ⟨c0, c1, c2, c3, c4, c5, c6, c7, c8, c9, c10, c11⟩ := ((X0.out.below ((Below.refl w0.heap.size w0).alloc (Nat.le_refl _) (.cells #[] 39)))).all
  clear hL hb0
  simp only [pv, cellsP, zeroP, List.length_nil] at *
  go_enter Try.func7, Try.ntmps7
  go_wp2_with (first
    | (at_builtin; refine wpList_append_own _ rfl _ _ 22 rfl w0.heap.size 39 i0 (.agg #[.int .i64 0, .string ByteArray.empty]) 2 24 Try.underlying22 hi hz0 hz1 hz2 rfl (by decide) _ 0 [] rfl (ownsO_empty w0) x p.os.length c (opCells p.os) rfl (opCells_len p.os) (H.out _) (opCells_one p.os) ?c3 ?c4 ?c5 ?_)
    | fail)
  case c3 => unfold maxLen; omega
  case c4 => omega
  case c5 => simp
  intro v' w3 hown' hgrow _
  have R : Opts w3 w0.heap.size v' p.os := by
    show w3.ownsRow _ _ _ _ _ _
    simpa using hown'
  have hB : Below w0.heap.size w0 w3 := ((Below.refl _ _).alloc (Nat.le_refl _) _).grown hgrow (by simp) (fun k hk => by cases hk; exact Nat.le_refl _)
  obtain ⟨a2, d2, rfl, _⟩ := R.lies
  have X3 : BoxP w3 w.heap.size p (some x) c := X0.out.below hB
  have Z3 : BoxP w3 (w.heap.size + 1) zeroP none 0 := Z0.out.below hB
  have S0' := S0.out
  have X4 : Hid (BoxP (w3.setCell ⟨w.heap.size, 11, none⟩ (.slice a2 p.os.length d2)) w.heap.size p a2 d2) := X3.set 11 _ rfl
  have Z4 : Hid (BoxP (w3.setCell ⟨w.heap.size, 11, none⟩ (.slice a2 p.os.length d2)) (w.heap.size + 1) zeroP none 0) := Z3.other (by omega) 11 _
  have O4 : Hid (Opts (w3.setCell ⟨w.heap.size, 11, none⟩ (.slice a2 p.os.length d2)) w0.heap.size (.slice a2 p.os.length d2) p.os) := R.keep fun g hg _ _ _ => Below.heap_setCell _ _ _ _ (show g ≠ w.heap.size by omega)
  have B4 : Hid (Below w.heap.size w (w3.setCell ⟨w.heap.size, 11, none⟩ (.slice a2 p.os.length d2))) := (B0.out.trans (hB.mono (by omega))).setCell (Nat.le_refl _) _
  have cc : w3.cell? ⟨w.heap.size, 11, none⟩ = some (.slice (some x) p.os.length c) := X3.cell 11
  have ff := X3.fz 11
  obtain ⟨w4, hw4⟩ : ∃ w4, w3.setCell ⟨w.heap.size, 11, none⟩ (.slice a2 p.os.length d2) = w4 := ⟨_, rfl⟩
  rw [hw4] at X4 Z4 O4 B4
  clear hown' hgrow hB X0 Z0 B0 H c0 c1 c2 c3 c4 c5 c6 c7 c8 c9 c10 c11 R X3 Z3 hw0
  obtain ⟨g0, g1, g2, g3, g4, g5, g6, g7, g8, g9, g10, g11⟩ := X4.out.all
  obtain ⟨r0, r1, r2, r3, r4, r5, r6, r7, r8, r9, r10, r11⟩ := Z4.out.all
  simp only [zeroP, List.length_nil] at r0 r1 r2 r3 r4 r5 r6 r7 r8 r9 r10 r11
  have p0 := Z4.out.fz 0
  have p1 := Z4.out.fz 1
  have p2 := Z4.out.fz 2
  have p3 := Z4.out.fz 3
  have p4 := Z4.out.fz 4
  have p5 := Z4.out.fz 5
  have p6 := Z4.out.fz 6
  have p7 := Z4.out.fz 7
  have p8 := Z4.out.fz 8
  have p9 := Z4.out.fz 9
  have p10 := Z4.out.fz 10
  have p11 := Z4.out.fz 11
  have hne : ¬ w.heap.size = w.heap.size + 1 := by omega
  have hne2 : ¬ w.heap.size + 1 = w.heap.size := by omega
  have Lx : Hid (BoxP (layP w4 (w.heap.size + 1) p a2 d2) (w.heap.size + 1) p a2 d2) := layP_box Z4.out p a2 d2
  have Bx : Hid (Below w.heap.size w (layP w4 (w.heap.size + 1) p a2 d2)) := layP_below B4.out (by omega) p a2 d2
  have Ox : Hid (Opts (layP w4 (w.heap.size + 1) p a2 d2) w.heap.size (.slice a2 p.os.length d2) p.os) := (layP_opts O4.out (by omega) p a2 d2).base (by omega)
  clear X4 Z4 O4 B4
  go_wp2
  have B16 := Lx.out.all
  have W16 := Ox.out
  have V16 := Bx.out
  simp only [layP] at B16 W16 V16
  obtain ⟨a0, a1, a2', a3, a4, a5, a6, a7, a8, a9, a10, a11⟩ := B16
  refine bodyPost_ret (v := .agg #[.int .i64 p.op, .int .i64 p.ht, .int .i64 p.ho, .int .i64 p.xid, .int .i64 p.sc, .int .i64 p.fl, .int .i64 p.ci, .int .i64 p.yi, .int .i64 p.si, .int .i64 p.gi, .string p.ch, .slice a2 p.os.length d2]) (by simp [results, Try.results7, go_sem, a0, a1, a2', a3, a4, a5, a6, a7, a8, a9, a10, a11]) rfl ⟨⟨a2, d2, rfl, W16⟩, V16⟩
set_option maxRecDepth 100000 in
set_option maxHeartbeats 4000000 in
theorem copyPk_nil (p : Pk) (c : Nat) (w : World) (hos : p.os = []) :
    Calls Try.prog 7 #[pv p none c] w fun e w' => (∃ a' c', e = .returned (pv p a' c') ∧ Opts w' w.heap.size (.slice a' p.os.length c') p.os) ∧ Below w.heap.size w w' := by
  obtain ⟨w0, hw0⟩ : ∃ w0, (w.alloc (.cells (cellsP p none c) 24)).alloc (.cells (cellsP zeroP none 0) 24) = w0 := ⟨_, rfl⟩
  have hb0 : Below w.heap.size w w0 := by rw [← hw0]; exact ((Below.refl _ _).alloc (Nat.le_refl _) _).alloc (by simp) _
  have X0 : Hid (BoxP w0 w.heap.size p none c) := by
    show BoxP _ _ _ _ _
    rw [← hw0]; exact (BoxP.new w p none c).below ((Below.refl _ _).alloc (Nat.le_refl _) _)
  have Z0 : Hid (BoxP w0 (w.heap.size + 1) zeroP none 0) := by
    show BoxP _ _ _ _ _
    have := BoxP.new (w.alloc (.cells (cellsP p none c) 24)) zeroP none 0
    rw [show (w.alloc (.cells (cellsP p none c) 24)).heap.size = w.heap.size + 1 by simp, hw0] at this
    exact this
  have S0 : Hid (w0.heap.size = w.heap.size + 2) := by show _ = _; rw [← hw0]; simp
  have B0 : Hid (Below w.heap.size w w0) := hb0
  obtain ⟨c0, c1, c2, c3, c4, c5, c6, c7, c8, c9, c10, c11⟩ := ((X0.out.below ((Below.refl w0.heap.size w0).alloc (Nat.le_refl _) (.cells #[] 39)))).all
  have ff := ((X0.out.below ((Below.refl w0.heap.size w0).alloc (Nat.le_refl _) (.cells #[] 39)))).fz 11
  clear hb0
  have hol : p.os.length = 0 := by rw [hos]; rfl
  simp only [pv, cellsP, zeroP, List.length_nil] at *
  rw [hol]
  simp only [hol] at *
  clear hol
  go_enter Try.func7, Try.ntmps7
  go_upto_region 2 with fail
  have hol : p.os.length = 0 := by rw [hos]; rfl
  obtain ⟨w3, hw3⟩ : ∃ w3, w0.alloc (.cells #[] 39) = w3 := ⟨_, rfl⟩
  have R : Opts w3 w0.heap.size (.slice (some ⟨w0.heap.size, 0, none⟩) p.os.length 0) p.os := by
    rw [hos, ← hw3]; exact ownsO_empty w0
  have hB : Below w0.heap.size w0 w3 := by rw [← hw3]; exact (Below.refl _ _).alloc (Nat.le_refl _) _
  rw [hw3]
  have X3 : BoxP w3 w.heap.size p none c := X0.out.below hB
  have Z3 : BoxP w3 (w.heap.size + 1) zeroP none 0 := Z0.out.below hB
  have S0' := S0.out
  have X4 : Hid (BoxP (w3.setCell ⟨w.heap.size, 11, none⟩ (.slice (some ⟨w0.heap.size, 0, none⟩) 0 0)) w.heap.size p (some ⟨w0.heap.size, 0, none⟩) 0) := X3.set 11 _ (by simp only [cellsP, hol]; rfl)
  have Z4 : Hid (BoxP (w3.setCell ⟨w.heap.size, 11, none⟩ (.slice (some ⟨w0.heap.size, 0, none⟩) 0 0)) (w.heap.size + 1) zeroP none 0) := Z3.other (by omega) 11 _
  have O4 : Hid (Opts (w3.setCell ⟨w.heap.size, 11, none⟩ (.slice (some ⟨w0.heap.size, 0, none⟩) 0 0)) w0.heap.size (.slice (some ⟨w0.heap.size, 0, none⟩) 0 0) p.os) := (show Opts w3 w0.heap.size (.slice (some ⟨w0.heap.size, 0, none⟩) 0 0) p.os by rw [hol] at R; exact R).keep fun g hg _ _ _ => Below.heap_setCell _ _ _ _ (show g ≠ w.heap.size by omega)
  have B4 : Hid (Below w.heap.size w (w3.setCell ⟨w.heap.size, 11, none⟩ (.slice (some ⟨w0.heap.size, 0, none⟩) 0 0))) := (B0.out.trans (hB.mono (by omega))).setCell (Nat.le_refl _) _
  obtain ⟨w4, hw4⟩ : ∃ w4, w3.setCell ⟨w.heap.size, 11, none⟩ (.slice (some ⟨w0.heap.size, 0, none⟩) 0 0) = w4 := ⟨_, rfl⟩
  rw [hw4] at X4 Z4 O4 B4
  rw [hw4]
  clear hB X0 Z0 B0 c0 c1 c2 c3 c4 c5 c6 c7 c8 c9 c10 c11 R X3 Z3 hw0 hw3 ff
  obtain ⟨g0, g1, g2, g3, g4, g5, g6, g7, g8, g9, g10, g11⟩ := X4.out.all
  simp only [hol] at g11
  obtain ⟨r0, r1, r2, r3, r4, r5, r6, r7, r8, r9, r10, r11⟩ := Z4.out.all
  simp only [zeroP, List.length_nil] at r0 r1 r2 r3 r4 r5 r6 r7 r8 r9 r10 r11
  have p0 := Z4.out.fz 0
  have p1 := Z4.out.fz 1
  have p2 := Z4.out.fz 2
  have p3 := Z4.out.fz 3
  have p4 := Z4.out.fz 4
  have p5 := Z4.out.fz 5
  have p6 := Z4.out.fz 6
  have p7 := Z4.out.fz 7
  have p8 := Z4.out.fz 8
  have p9 := Z4.out.fz 9
  have p10 := Z4.out.fz 10
  have p11 := Z4.out.fz 11
  have hne : ¬ w.heap.size = w.heap.size + 1 := by omega
  have hne2 : ¬ w.heap.size + 1 = w.heap.size := by omega
  have Lx : Hid (BoxP (layP w4 (w.heap.size + 1) p (some ⟨w0.heap.size, 0, none⟩) 0) (w.heap.size + 1) p (some ⟨w0.heap.size, 0, none⟩) 0) := layP_box Z4.out p (some ⟨w0.heap.size, 0, none⟩) 0
  have Bx : Hid (Below w.heap.size w (layP w4 (w.heap.size + 1) p (some ⟨w0.heap.size, 0, none⟩) 0)) := layP_below B4.out (by omega) p (some ⟨w0.heap.size, 0, none⟩) 0
  have Ox : Hid (Opts (layP w4 (w.heap.size + 1) p (some ⟨w0.heap.size, 0, none⟩) 0) w.heap.size (.slice (some ⟨w0.heap.size, 0, none⟩) 0 0) p.os) := (layP_opts O4.out (by omega) p (some ⟨w0.heap.size, 0, none⟩) 0).base (by omega)
  have HOL : Hid (∀ q : Pk, q = p → q.os.length = 0) := fun q hq => by rw [hq, hos]; rfl
  clear X4 Z4 O4 B4 S0' S0 hol hos hw4
  go_wp2
  have hol := HOL.out p rfl
  have B16 := Lx.out.all
  simp only [hol] at B16
  have W16 := Ox.out
  have V16 := Bx.out
  simp only [layP, hol] at B16 W16 V16
  obtain ⟨a0, a1, a2', a3, a4, a5, a6, a7, a8, a9, a10, a11⟩ := B16
  refine bodyPost_ret (v := .agg #[.int .i64 p.op, .int .i64 p.ht, .int .i64 p.ho, .int .i64 p.xid, .int .i64 p.sc, .int .i64 p.fl, .int .i64 p.ci, .int .i64 p.yi, .int .i64 p.si, .int .i64 p.gi, .string p.ch, .slice (some ⟨w0.heap.size, 0, none⟩) 0 0]) (by simp [results, Try.results7, go_sem, a0, a1, a2', a3, a4, a5, a6, a7, a8, a9, a10, a11]) rfl ⟨⟨(some ⟨w0.heap.size, 0, none⟩), 0, rfl, W16⟩, V16⟩
theorem copyPk_c (p : Pk) (a : Option Addr) (c : Nat) (w : World) (hl : p.os.length * 24 ≤ 140737488351232) (hL : OpLies w a p.os) :
    Calls Try.prog 7 #[pv p a c] w fun e w' => (∃ a' c', e = .returned (pv p a' c') ∧ Opts w' w.heap.size (.slice a' p.os.length c') p.os) ∧ Below w.heap.size w w' := by
  rcases hL with h | ⟨x, rfl, h⟩
  · cases a with
    | none => exact copyPk_nil p c w h
    | some x => exact copyPk_some p x c w hl (fun j hj => by rw [h] at hj; simp at hj)
  · exact copyPk_some p x c w hl h
end Go.Proofs.Ytkohojifnmklmaa
