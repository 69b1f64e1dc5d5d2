/-
  Contract of package packet's Get, at every text.
-/
import Derived.Test.YtegoaaamlfehpaaPackReads
import Derived.Test.YtegoaaamlfehpaaPackPutAll
namespace Go.Proofs.Ytegoaaamlfehpaa
open Go.ChangeShapes Go.WideShapes Go.ChangeAt Go.RowKit Go.Pin Go.PlainAid

theorem BoxP.keep {w w' : World} {r : Nat} {p : Pk} {a : Option Addr} {c : Nat} (x : BoxP w r p a c) (h : w'.heap[r]? = w.heap[r]?) : BoxP w' r p a c := h.trans x
theorem layP_below {w w0 : World} {n r : Nat} (h : Below n w0 w) (hr : n ≤ r) (P : Pk) (a : Option Addr) (c : Nat) : Below n w0 (layP w r P a c) := by
  unfold layP
  exact (((((((((((h.setCell hr _).setCell hr _).setCell hr _).setCell hr _).setCell hr _).setCell hr _).setCell hr _).setCell hr _).setCell hr _).setCell hr _).setCell hr _).setCell hr _
set_option maxRecDepth 100000 in
set_option maxHeartbeats 4000000 in
theorem pget_on (s : ByteArray) (w : World) (hs : s.size ≤ 281474976710656) :
    Calls Try.prog 13 #[.string s] w fun e w' => ((pk17 s).2.f = true → e = .returned (.tuple #[pv zeroP none 0, .int .i64 700])) ∧ ((pk17 s).2.f = false → ∃ a c, e = .returned (.tuple #[pv (pkT s) a c, .int .i64 0]) ∧ Opts w' w.heap.size (.slice a (pkT s).os.length c) (pkT s).os) ∧ Below w.heap.size w w' := by
  have HF : Hid (∀ w, _) := fun w => from_zero s w
  have HM : Hid (∀ b w, TkAt w b s ⟨0, false⟩ → _) := fun b w h => packet_c b s w hs h
  have HO : Hid (∀ b w, TkAt w b s (pk17 s).2 → _) := fun b w h => ok_c b s (pk17 s).2 w h
  generalize pkT s = P at *
  generalize (pk17 s).2 = xE at *
  have Z0 : Hid (BoxP (w.alloc (.cells (cellsP zeroP none 0) 40)) w.heap.size zeroP none 0) := BoxP.new w zeroP none 0
  have B0 : Hid (Below w.heap.size w (w.alloc (.cells (cellsP zeroP none 0) 40))) := (Below.refl _ _).alloc (Nat.le_refl _) _
  have S0 : Hid ((w.alloc (.cells (cellsP zeroP none 0) 40)).heap.size = w.heap.size + 1) := by show _ = _; simp
  clear hs
  simp only [cellsP, zeroP, List.length_nil] at Z0 B0 S0
  go_enter Try.func13, Try.ntmps13
  go_wp2_with fail
  generalize w.alloc (.cells #[.int .i64 0, .int .i64 0, .int .i64 0, .int .i64 0, .int .i64 0, .int .i64 0, .int .i64 0, .int .i64 0, .int .i64 0, .int .i64 0, .string ⟨#[]⟩, .slice none 0 0] 40) = w0 at *
  refine (HF.out _).mono ?_; rintro e w1 ⟨rfl, hb1⟩
  have hA : Below w1.heap.size w1 (w1.alloc (.cells #[.string s, .int .i64 0, .bool false] 79)) := (Below.refl _ _).alloc (Nat.le_refl _) _
  have T2 : Hid (TkAt (w1.alloc (.cells #[.string s, .int .i64 0, .bool false] 79)) w1.heap.size s ⟨0, false⟩) := ⟨new_cell _ _ _ _ _ rfl, new_cell _ _ _ _ _ rfl, new_cell _ _ _ _ _ rfl, fun _ => new_frozen _ _ _ _, by simp, fun _ => ⟨by simp, by simp⟩, by simp⟩
  have Z2 : Hid (BoxP (w1.alloc (.cells #[.string s, .int .i64 0, .bool false] 79)) w.heap.size ⟨0, 0, 0, 0, 0, 0, 0, 0, 0, 0, ⟨#[]⟩, []⟩ none 0) := (BoxP.below (BoxP.below Z0.out hb1) hA)
  have B2 : Hid (Below w.heap.size w (w1.alloc (.cells #[.string s, .int .i64 0, .bool false] 79))) := bel_trans (bel_trans B0.out hb1) hA
  have hlt : w.heap.size < w1.heap.size := by have := hb1.size; have := S0.out; omega
  have S2 : Hid ((w1.alloc (.cells #[.string s, .int .i64 0, .bool false] 79)).heap.size = w1.heap.size + 1) := by show _ = _; simp
  clear hA hb1 Z0 B0 S0 HF
  go_wp2_with fail
  generalize w1.alloc (.cells #[.string s, .int .i64 0, .bool false] 79) = w2 at *
  refine (HM.out _ _ T2.out).mono ?_; rintro e w3 ⟨⟨a, c, rfl, hO3⟩, hT3, hU3⟩
  simp only [pv, cellsP]
  have hA : Below w3.heap.size w3 (w3.alloc (.cells #[.int .i64 P.op, .int .i64 P.ht, .int .i64 P.ho, .int .i64 P.xid, .int .i64 P.sc, .int .i64 P.fl, .int .i64 P.ci, .int .i64 P.yi, .int .i64 P.si, .int .i64 P.gi, .string P.ch, .slice a P.os.length c] 40)) := (Below.refl _ _).alloc (Nat.le_refl _) _
  have s3 := hU3.bel.size
  have s2 := S2.out
  have X4 : Hid (BoxP (w3.alloc (.cells #[.int .i64 P.op, .int .i64 P.ht, .int .i64 P.ho, .int .i64 P.xid, .int .i64 P.sc, .int .i64 P.fl, .int .i64 P.ci, .int .i64 P.yi, .int .i64 P.si, .int .i64 P.gi, .string P.ch, .slice a P.os.length c] 40)) w3.heap.size P a c) := BoxP.new w3 P a c
  have T4 : Hid (TkAt (w3.alloc (.cells #[.int .i64 P.op, .int .i64 P.ht, .int .i64 P.ho, .int .i64 P.xid, .int .i64 P.sc, .int .i64 P.fl, .int .i64 P.ci, .int .i64 P.yi, .int .i64 P.si, .int .i64 P.gi, .string P.ch, .slice a P.os.length c] 40)) w1.heap.size s xE) := hT3.below hA hT3.lt
  have R4 : Hid (Opts (w3.alloc (.cells #[.int .i64 P.op, .int .i64 P.ht, .int .i64 P.ho, .int .i64 P.xid, .int .i64 P.sc, .int .i64 P.fl, .int .i64 P.ci, .int .i64 P.yi, .int .i64 P.si, .int .i64 P.gi, .string P.ch, .slice a P.os.length c] 40)) w2.heap.size (.slice a P.os.length c) P.os) := hO3.below hA
  have Z4 : Hid (BoxP (w3.alloc (.cells #[.int .i64 P.op, .int .i64 P.ht, .int .i64 P.ho, .int .i64 P.xid, .int .i64 P.sc, .int .i64 P.fl, .int .i64 P.ci, .int .i64 P.yi, .int .i64 P.si, .int .i64 P.gi, .string P.ch, .slice a P.os.length c] 40)) w.heap.size ⟨0, 0, 0, 0, 0, 0, 0, 0, 0, 0, ⟨#[]⟩, []⟩ none 0) := (Z2.out.turn hU3 (by omega)).below hA
  have B4 : Hid (Below w.heap.size w (w3.alloc (.cells #[.int .i64 P.op, .int .i64 P.ht, .int .i64 P.ho, .int .i64 P.xid, .int .i64 P.sc, .int .i64 P.fl, .int .i64 P.ci, .int .i64 P.yi, .int .i64 P.si, .int .i64 P.gi, .string P.ch, .slice a P.os.length c] 40))) := (B2.out.trans (hU3.bel.mono (by omega))).trans (hA.mono (by omega))
  have hc4 : w1.heap.size < w3.heap.size := by omega
  have h12 : w1.heap.size < w2.heap.size := by omega
  clear hA hO3 hT3 hU3 T2 Z2 B2 HM s2 S2
  go_wp2_with fail
  generalize w3.alloc (.cells #[.int .i64 P.op, .int .i64 P.ht, .int .i64 P.ho, .int .i64 P.xid, .int .i64 P.sc, .int .i64 P.fl, .int .i64 P.ci, .int .i64 P.yi, .int .i64 P.si, .int .i64 P.gi, .string P.ch, .slice a P.os.length c] 40) = w4 at *
  generalize w3.heap.size = c4 at *
  refine (HO.out _ _ T4.out).mono ?_; rintro e w7 ⟨rfl, rfl⟩
  obtain ⟨r0, r1, r2, r3, r4, r5, r6, r7, r8, r9, r10, r11⟩ := Z4.out.all
  simp only [List.length_nil] at r0 r1 r2 r3 r4 r5 r6 r7 r8 r9 r10 r11
  cases hf : xE.f
  case true =>
    have p0 := Z4.out.fz 0
    have p1 := Z4.out.fz 1
    have p2 := Z4.out.fz 2
    have p3 := Z4.out.fz 3
    have p4 := Z4.out.fz 4
    have p5 := Z4.out.fz 5
    have p6 := Z4.out.fz 6
    have p7 := Z4.out.fz 7
    have p8 := Z4.out.fz 8
    have p9 := Z4.out.fz 9
    have p10 := Z4.out.fz 10
    have p11 := Z4.out.fz 11
    have Q : Hid (BoxP (layP w7 w.heap.size zeroP none 0) w.heap.size zeroP none 0) := layP_box Z4.out zeroP none 0
    have V : Hid (Below w.heap.size w (layP w7 w.heap.size zeroP none 0)) := layP_below B4.out (Nat.le_refl _) zeroP none 0
    clear X4 R4 Z4 B4 T4
    go_wp2
    have Q1 := Q.out.all
    have V1 := V.out
    simp only [layP, zeroP, List.length_nil] at Q1 V1
    obtain ⟨a0, a1, a2, a3, a4, a5, a6, a7, a8, a9, a10, a11⟩ := Q1
    refine bodyPost_ret (v := .tuple #[.agg #[.int .i64 0, .int .i64 0, .int .i64 0, .int .i64 0, .int .i64 0, .int .i64 0, .int .i64 0, .int .i64 0, .int .i64 0, .int .i64 0, .string ⟨#[]⟩, .slice none 0 0], .int .i64 700]) (by simp [results, Try.results13, go_sem, a0, a1, a2, a3, a4, a5, a6, a7, a8, a9, a10, a11]) rfl ⟨fun _ => rfl, (fun h => by rw [hf] at h; cases h), V1⟩
  case false =>
    obtain ⟨g0, g1, g2, g3, g4, g5, g6, g7, g8, g9, g10, g11⟩ := X4.out.all
    have p0 := Z4.out.fz 0
    have p1 := Z4.out.fz 1
    have p2 := Z4.out.fz 2
    have p3 := Z4.out.fz 3
    have p4 := Z4.out.fz 4
    have p5 := Z4.out.fz 5
    have p6 := Z4.out.fz 6
    have p7 := Z4.out.fz 7
    have p8 := Z4.out.fz 8
    have p9 := Z4.out.fz 9
    have p10 := Z4.out.fz 10
    have p11 := Z4.out.fz 11
    have hne : ¬ w.heap.size = c4 := by omega
    have Q : Hid (BoxP (layP w7 w.heap.size P a c) w.heap.size P a c) := layP_box Z4.out P a c
    have V : Hid (Below w.heap.size w (layP w7 w.heap.size P a c)) := layP_below B4.out (Nat.le_refl _) P a c
    have W : Hid (Opts (layP w7 w.heap.size P a c) w.heap.size (.slice a P.os.length c) P.os) := (R4.out.keep fun g h1 _ _ _ => layP_other _ _ _ _ _ _ (by omega)).base (by omega)
    clear X4 R4 Z4 B4 T4
    go_wp2
    have Q1 := Q.out.all
    have V1 := V.out
    have W1 := W.out
    simp only [layP] at Q1 V1 W1
    obtain ⟨a0, a1, a2, a3, a4, a5, a6, a7, a8, a9, a10, a11⟩ := Q1
    refine bodyPost_ret (v := .tuple #[.agg #[.int .i64 P.op, .int .i64 P.ht, .int .i64 P.ho, .int .i64 P.xid, .int .i64 P.sc, .int .i64 P.fl, .int .i64 P.ci, .int .i64 P.yi, .int .i64 P.si, .int .i64 P.gi, .string P.ch, .slice a P.os.length c], .int .i64 0]) (by simp [results, Try.results13, go_sem, a0, a1, a2, a3, a4, a5, a6, a7, a8, a9, a10, a11]) rfl ⟨(fun h => by rw [hf] at h; cases h), fun _ => ⟨a, c, rfl, W1⟩, V1⟩
/-- Get, at every text. -/
theorem pGet_c (s : ByteArray) (w : World) (hs : s.size ≤ 281474976710656) :
    Calls Try.prog 13 #[.string s] w fun e w' => (match getP s with | none => e = .returned (.tuple #[pv zeroP none 0, .int .i64 700]) | some p => ∃ a c, e = .returned (.tuple #[pv p a c, .int .i64 0]) ∧ Opts w' w.heap.size (.slice a p.os.length c) p.os) ∧ Below w.heap.size w w' := by
  rw [← reads_is s]
  refine (pget_on s w hs).mono fun e w' ⟨h1, h2, h3⟩ => ⟨?_, h3⟩
  cases hf : (pk17 s).2.f with
  | true => simpa [hf] using h1 hf
  | false => simpa [hf] using h2 hf
theorem pGet_yes (s : ByteArray) (p : Pk) (w : World) (hs : s.size ≤ 281474976710656) (h : getP s = some p) :
    Calls Try.prog 13 #[.string s] w fun e w' => (∃ a c, e = .returned (.tuple #[pv p a c, .int .i64 0]) ∧ Opts w' w.heap.size (.slice a p.os.length c) p.os) ∧ Below w.heap.size w w' := by
  have := pGet_c s w hs
  rw [h] at this
  exact this
theorem pGet_no (s : ByteArray) (w : World) (hs : s.size ≤ 281474976710656) (h : getP s = none) :
    Calls Try.prog 13 #[.string s] w fun e w' => e = .returned (.tuple #[pv zeroP none 0, .int .i64 700]) ∧ Below w.heap.size w w' := by
  have := pGet_c s w hs
  rw [h] at this
  exact this
theorem pPut_is (p : Pk) (a : Option Addr) (c : Nat) (S : ByteArray) (E : Int) (w : World) (hL : OpLies w a p.os) (hch : p.ch.size ≤ maxLen) (hA : putP p = (bs S, E)) :
    Calls Try.prog 11 #[pv p a c] w fun e w' => e = .returned (.tuple #[.string S, .int .i64 E]) ∧ Below w.heap.size w w' := by
  have := pPut_c p a c w hL hch
  rw [hA, mk_bs] at this
  exact this
end Go.Proofs.Ytegoaaamlfehpaa
