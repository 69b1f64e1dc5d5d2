/-
  Contracts of package dns's reader: a record, a question, an OPT looked for and taken, parts taken one behind the other.
-/
import Derived.Test.YtdmooggmoihggaaGreatDoorDnsTake
namespace Go.Proofs.YtdmooggmoihggaaGreatDoor
set_option maxRecDepth 100000
open Go.ChangeShapes Go.WideShapes Go.ChangeAt Go.RowKit Go.Pin Go.PlainAid

theorem dn_turn {b : Nat} {w w' : World} (h : Turn b (w.drewN 1) w') : Turn b w w' := ⟨⟨h.bel.os, h.bel.tape, h.bel.output, h.bel.size, h.bel.block⟩, h.oth, h.cel⟩
theorem TkAt.drewN {w : World} {b : Nat} {s : ByteArray} {x : Tk} (h : TkAt w b s x) : TkAt (w.drewN 1) b s x := h.below (below_drewN (Below.refl w.heap.size _) 1) h.lt
set_option maxHeartbeats 400000 in
theorem dRecord_c (b : Nat) (s : ByteArray) (x : Tk) (w : World) (hs : s.size ≤ 1125899906842624) (h : TkAt w b s x) (hL : Laid w) :
    Calls Tryz.prog 55 #[.pointer (some ⟨b, 0, none⟩)] w fun e w' => e = .returned (rv (recK s x).1) ∧ TkAt w' b s (recK s x).2 ∧ Turn b w w' := by
  have HC : Hid (∀ w, TkAt w b s x → Laid w → _) := fun w h hL => rec_c b s x w hs h hL
  have B1 : Hid (Below w.heap.size w (w.alloc (.cells #[.string ⟨#[]⟩, .int .i64 0, .int .i64 0, .int .i64 0, .string ⟨#[]⟩, .string ⟨#[]⟩, .int .i64 0] 82))) := (Below.refl _ _).alloc (Nat.le_refl _) _
  have Z : Hid (RecAt (w.alloc (.cells #[.string ⟨#[]⟩, .int .i64 0, .int .i64 0, .int .i64 0, .string ⟨#[]⟩, .string ⟨#[]⟩, .int .i64 0] 82)) w.heap.size zeroR) := RecAt.new w zeroR 82
  have T1 : Hid (TkAt (w.alloc (.cells #[.string ⟨#[]⟩, .int .i64 0, .int .i64 0, .int .i64 0, .string ⟨#[]⟩, .string ⟨#[]⟩, .int .i64 0] 82)) b s x) := h.below B1.out h.lt
  have L1 : Hid (Laid (w.alloc (.cells #[.string ⟨#[]⟩, .int .i64 0, .int .i64 0, .int .i64 0, .string ⟨#[]⟩, .string ⟨#[]⟩, .int .i64 0] 82))) := hL.below B1.out
  have lt := h.lt
  generalize (recK s x).2 = y at *
  generalize (recK s x).1 = r at *
  obtain ⟨n, ty, ttl, ad, tg, tx, se⟩ := r
  simp only [rv] at HC ⊢
  clear h hL hs
  go_enter Tryz.func55, Tryz.ntmps55
  go_wp2_with fail
  generalize w.alloc (.cells #[.string ⟨#[]⟩, .int .i64 0, .int .i64 0, .int .i64 0, .string ⟨#[]⟩, .string ⟨#[]⟩, .int .i64 0] 82) = w0 at *
  refine (HC.out _ T1.out L1.out).mono ?_; rintro e w1 ⟨rfl, hT, hU⟩
  have hne : ¬ w.heap.size = b := by omega
  have Z1 := Z.out.turn hU hne
  have T4 : Hid (_) := hT.layR (c := w.heap.size) (r := ⟨n, ty, ttl, ad, tg, tx, se⟩) (by omega)
  have U4 : Hid (_) := ((Turn.of_below B1.out lt).trans hU).layR (c := w.heap.size) (r := ⟨n, ty, ttl, ad, tg, tx, se⟩) (Nat.le_refl _) (by omega)
  have Q4 : Hid (_) := layR_rec Z1 ⟨n, ty, ttl, ad, tg, tx, se⟩
  obtain ⟨z0, z1, z2, z3, z4, z5, z6, fz, ltz⟩ := Z1
  simp only [zeroR] at z0 z1 z2 z3 z4 z5 z6
  have p0 := fz 0
  have p1 := fz 1
  have p2 := fz 2
  have p3 := fz 3
  have p4 := fz 4
  have p5 := fz 5
  have p6 := fz 6
  clear fz hT hU HC T1 L1 Z B1
  go_wp2
  have Q5 := Q4.out
  have T5 := T4.out
  have U5 := U4.out
  simp only [layR] at T5 U5 Q5
  obtain ⟨a0, a1, a2, a3, a4, a5, a6, _, _⟩ := Q5
  simp only at a0 a1 a2 a3 a4 a5 a6
  exact bodyPost_ret (v := .agg #[.string n, .int .i64 ty, .int .i64 ttl, .int .i64 ad, .string tg, .string tx, .int .i64 se]) (by simp [results, Tryz.results55, go_sem, a0, a1, a2, a3, a4, a5, a6]) rfl ⟨rfl, T5, U5⟩

/-! ### a question -/
def quesK (s : ByteArray) (x : Tk) : Qn × Tk := (⟨(nameT s x).1, (numT s 2 (nameT s x).2).1⟩, mustT ((numT s 2 (numT s 2 (nameT s x).2).2).1 == 1) (numT s 2 (numT s 2 (nameT s x).2).2).2)
/-- Block c holds a question. -/
structure QnAt (w : World) (c : Nat) (q : Qn) : Prop where
  c0 : w.cell? ⟨c, 0, none⟩ = some (.string q.n)
  c1 : w.cell? ⟨c, 1, none⟩ = some (.int .i64 q.ty)
  fz : ∀ j, w.frozen? ⟨c, j, none⟩ = false
  lt : c < w.heap.size
theorem QnAt.keep {w w' : World} {c : Nat} {q : Qn} (h : QnAt w c q) (hb : w'.heap[c]? = w.heap[c]?) (hs : w.heap.size ≤ w'.heap.size) : QnAt w' c q :=
  ⟨(World.cell?_of_block hb).trans h.c0, (World.cell?_of_block hb).trans h.c1, fun j => (World.frozen?_of_block hb).trans (h.fz j), Nat.lt_of_lt_of_le h.lt hs⟩
theorem QnAt.turn {w w' : World} {b c : Nat} {q : Qn} (h : QnAt w c q) (hb : Turn b w w') (hn : c ≠ b) : QnAt w' c q := h.keep (hb.oth c hn h.lt) hb.bel.size
theorem QnAt.set0 {w : World} {c : Nat} {q : Qn} (h : QnAt w c q) (v : ByteArray) : QnAt (w.setCell ⟨c, 0, none⟩ (.string v)) c { q with n := v } := ⟨way_cell h.c0 h.c0, way_cell h.c1 h.c0, fun j => by rw [World.frozen?_setCell]; exact h.fz j, by rw [setCell_size]; exact h.lt⟩
theorem QnAt.set1 {w : World} {c : Nat} {q : Qn} (h : QnAt w c q) (v : Int) : QnAt (w.setCell ⟨c, 1, none⟩ (.int .i64 v)) c { q with ty := v } := ⟨way_cell h.c0 h.c1, way_cell h.c1 h.c1, fun j => by rw [World.frozen?_setCell]; exact h.fz j, by rw [setCell_size]; exact h.lt⟩
theorem QnAt.far {w : World} {c d j : Nat} {q : Qn} {u : Value} (h : QnAt w c q) (hn : c ≠ d) : QnAt (w.setCell ⟨d, j, none⟩ u) c q := h.keep (Below.heap_setCell _ _ _ _ hn) (by rw [setCell_size]; exact Nat.le_refl _)
theorem Turn.far {w w' : World} {b c j : Nat} {u : Value} (h : Turn b w w') (hc : w.heap.size ≤ c) (hb : b < c) : Turn b w (w'.setCell ⟨c, j, none⟩ u) :=
  ⟨h.bel.setCell (show b ≤ (⟨c, j, none⟩ : Addr).block from Nat.le_of_lt hb) u, fun k hk hl => (Below.heap_setCell _ _ _ _ (by simp only; omega)).trans (h.oth k hk hl), fun i hi => (World.cell?_of_block (a := ⟨b, i, none⟩) (Below.heap_setCell _ _ _ _ (Nat.ne_of_lt hb))).trans (h.cel i hi)⟩
def zeroQ : Qn := ⟨⟨#[]⟩, 0⟩

set_option maxHeartbeats 400000 in
theorem question_c (b : Nat) (s : ByteArray) (x : Tk) (w : World) (hs : s.size ≤ 1125899906842624) (h : TkAt w b s x) :
    Calls Tryz.prog 53 #[.pointer (some ⟨b, 0, none⟩)] w fun e w' => e = .returned (.agg #[.string (quesK s x).1.n, .int .i64 (quesK s x).1.ty]) ∧ TkAt w' b s (quesK s x).2 ∧ Turn b w w' := by
  have HN : Hid (∀ w, TkAt w b s x → _) := fun w h => name_c b s x w hs h
  have H1 : Hid (∀ w, TkAt w b s (nameT s x).2 → _) := fun w h => number_2t b s (nameT s x).2 w hs h
  have H2 : Hid (∀ w, TkAt w b s (numT s 2 (nameT s x).2).2 → _) := fun w h => number_2t b s (numT s 2 (nameT s x).2).2 w hs h
  have H3 : Hid (∀ w, TkAt w b s (numT s 2 (numT s 2 (nameT s x).2).2).2 → _) := fun w h => must_c b s (numT s 2 (numT s 2 (nameT s x).2).2).2 ((numT s 2 (numT s 2 (nameT s x).2).2).1 == 1) w h
  simp only [quesK]
  generalize mustT ((numT s 2 (numT s 2 (nameT s x).2).2).1 == 1) (numT s 2 (numT s 2 (nameT s x).2).2).2 = y3 at *
  generalize (numT s 2 (numT s 2 (nameT s x).2).2).2 = y2 at *
  generalize (numT s 2 (numT s 2 (nameT s x).2).2).1 = v2 at *
  generalize (numT s 2 (nameT s x).2).2 = y1 at *
  generalize (numT s 2 (nameT s x).2).1 = v1 at *
  generalize (nameT s x).2 = y0 at *
  generalize (nameT s x).1 = v0 at *
  have B1 : Hid (Below w.heap.size w ((w.alloc (.cells #[.string ⟨#[]⟩, .int .i64 0] 59)).alloc (.cells #[.string ⟨#[]⟩, .int .i64 0] 59))) := ((Below.refl _ _).alloc (Nat.le_refl _) _).alloc (by simp) _
  have T0 : Hid (TkAt ((w.alloc (.cells #[.string ⟨#[]⟩, .int .i64 0] 59)).alloc (.cells #[.string ⟨#[]⟩, .int .i64 0] 59)) b s x) := h.below B1.out h.lt
  have A0 : Hid (QnAt ((w.alloc (.cells #[.string ⟨#[]⟩, .int .i64 0] 59)).alloc (.cells #[.string ⟨#[]⟩, .int .i64 0] 59)) w.heap.size zeroQ) := by
    have q : QnAt (w.alloc (.cells #[.string ⟨#[]⟩, .int .i64 0] 59)) w.heap.size zeroQ := ⟨new_cell _ _ _ _ _ rfl, new_cell _ _ _ _ _ rfl, fun _ => new_frozen _ _ _ _, by simp⟩
    exact q.keep (Below.heap_alloc _ _ _ (by simp)) (by simp)
  have Q0 : Hid (QnAt ((w.alloc (.cells #[.string ⟨#[]⟩, .int .i64 0] 59)).alloc (.cells #[.string ⟨#[]⟩, .int .i64 0] 59)) (w.heap.size + 1) zeroQ) := by
    have q : QnAt ((w.alloc (.cells #[.string ⟨#[]⟩, .int .i64 0] 59)).alloc (.cells #[.string ⟨#[]⟩, .int .i64 0] 59)) (w.alloc (.cells #[.string ⟨#[]⟩, .int .i64 0] 59)).heap.size zeroQ := ⟨new_cell _ _ _ _ _ rfl, new_cell _ _ _ _ _ rfl, fun _ => new_frozen _ _ _ _, by simp⟩
    rw [show (w.alloc (.cells #[.string ⟨#[]⟩, .int .i64 0] 59)).heap.size = w.heap.size + 1 by simp] at q
    exact q
  have lt := h.lt
  clear h hs
  go_enter Tryz.func53, Tryz.ntmps53
  go_wp2_with fail
  generalize (w.alloc (.cells #[.string ⟨#[]⟩, .int .i64 0] 59)).alloc (.cells #[.string ⟨#[]⟩, .int .i64 0] 59) = w0 at *
  refine (HN.out _ T0.out).mono ?_; rintro e w1 ⟨rfl, hT1, hU1⟩
  have A1 := A0.out.turn hU1 (by omega)
  have Q1 := Q0.out.turn hU1 (by omega)
  have U1 : Hid (Turn b w w1) := (Turn.of_below B1.out lt).trans hU1
  have T2 : Hid (TkAt (w1.setCell ⟨w.heap.size + 1, 0, none⟩ (.string v0)) b s y0) := hT1.set (by omega)
  have A2 : Hid (QnAt (w1.setCell ⟨w.heap.size + 1, 0, none⟩ (.string v0)) w.heap.size zeroQ) := A1.far (by omega)
  have Q2 : Hid (QnAt (w1.setCell ⟨w.heap.size + 1, 0, none⟩ (.string v0)) (w.heap.size + 1) { zeroQ with n := v0 }) := Q1.set0 v0
  have U2 : Hid (Turn b w (w1.setCell ⟨w.heap.size + 1, 0, none⟩ (.string v0))) := U1.out.far (by omega) (by omega)
  have c0 := Q1.c0
  have f0 := Q1.fz 0
  simp only [zeroQ] at c0
  clear A1 Q1 U1 hT1 hU1 A0 Q0 T0 B1 HN
  go_wp2_with fail
  generalize w1.setCell ⟨w.heap.size + 1, 0, none⟩ (.string v0) = w2 at *
  clear c0 f0
  refine (H1.out _ T2.out).mono ?_; rintro e w3 ⟨rfl, hT1, hU1⟩
  have A1 := A2.out.turn hU1 (by omega)
  have Q1 := Q2.out.turn hU1 (by omega)
  have U1 : Hid (Turn b w w3) := U2.out.trans hU1
  have T4 : Hid (TkAt (w3.setCell ⟨w.heap.size + 1, 1, none⟩ (.int .i64 v1)) b s y1) := hT1.set (by omega)
  have A4 : Hid (QnAt (w3.setCell ⟨w.heap.size + 1, 1, none⟩ (.int .i64 v1)) w.heap.size zeroQ) := A1.far (by omega)
  have Q4 : Hid (QnAt (w3.setCell ⟨w.heap.size + 1, 1, none⟩ (.int .i64 v1)) (w.heap.size + 1) ⟨v0, v1⟩) := Q1.set1 v1
  have U4 : Hid (Turn b w (w3.setCell ⟨w.heap.size + 1, 1, none⟩ (.int .i64 v1))) := U1.out.far (by omega) (by omega)
  have c1 := Q1.c1
  have f1 := Q1.fz 1
  simp only [zeroQ] at c1
  clear A1 Q1 U1 hT1 hU1 A2 Q2 T2 U2 H1
  go_wp2_with fail
  generalize w3.setCell ⟨w.heap.size + 1, 1, none⟩ (.int .i64 v1) = w4 at *
  clear c1 f1
  go_region_held3 (fun _ => True) (trivial)
    (first
      | (go_at_call 49; refine (H2.out _ T4.out.drewN).mono ?_; rintro e w5 ⟨rfl, hT5, hU5⟩; have U5 : Turn b w w5 := U4.out.trans (dn_turn hU5); have A5 := A4.out.turn (dn_turn hU5) (by omega); have Q5 := Q4.out.turn (dn_turn hU5) (by omega))
      | (go_at_call 20; refine (H3.out _ hT5).mono ?_; rintro e w6 ⟨rfl, hT6, hU6⟩; have U6 : Turn b w w6 := U5.trans hU6; have A6 := A5.turn hU6 (by omega); have Q6 := Q5.turn hU6 (by omega)))
  have T7 : Hid (_) := ((hT6.set (c := w.heap.size) (j := 0) (u := .string v0) (by omega)).set (c := w.heap.size) (j := 1) (u := .int .i64 v1) (by omega))
  have U7 : Hid (_) := (U6.far (c := w.heap.size) (j := 0) (u := .string v0) (Nat.le_refl _) (by omega)).far (c := w.heap.size) (j := 1) (u := .int .i64 v1) (Nat.le_refl _) (by omega)
  have R7 : Hid (_) := (A6.set0 v0).set1 v1
  have hne : ¬ w.heap.size = w.heap.size + 1 := by omega
  have q0 := Q6.c0
  have q1 := Q6.c1
  have a0 := A6.c0
  have a1 := A6.c1
  have p0 := A6.fz 0
  have p1 := A6.fz 1
  simp only [zeroQ] at q0 q1 a0 a1
  clear hT5 hU5 U5 A5 Q5 hT6 hU6 U6 A6 Q6 H2 H3 T4 A4 Q4 U4
  go_wp2
  obtain ⟨r0, r1, _, _⟩ := R7.out
  simp only at r0 r1
  exact bodyPost_ret (v := .agg #[.string v0, .int .i64 v1]) (by simp [results, Tryz.results53, go_sem, r0, r1]) rfl ⟨rfl, T7.out, U7.out⟩

/-! ### an OPT -/
def isOptK (s : ByteArray) (x : Tk) : Bool := (numT s 2 (nameT s x).2).1 == 41
theorem isOpt_c (b : Nat) (s : ByteArray) (x : Tk) (w : World) (hs : s.size ≤ 1125899906842624) (h : TkAt w b s x) :
    Calls Tryz.prog 88 #[.pointer (some ⟨b, 0, none⟩)] w fun e w' => e = .returned (.bool (isOptK s x)) ∧ Below w.heap.size w w' := by
  have HN : Hid (∀ a w, TkAt w a s x → _) := fun a w h => name_c a s x w hs h
  have H1 : Hid (∀ a w, TkAt w a s (nameT s x).2 → _) := fun a w h => number_2t a s (nameT s x).2 w hs h
  have hV : Hid (isOptK s x = ((numT s 2 (nameT s x).2).1 == 41)) := rfl
  generalize isOptK s x = V at *
  generalize (numT s 2 (nameT s x).2).2 = y1 at *
  generalize (numT s 2 (nameT s x).2).1 = v1 at *
  generalize (nameT s x).2 = y0 at *
  generalize (nameT s x).1 = v0 at *
  have B0 : Hid (Below w.heap.size w (w.alloc (.cells #[.string s, .int .i64 x.at_, .bool x.f] 44))) := (Below.refl _ _).alloc (Nat.le_refl _) _
  have T0 : Hid (TkAt (w.alloc (.cells #[.string s, .int .i64 x.at_, .bool x.f] 44)) w.heap.size s x) := ⟨new_cell _ _ _ _ _ rfl, new_cell _ _ _ _ _ rfl, new_cell _ _ _ _ _ rfl, fun _ => new_frozen _ _ _ _, by simp, h.rg, h.wf⟩
  obtain ⟨c0, c1, c2, fz, lt, _, _⟩ := h
  clear fz hs
  go_enter Tryz.func88, Tryz.ntmps88
  go_wp2_with fail
  generalize w.alloc (.cells #[.string s, .int .i64 x.at_, .bool x.f] 44) = w0 at *
  refine (HN.out _ _ T0.out).mono ?_; rintro e w1 ⟨rfl, hT1, hU1⟩
  have B1 : Hid (Below w.heap.size w w1) := B0.out.trans hU1.bel
  clear hU1 c0 c1 c2 T0 B0 HN
  go_wp2_with fail
  refine (H1.out _ _ hT1).mono ?_; rintro e w2 ⟨rfl, hT2, hU2⟩
  have B2 : Hid (Below w.heap.size w w2) := B1.out.trans hU2.bel
  clear hU2 hT1 hT2 B1 H1
  go_wp2
  go_ret
  exact ⟨ret_bool hV.out.symm, B2.out⟩
def optA (s : ByteArray) (x : Tk) : Tk := mustT (nameT s x).1.toList.isEmpty (nameT s x).2
def optB (s : ByteArray) (x : Tk) : Tk := (numT s 2 (optA s x)).2
def optC (s : ByteArray) (x : Tk) : Int × Tk := numT s 2 (optB s x)
def optD (s : ByteArray) (x : Tk) : Tk := (numT s 4 (optC s x).2).2
def optE (s : ByteArray) (x : Tk) : Int × Tk := numT s 2 (optD s x)
/-- The OPT's size, and what is behind it. -/
def optK (s : ByteArray) (x : Tk) : Int × Tk := (if 512 > (optC s x).1 then 512 else (optC s x).1, (textT s (optE s x).1.toNat (optE s x).2).2)

set_option maxHeartbeats 400000 in
theorem opt_c (b : Nat) (s : ByteArray) (x : Tk) (w : World) (hs : s.size ≤ 1125899906842624) (h : TkAt w b s x) :
    Calls Tryz.prog 89 #[.pointer (some ⟨b, 0, none⟩)] w fun e w' => e = .returned (.int .i64 (optK s x).1) ∧ TkAt w' b s (optK s x).2 ∧ Turn b w w' := by
  have HN : Hid (∀ w, TkAt w b s x → _) := fun w h => name_c b s x w hs h
  have HM : Hid (∀ w, TkAt w b s (nameT s x).2 → Calls Tryz.prog 20 #[.pointer (some ⟨b, 0, none⟩), .bool (nameT s x).1.toList.isEmpty] w fun e w' => e = .returned (.tuple #[]) ∧ TkAt w' b s (optA s x) ∧ Turn b w w') := fun w h => must_c b s (nameT s x).2 (nameT s x).1.toList.isEmpty w h
  have H1 : Hid (∀ w, TkAt w b s (optA s x) → Calls Tryz.prog 49 #[.pointer (some ⟨b, 0, none⟩), .int .i64 2] w fun e w' => (∃ v, e = .returned (.int .i64 v)) ∧ TkAt w' b s (optB s x) ∧ Turn b w w') := fun w h => (number_2t b s (optA s x) w hs h).mono fun e w' ⟨h1, h2, h3⟩ => ⟨⟨_, h1⟩, h2, h3⟩
  have H2 : Hid (∀ w, TkAt w b s (optB s x) → Calls Tryz.prog 49 #[.pointer (some ⟨b, 0, none⟩), .int .i64 2] w fun e w' => e = .returned (.int .i64 (optC s x).1) ∧ TkAt w' b s (optC s x).2 ∧ Turn b w w') := fun w h => number_2t b s (optB s x) w hs h
  have H3 : Hid (∀ w, TkAt w b s (optC s x).2 → Calls Tryz.prog 49 #[.pointer (some ⟨b, 0, none⟩), .int .i64 4] w fun e w' => (∃ v, e = .returned (.int .i64 v)) ∧ TkAt w' b s (optD s x) ∧ Turn b w w') := fun w h => (number_4t b s (optC s x).2 w hs h).mono fun e w' ⟨h1, h2, h3⟩ => ⟨⟨_, h1⟩, h2, h3⟩
  obtain ⟨k, hk⟩ : ∃ k : Nat, (optE s x).1 = k := ⟨(optE s x).1.toNat, by have := numT_bd s 2 (optD s x); unfold optE; omega⟩
  have hk2 : k ≤ 65535 := by have := numT_bd s 2 (optD s x); unfold optE at hk; omega
  have H4 : Hid (∀ w, TkAt w b s (optD s x) → Calls Tryz.prog 49 #[.pointer (some ⟨b, 0, none⟩), .int .i64 2] w fun e w' => e = .returned (.int .i64 k) ∧ TkAt w' b s (optE s x).2 ∧ Turn b w w') := fun w h => by
    have := number_2t b s (optD s x) w hs h
    rw [← hk]; exact this
  have H5 : Hid (∀ w, TkAt w b s (optE s x).2 → Calls Tryz.prog 102 #[.pointer (some ⟨b, 0, none⟩), .int .i64 k] w fun e w' => (∃ v, e = .returned (.string v)) ∧ TkAt w' b s (optK s x).2 ∧ Turn b w w') := fun w h => by
    have := text_c b s (optE s x).2 k w hs (by omega) h
    unfold optK
    rw [hk]
    exact this.mono fun e w' ⟨h1, h2, h3⟩ => ⟨⟨_, h1⟩, h2, h3⟩
  have hmax : ∀ (w : World) (ts : Array TypeId) (t : TypeId), (Builtin.max_ ts t #[.int .i64 (optC s x).1, .int .i64 512]).run Tryz.prog w = .ok (.int .i64 (optK s x).1) w := fun w ts t => by
    rw [run_max_int2]; rfl
  generalize optA s x = yA at *
  generalize optB s x = yB at *
  generalize (optK s x).2 = yK at *
  generalize (optK s x).1 = vK at *
  generalize (optC s x).2 = yC at *
  generalize (optC s x).1 = vC at *
  generalize optD s x = yD at *
  generalize (optE s x).2 = yE at *
  generalize (nameT s x).2 = y0 at *
  generalize (nameT s x).1 = v0 at *
  have lt := h.lt
  clear hs hk hk2
  go_enter Tryz.func89, Tryz.ntmps89
  go_wp2_with fail
  go_region_held3 (fun _ => True) (trivial)
    (first
      | (go_at_call 85; refine (HN.out _ h.drewN).mono ?_; rintro e w1 ⟨rfl, hT1, hU1⟩; have U1 : Turn b w w1 := dn_turn hU1)
      | (go_at_call 20; refine (HM.out _ hT1).mono ?_; rintro e w2 ⟨rfl, hT2, hU2⟩; have U2 : Turn b w w2 := U1.trans hU2))
  clear hT1 hU1 U1 hU2 HN HM h
  go_wp2_with fail
  refine (H1.out _ hT2).mono ?_; rintro e w3 ⟨⟨v3, rfl⟩, hT3, hU3⟩
  have U3 : Hid (Turn b w w3) := U2.trans hU3
  clear hT2 U2 hU3 H1
  go_wp2_with fail
  refine (H2.out _ hT3).mono ?_; rintro e w4 ⟨rfl, hT4, hU4⟩
  have U4 : Hid (Turn b w w4) := U3.out.trans hU4
  clear hT3 U3 hU4 H2
  go_wp2_with fail
  refine (H3.out _ hT4).mono ?_; rintro e w5 ⟨⟨v5, rfl⟩, hT5, hU5⟩
  have U5 : Hid (Turn b w w5) := U4.out.trans hU5
  clear hT4 U4 hU5 H3
  go_wp2_with fail
  go_region_held3 (fun _ => True) (trivial)
    (first
      | (go_at_call 49; refine (H4.out _ hT5.drewN).mono ?_; rintro e w6 ⟨rfl, hT6, hU6⟩; have U6 : Turn b w w6 := U5.out.trans (dn_turn hU6))
      | (go_at_call 102; refine (H5.out _ hT6).mono ?_; rintro e w7 ⟨⟨v7, rfl⟩, hT7, hU7⟩; have U7 : Turn b w w7 := U6.trans hU7))
  clear hT5 U5 hT6 hU6 U6 hU7 H4 H5
  go_wp2
  go_ret
  exact ⟨rfl, hT7, U7⟩

/-! ### parts, one behind the other -/
/-- Step by step, at most k times, while none has failed. -/
def iterK {σ : Type} (tk : σ → Tk) (step : σ → σ) : Nat → σ → σ
  | 0, st => st
  | k + 1, st => if (tk st).f then st else iterK tk step k (step st)

set_option maxHeartbeats 400000 in
theorem times_c {σ : Type} (I : Nat → World → σ → Prop) (tk : σ → Tk) (step : σ → σ) (must : Bool → σ → σ) (F : Nat) (caps : Array Value) (b : Nat) (s : ByteArray)
    (hEnt : ∀ (args : Array Value) (w : World), (callFunc F args).run Tryz.prog w = .ok (.enter F args) w)
    (hTk : ∀ j w st, I j w st → TkAt w b s (tk st))
    (hMust : ∀ j w st so, I j w st → Calls Tryz.prog 20 #[.pointer (some ⟨b, 0, none⟩), .bool so] w fun e w' => e = .returned (.tuple #[]) ∧ I j w' (must so st))
    (hStep : ∀ j w st, j < 65536 → I j w st → (tk st).f = false → Calls Tryz.prog F caps w fun e w' => e = .returned (.tuple #[]) ∧ I (j + 1) w' (step st))
    (n : Nat) (most : Int) (hn : n < 65536) (w : World) (st : σ) (h : I 0 w st) :
    Calls Tryz.prog 51 #[.pointer (some ⟨b, 0, none⟩), .int .i64 n, .int .i64 most, .func (.func F) #[] caps] w fun e w' => e = .returned (.tuple #[]) ∧ ∃ j, I j w' (iterK tk step n (must (decide ((n : Int) ≤ most)) st)) := by
  have HM : Hid (∀ w, I 0 w st → _) := fun w h => hMust 0 w st (decide ((n : Int) ≤ most)) h
  have HO : Hid (∀ j w st, I j w st → _) := fun j w st h => ok_c b s (tk st) w (hTk j w st h)
  have HS : Hid (∀ j w st, j < 65536 → I j w st → (tk st).f = false → Calls Tryz.prog F caps w fun e w' => e = .returned (.tuple #[]) ∧ I (j + 1) w' (step st)) := hStep
  have H0 : Hid (I 0 w st) := h
  have HE : Hid (∀ (args : Array Value) (w : World), (callFunc F args).run Tryz.prog w = .ok (.enter F args) w) := hEnt
  obtain ⟨fin, hfin⟩ : ∃ f, iterK tk step n (must (decide ((n : Int) ≤ most)) st) = f := ⟨_, rfl⟩
  rw [hfin]
  have Hfin : Hid (iterK tk step n (must (decide ((n : Int) ≤ most)) st) = fin) := hfin
  clear hTk hMust hStep h hfin hEnt
  go_enter Tryz.func51, Tryz.ntmps51
  go_wp2_with fail
  refine (HM.out _ H0.out).mono ?_; rintro e w1 ⟨rfl, h1⟩
  have H1 : Hid (I 0 w1 (must (decide ((n : Int) ≤ most)) st)) := h1
  generalize must (decide ((n : Int) ≤ most)) st = st1 at *
  clear h1 H0 HM
  go_wp2_with fail
  go_loopw [8] (fun i wr => ∃ (j : Nat) (st' : σ), j ≤ n ∧ i = .int .i64 j ∧ Hid (I j wr st') ∧ Hid (iterK tk step (n - j) st' = fin)) (fun i _ => n - (intOf i).toNat)
  case atStart => exact ⟨0, st1, Nat.zero_le _, rfl, H1.out, Hfin.out⟩
  case round =>
    clear H1 Hfin
    obtain ⟨j, st', hj, rfl, hI, hF⟩ := hrel
    by_cases hlt : j < n
    · have hd : decide ((j : Int) < n) = true := by simpa using hlt
      have hlt' : (j : Int) < n := by omega
      cases hf : (tk st').f
      · have hF0 : iterK tk step (n - (j + 1)) (step st') = fin := by
          have := hF.out
          rw [show n - j = (n - (j + 1)) + 1 by omega, iterK, hf] at this
          simpa using this
        have hF' : Hid (iterK tk step (n - (j + 1)) (step st') = fin) := hF0
        have HO1 := HO.out j wr st' hI.out
        rw [hf] at HO1
        have HS1 : Hid (∀ w, I j w st' → Calls Tryz.prog F caps w fun e w' => e = .returned (.tuple #[]) ∧ I (j + 1) w' (step st')) := fun w h => HS.out j w st' (by omega) h hf
        clear hF0 hF
        go_wp2_with fail
        refine HO1.mono ?_; rintro e w2 ⟨rfl, rfl⟩
        clear HO1
        go_wp2_with fail
        have HC := HS1.out w2 hI.out
        rw [HE.out, Oper.upon_enter]
        refine HC.mono ?_; rintro e w3 ⟨rfl, h3⟩
        have H3 : Hid (I (j + 1) w3 (step st')) := h3
        clear h3 hI HS1 HC
        go_wp2
        go_roundw
        case rel => exact ⟨j + 1, step st', by omega, by go_num, H3.out, hF'.out⟩
        case measure => simp [intOf]; omega
      · have hF0 : st' = fin := by
          have := hF.out
          rw [show n - j = (n - (j + 1)) + 1 by omega, iterK, hf] at this
          simpa using this
        have hF' : Hid (I j wr fin) := by have := hI.out; rw [hF0] at this; exact this
        have HO1 := HO.out j wr st' hI.out
        rw [hf] at HO1
        clear hF0 hF hI
        go_wp2_with fail
        refine HO1.mono ?_; rintro e w2 ⟨rfl, rfl⟩
        go_wp2
        go_end0
        exact ⟨rfl, j, hF'.out⟩
    · obtain rfl : j = n := by omega
      have hd : decide ((j : Int) < j) = false := by simp
      have hF' : Hid (I j wr fin) := by
        have h1 := hI.out
        have h2 := hF.out
        rw [Nat.sub_self, iterK] at h2
        rw [h2] at h1
        exact h1
      clear hF hI
      go_wp2
      go_end0
      exact ⟨rfl, j, hF'.out⟩

end Go.Proofs.YtdmooggmoihggaaGreatDoor
