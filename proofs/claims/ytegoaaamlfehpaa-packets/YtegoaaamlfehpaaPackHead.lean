/-
  Contracts of package packet's head and Put, at every packet.
-/
import Derived.Test.YtegoaaamlfehpaaPackMay
import Derived.Test.YtegoaaamlfehpaaShelf3
namespace Go.Proofs.Ytegoaaamlfehpaa
open Go.ChangeShapes Go.WideShapes Go.ChangeAt Go.RowKit Go.Pin Go.PlainAid

theorem rep_zero (n : Nat) (w : World) (hn : n ≤ 1000) : Calls Try.prog 53 #[.string ⟨#[0]⟩, .int .i64 n] w fun e w' => e = .returned (.string (mk (List.replicate n 0))) ∧ Below w.heap.size w w' := by
  have := Try.strings_Repeat ⟨#[0]⟩ n w (by omega) (by simp only [ByteArray.size]; show 1 * n ≤ _; omega)
  have e : (⟨(Lib.repeatL (⟨#[0]⟩ : ByteArray).data.toList n).toArray⟩ : ByteArray) = mk (List.replicate n 0) := by
    have : ∀ n, Lib.repeatL [(0 : UInt8)] n = List.replicate n 0 := by
      intro n
      induction n with
      | zero => rfl
      | succ n ih => rw [Lib.repeatL, ih]; rfl
    simp [mk, this]
  rw [e] at this
  exact this
/-- Numbers that lie in new memory. -/
theorem numbers_new (b : Nat) (P : List UInt8) (k : Nat) (ns : List Int) (cs : Array Value) (w : World) (h : Wr w b 0 false ⟨P, [], false⟩) (hcs : cs = (ns.map (Value.int .i64)).toArray) (hn : ∀ v ∈ ns, inB v k) (hns : ns.length ≤ 100) (hk : k ≤ 4) (hP : P.length + 400 ≤ 100000) :
    Calls Try.prog 52 #[.pointer (some ⟨b, 0, none⟩), .int .i64 k, .slice (some ⟨w.heap.size, 0, none⟩) ns.length ns.length] (w.alloc (.cells cs 3)) fun e w' => e = .returned (.tuple #[]) ∧ Wr w' b 0 false ⟨P ++ nums k ns, [], false⟩ ∧ Ink b w w' := by
  have hb : Below w.heap.size w (w.alloc (.cells cs 3)) := (Below.refl _ _).alloc (Nat.le_refl _) _
  have hlt := h.lt
  refine (numbers_c b P k ⟨w.heap.size, 0, none⟩ ns ns.length _ (h.below hb) (by simp only; omega) ?_ (by simp) (ints_new w cs _ ns hcs) hn hns hk hP).mono fun e w' ⟨h1, h2, h3⟩ => ⟨h1, h2, (Ink.of_below hb hlt).trans h3⟩
  rintro ⟨cur, f, e⟩
  rw [heap_alloc_new] at e
  simp only [Option.some.injEq, Obj.cells.injEq] at e
  exact absurd e.2.1 (by decide)
theorem textW_rf0 (t : ByteArray) (P : List UInt8) : textW t ⟨P, [], false⟩ = ⟨P ++ bs t, [], false⟩ := by simp [textW]
set_option maxHeartbeats 2000000 in
theorem head_c (b : Nat) (p : Pk) (a : Option Addr) (c : Nat) (w : World) (h : Wr w b 0 false ⟨[], [], false⟩) (hm : mayP p = true) :
    Calls Try.prog 32 #[.pointer (some ⟨b, 0, none⟩), pv p a c] w fun e w' => e = .returned (.tuple #[]) ∧ Wr w' b 0 false ⟨headP p, [], false⟩ ∧ Ink b w w' := by
  obtain ⟨m1, m2, m4, h16, _⟩ := (mayP_iff p).1 hm
  obtain ⟨P1, hP1⟩ : ∃ P1, P1 = nums 1 [p.op, p.ht, (p.ch.size : Int), p.ho] := ⟨_, rfl⟩
  obtain ⟨P2, hP2⟩ : ∃ P2, P2 = P1 ++ nums 4 [p.xid] := ⟨_, rfl⟩
  obtain ⟨P3, hP3⟩ : ∃ P3, P3 = P2 ++ nums 2 [p.sc, p.fl] := ⟨_, rfl⟩
  obtain ⟨P4, hP4⟩ : ∃ P4, P4 = P3 ++ nums 4 [p.ci, p.yi, p.si, p.gi] := ⟨_, rfl⟩
  obtain ⟨P5, hP5⟩ : ∃ P5, P5 = P4 ++ bs p.ch := ⟨_, rfl⟩
  obtain ⟨P6, hP6⟩ : ∃ P6, P6 = P5 ++ List.replicate (208 - p.ch.size) 0 := ⟨_, rfl⟩
  have hH : headP p = P6 ++ nums 4 [1669485411] := by rw [hP6, hP5, hP4, hP3, hP2, hP1]; rfl
  have l1 : P1.length = 4 := by rw [hP1, nums_len]; rfl
  have l2 : P2.length = 8 := by rw [hP2, List.length_append, nums_len, l1]; rfl
  have l3 : P3.length = 12 := by rw [hP3, List.length_append, nums_len, l2]; rfl
  have l4 : P4.length = 28 := by rw [hP4, List.length_append, nums_len, l3]; rfl
  have l5 : P5.length ≤ 44 := by rw [hP5, List.length_append, l4, length_bs]; omega
  have l6 : P6.length ≤ 252 := by rw [hP6, List.length_append, List.length_replicate]; omega
  have N1 : Hid (∀ w, Wr w b 0 false ⟨[], [], false⟩ → Calls Try.prog 52 #[.pointer (some ⟨b, 0, none⟩), .int .i64 1, .slice (some ⟨w.heap.size, 0, none⟩) 4 4] (w.alloc (.cells #[.int .i64 p.op, .int .i64 p.ht, .int .i64 (p.ch.size : Int), .int .i64 p.ho] 3)) fun e w' => e = .returned (.tuple #[]) ∧ Wr w' b 0 false ⟨P1, [], false⟩ ∧ Ink b w w') := by
    intro w h
    rw [hP1]
    refine numbers_new b [] 1 [p.op, p.ht, (p.ch.size : Int), p.ho] _ w h rfl ?_ (by simp) (by omega) (by simp)
    intro v hv
    simp only [List.mem_cons, List.not_mem_nil, or_false] at hv m1
    rcases hv with rfl | rfl | rfl | rfl
    · exact m1 _ (.inl rfl)
    · exact m1 _ (.inr (.inl rfl))
    · exact .inl ⟨rfl, by omega, by omega⟩
    · exact m1 _ (.inr (.inr rfl))
  have N2 : Hid (∀ w, Wr w b 0 false ⟨P1, [], false⟩ → Calls Try.prog 52 #[.pointer (some ⟨b, 0, none⟩), .int .i64 4, .slice (some ⟨w.heap.size, 0, none⟩) 1 1] (w.alloc (.cells #[.int .i64 p.xid] 3)) fun e w' => e = .returned (.tuple #[]) ∧ Wr w' b 0 false ⟨P2, [], false⟩ ∧ Ink b w w') := by
    intro w h
    rw [hP2]
    exact numbers_new b P1 4 [p.xid] _ w h rfl (fun v hv => m4 v (by simp at hv; subst hv; simp)) (by simp) (by omega) (by omega)
  have N3 : Hid (∀ w, Wr w b 0 false ⟨P2, [], false⟩ → Calls Try.prog 52 #[.pointer (some ⟨b, 0, none⟩), .int .i64 2, .slice (some ⟨w.heap.size, 0, none⟩) 2 2] (w.alloc (.cells #[.int .i64 p.sc, .int .i64 p.fl] 3)) fun e w' => e = .returned (.tuple #[]) ∧ Wr w' b 0 false ⟨P3, [], false⟩ ∧ Ink b w w') := by
    intro w h
    rw [hP3]
    exact numbers_new b P2 2 [p.sc, p.fl] _ w h rfl m2 (by simp) (by omega) (by omega)
  have N4 : Hid (∀ w, Wr w b 0 false ⟨P3, [], false⟩ → Calls Try.prog 52 #[.pointer (some ⟨b, 0, none⟩), .int .i64 4, .slice (some ⟨w.heap.size, 0, none⟩) 4 4] (w.alloc (.cells #[.int .i64 p.ci, .int .i64 p.yi, .int .i64 p.si, .int .i64 p.gi] 3)) fun e w' => e = .returned (.tuple #[]) ∧ Wr w' b 0 false ⟨P4, [], false⟩ ∧ Ink b w w') := by
    intro w h
    rw [hP4]
    exact numbers_new b P3 4 [p.ci, p.yi, p.si, p.gi] _ w h rfl (fun v hv => m4 v (List.mem_cons_of_mem _ hv)) (by simp) (by omega) (by omega)
  have N5 : Hid (∀ w, Wr w b 0 false ⟨P4, [], false⟩ → Calls Try.prog 33 #[.pointer (some ⟨b, 0, none⟩), .string p.ch] w fun e w' => e = .returned (.tuple #[]) ∧ Wr w' b 0 false ⟨P5, [], false⟩ ∧ Ink b w w') := by
    intro w h
    rw [hP5]
    have := text_g b 0 false ⟨P4, [], false⟩ p.ch w h (by simp only; omega) (by omega)
    rw [textW_rf0] at this
    exact this
  have N6 : Hid (∀ w, Wr w b 0 false ⟨P5, [], false⟩ → Calls Try.prog 33 #[.pointer (some ⟨b, 0, none⟩), .string (mk (List.replicate (208 - p.ch.size) 0))] w fun e w' => e = .returned (.tuple #[]) ∧ Wr w' b 0 false ⟨P6, [], false⟩ ∧ Ink b w w') := by
    intro w h
    rw [hP6]
    have := text_g b 0 false ⟨P5, [], false⟩ (mk (List.replicate (208 - p.ch.size) 0)) w h (by simp only; omega) (by rw [size_mk, List.length_replicate]; omega)
    rw [textW_rf0, bs_mk] at this
    exact this
  have N7 : Hid (∀ w, Wr w b 0 false ⟨P6, [], false⟩ → Calls Try.prog 52 #[.pointer (some ⟨b, 0, none⟩), .int .i64 4, .slice (some ⟨w.heap.size, 0, none⟩) 1 1] (w.alloc (.cells #[.int .i64 1669485411] 3)) fun e w' => e = .returned (.tuple #[]) ∧ Wr w' b 0 false ⟨headP p, [], false⟩ ∧ Ink b w w') := by
    intro w h
    rw [hH]
    exact numbers_new b P6 4 [1669485411] _ w h rfl (fun v hv => by simp at hv; subst hv; exact .inr (.inr ⟨rfl, by omega, by omega⟩)) (by simp) (by omega) (by omega)
  obtain ⟨nz, hnz⟩ : ∃ nz : Nat, nz = 208 - p.ch.size := ⟨_, rfl⟩
  have hz1 : IntKind.i64.wrap (16 - (p.ch.size : Int)) = 16 - (p.ch.size : Int) := wrap_in _ (by omega) (by omega)
  have hz2 : IntKind.i64.wrap (16 - (p.ch.size : Int) + 64) = 80 - (p.ch.size : Int) := by rw [wrap_in _ (by omega) (by omega)]; omega
  have hz3 : IntKind.i64.wrap (80 - (p.ch.size : Int) + 128) = (nz : Int) := by rw [wrap_in _ (by omega) (by omega)]; omega
  have HZ : Hid (∀ w, _) := fun w => rep_zero nz w (by omega)
  rw [← hnz] at N6
  have X0 : Hid (BoxP (w.alloc (.cells (cellsP p a c) 40)) w.heap.size p a c) := BoxP.new w p a c
  have lt := h.lt
  have W0 : Hid (Wr (w.alloc (.cells (cellsP p a c) 40)) b 0 false ⟨[], [], false⟩) := h.below ((Below.refl _ _).alloc (Nat.le_refl _) _)
  have I0 : Hid (Ink b w (w.alloc (.cells (cellsP p a c) 40))) := Ink.of_below ((Below.refl _ _).alloc (Nat.le_refl _) _) lt
  have hcell : Hid (∀ w', BoxP w' w.heap.size p a c → _) := fun w' h => h.all
  have hink : Hid (∀ w' w'', BoxP w' w.heap.size p a c → Ink b w' w'' → BoxP w'' w.heap.size p a c) := fun w' w'' h1 h2 => h1.ink h2 (by omega)
  have hchl : p.ch.size ≤ 9223372036854775807 := by omega
  generalize headP p = PH at *
  generalize mk (List.replicate nz (0 : UInt8)) = Z at *
  clear h hm m1 m2 m4 hP1 hP2 hP3 hP4 hP5 hP6 hH l1 l2 l3 l4 l5 l6 hnz
  simp only [pv, cellsP] at *
  go_enter Try.func32, Try.ntmps32
  go_wp2_with fail
  obtain ⟨c0, c1, c2, c3, c4, c5, c6, c7, c8, c9, c10, c11⟩ := hcell.out _ X0.out
  have hs0 : Hid (w.heap.size + 1 = (w.alloc (.cells #[.int .i64 p.op, .int .i64 p.ht, .int .i64 p.ho, .int .i64 p.xid, .int .i64 p.sc, .int .i64 p.fl, .int .i64 p.ci, .int .i64 p.yi, .int .i64 p.si, .int .i64 p.gi, .string p.ch, .slice a p.os.length c] 40)).heap.size) := by show _ = _; simp
  generalize w.alloc (.cells #[.int .i64 p.op, .int .i64 p.ht, .int .i64 p.ho, .int .i64 p.xid, .int .i64 p.sc, .int .i64 p.fl, .int .i64 p.ci, .int .i64 p.yi, .int .i64 p.si, .int .i64 p.gi, .string p.ch, .slice a p.os.length c] 40) = w0 at *
  rw [hs0.out]
  refine (N1.out _ W0.out).mono ?_; rintro e w1 ⟨rfl, hW, hI⟩
  have W1 : Hid (_) := hW
  have X1 : Hid (BoxP w1 w.heap.size p a c) := hink.out _ _ X0.out hI
  have I1 : Hid (Ink b w w1) := I0.out.trans hI
  clear hW hI W0 X0 I0 c0 c1 c2 c3 c4 c5 c6 c7 c8 c9 c10 c11
  obtain ⟨c0, c1, c2, c3, c4, c5, c6, c7, c8, c9, c10, c11⟩ := hcell.out _ X1.out
  go_wp2_with fail
  refine (N2.out _ W1.out).mono ?_; rintro e w2 ⟨rfl, hW, hI⟩
  have W2 : Hid (_) := hW
  have X2 : Hid (BoxP w2 w.heap.size p a c) := hink.out _ _ X1.out hI
  have I2 : Hid (Ink b w w2) := I1.out.trans hI
  clear hW hI W1 X1 I1 c0 c1 c2 c3 c4 c5 c6 c7 c8 c9 c10 c11
  obtain ⟨c0, c1, c2, c3, c4, c5, c6, c7, c8, c9, c10, c11⟩ := hcell.out _ X2.out
  go_wp2_with fail
  refine (N3.out _ W2.out).mono ?_; rintro e w3 ⟨rfl, hW, hI⟩
  have W3 : Hid (_) := hW
  have X3 : Hid (BoxP w3 w.heap.size p a c) := hink.out _ _ X2.out hI
  have I3 : Hid (Ink b w w3) := I2.out.trans hI
  clear hW hI W2 X2 I2 c0 c1 c2 c3 c4 c5 c6 c7 c8 c9 c10 c11
  obtain ⟨c0, c1, c2, c3, c4, c5, c6, c7, c8, c9, c10, c11⟩ := hcell.out _ X3.out
  go_wp2_with fail
  refine (N4.out _ W3.out).mono ?_; rintro e w4 ⟨rfl, hW, hI⟩
  have W4 : Hid (_) := hW
  have X4 : Hid (BoxP w4 w.heap.size p a c) := hink.out _ _ X3.out hI
  have I4 : Hid (Ink b w w4) := I3.out.trans hI
  clear hW hI W3 X3 I3 c0 c1 c2 c3 c4 c5 c6 c7 c8 c9 c10 c11
  obtain ⟨c0, c1, c2, c3, c4, c5, c6, c7, c8, c9, c10, c11⟩ := hcell.out _ X4.out
  go_wp2_with fail
  have HT5 : Hid (Calls Try.prog 33 #[.pointer (some ⟨b, 0, none⟩), .string p.ch] w4.drew fun e w' => e = .returned (.tuple #[]) ∧ Wr w' b 0 false ⟨P5, [], false⟩ ∧ Ink b w4 w') := (N5.out _ (W4.out.below (below_drewN (Below.refl _ _) 1))).mono fun e w' ⟨h1, h2, h3⟩ => ⟨h1, h2, (Ink.of_below (below_drewN (Below.refl _ _) 1) W4.out.lt).trans h3⟩
  go_region_held3 (fun w' => w'.cell? ⟨w.heap.size, 10, none⟩ = some (.string p.ch)) (first | exact c10 | exact d10) (first | (go_at_call 33; refine HT5.out.mono ?_; rintro e w5 ⟨rfl, hW, hI⟩; have d10 := (hcell.out _ (hink.out _ _ X4.out hI)).2.2.2.2.2.2.2.2.2.2.1))
  clear d10 HT5
  have W5 : Hid (_) := hW
  have X5 : Hid (BoxP w5 w.heap.size p a c) := hink.out _ _ X4.out hI
  have I5 : Hid (Ink b w w5) := I4.out.trans hI
  clear hW hI W4 X4 I4 c0 c1 c2 c3 c4 c5 c6 c7 c8 c9 c10 c11
  obtain ⟨c0, c1, c2, c3, c4, c5, c6, c7, c8, c9, c10, c11⟩ := hcell.out _ X5.out
  go_wp2_with fail
  have HZ5 : Hid (Calls Try.prog 53 #[.string ⟨#[0]⟩, .int .i64 nz] w5.drew fun e w' => e = .returned (.string Z) ∧ Below w5.heap.size w5 w') := (HZ.out _).mono fun e w' ⟨h1, h2⟩ => ⟨h1, bel_trans (below_drewN (Below.refl _ _) 1) h2⟩
  go_region_held3 (fun w' => w'.cell? ⟨w.heap.size, 10, none⟩ = some (.string p.ch)) (first | exact c10 | exact d10 | exact e10) (first | (go_at_call 53; refine HZ5.out.mono ?_; rintro e w6 ⟨rfl, hb6⟩; have d10 := (hcell.out _ (X5.out.below hb6)).2.2.2.2.2.2.2.2.2.2.1) | (go_at_call 33; refine (N6.out _ (W5.out.below hb6)).mono ?_; rintro e w7 ⟨rfl, hW, hI⟩; have e10 := (hcell.out _ (hink.out _ _ (X5.out.below hb6) hI)).2.2.2.2.2.2.2.2.2.2.1))
  have W7 : Hid (_) := hW
  have I7 : Hid (Ink b w w7) := I5.out.trans ((Ink.of_below hb6 W5.out.lt).trans hI)
  clear hW hI W5 X5 I5 c0 c1 c2 c3 c4 c5 c6 c7 c8 c9 c10 c11 d10 e10 hb6 HZ5
  go_wp2_with fail
  refine (N7.out _ W7.out).mono ?_; rintro e w8 ⟨rfl, hW, hI⟩
  have I8 : Hid (Ink b w w8) := I7.out.trans hI
  have W8 : Hid (_) := hW
  clear hI hW
  go_wp2
  go_end0
  exact ⟨rfl, W8.out, I8.out⟩
end Go.Proofs.Ytegoaaamlfehpaa
