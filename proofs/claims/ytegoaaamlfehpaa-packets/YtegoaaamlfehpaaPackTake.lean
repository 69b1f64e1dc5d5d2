/-
  Contract of package packet's reader: all there is, at every text.
-/
import Derived.Test.YtegoaaamlfehpaaPackOpts
import Derived.Test.YtegoaaamlfehpaaPackMay
import Derived.Deep.DeepCutAuto
import Derived.Deep.CutRange
namespace Go.Proofs.Ytegoaaamlfehpaa
open Go.ChangeShapes Go.WideShapes Go.ChangeAt Go.RowKit Go.Pin Go.PlainAid

theorem Turn.store {b r : Nat} {w w' : World} (h : Turn b w w') (hr : w.heap.size ≤ r) (hb : b < r) (j : Nat) (u : Value) : Turn b w (w'.setCell ⟨r, j, none⟩ u) :=
  ⟨h.bel.setCell (show b ≤ (⟨r, j, none⟩ : Addr).block from Nat.le_of_lt hb) u, fun c hc hl => (Below.heap_setCell _ _ _ _ (show c ≠ r by omega)).trans (h.oth c hc hl), fun k hk => (World.cell?_setCell_other _ _ _ _ (by intro e; injection e; omega)).trans (h.cel k hk)⟩
theorem TkAt.store {w : World} {b r : Nat} {s : ByteArray} {x : Tk} (h : TkAt w b s x) (hr : b ≠ r) (j : Nat) (u : Value) : TkAt (w.setCell ⟨r, j, none⟩ u) b s x := by
  have hc : ∀ k, (w.setCell ⟨r, j, none⟩ u).cell? ⟨b, k, none⟩ = w.cell? ⟨b, k, none⟩ := fun k => World.cell?_setCell_other _ _ _ _ (by intro e; injection e with e; exact hr e.symm)
  exact ⟨(hc 0).trans h.c0, (hc 1).trans h.c1, (hc 2).trans h.c2, fun k => by rw [World.frozen?_setCell]; exact h.fz k, by rw [setCell_size]; exact h.lt, h.rg, h.wf⟩
theorem BoxP.turn {w w' : World} {b r : Nat} {p : Pk} {a : Option Addr} {c : Nat} (x : BoxP w r p a c) (h : Turn b w w') (hr : r ≠ b) : BoxP w' r p a c := (h.oth r hr x.lt).trans x
theorem BoxP.fz {w : World} {r : Nat} {p : Pk} {a : Option Addr} {c : Nat} (x : BoxP w r p a c) (j : Nat) : w.frozen? ⟨r, j, none⟩ = false := by
  rw [BoxP] at x
  simp [World.frozen?, x]
theorem BoxP.other {w : World} {r q : Nat} {p : Pk} {a : Option Addr} {c : Nat} (x : BoxP w r p a c) (hq : r ≠ q) (j : Nat) (u : Value) : BoxP (w.setCell ⟨q, j, none⟩ u) r p a c := (Below.heap_setCell _ _ _ _ hq).trans x
theorem BoxP.set {w : World} {r : Nat} {p p' : Pk} {a a' : Option Addr} {c c' : Nat} (x : BoxP w r p a c) (j : Nat) (u : Value) (h : (cellsP p a c).set! j u = cellsP p' a' c') : BoxP (w.setCell ⟨r, j, none⟩ u) r p' a' c' := by
  unfold BoxP at x ⊢
  rw [← h]
  simp [World.setCell, Array.getElem?_modify, x]
def zeroP : Pk := ⟨0, 0, 0, 0, 0, 0, 0, 0, 0, 0, ⟨#[]⟩, []⟩

/-! ### how far, what -/
def pk1 (s : ByteArray) := numT s 1 ⟨0, false⟩
def pk2 (s : ByteArray) := numT s 1 (pk1 s).2
def pk3 (s : ByteArray) := numT s 1 (pk2 s).2
def pk3m (s : ByteArray) := mustT (decide ((pk3 s).1 ≤ 16)) (pk3 s).2
def pk4 (s : ByteArray) := numT s 1 (pk3m s)
def pk5 (s : ByteArray) := numT s 4 (pk4 s).2
def pk6 (s : ByteArray) := numT s 2 (pk5 s).2
def pk7 (s : ByteArray) := numT s 2 (pk6 s).2
def pk8 (s : ByteArray) := numT s 4 (pk7 s).2
def pk9 (s : ByteArray) := numT s 4 (pk8 s).2
def pk10 (s : ByteArray) := numT s 4 (pk9 s).2
def pk11 (s : ByteArray) := numT s 4 (pk10 s).2
def pk12 (s : ByteArray) := textT s (pk3 s).1.toNat (pk11 s).2
def pk13 (s : ByteArray) := textT s (16 - (pk3 s).1).toNat (pk12 s).2
def pk14 (s : ByteArray) := textT s 64 (pk13 s).2
def pk15 (s : ByteArray) := textT s 128 (pk14 s).2
def pk16 (s : ByteArray) := numT s 4 (pk15 s).2
def pk16m (s : ByteArray) := mustT ((pk16 s).1 == 1669485411) (pk16 s).2
def pk17 (s : ByteArray) := optsT s (pk16m s) (pk14 s).1 (pk15 s).1
def pkT (s : ByteArray) : Pk := ⟨(pk1 s).1, (pk2 s).1, (pk4 s).1, (pk5 s).1, (pk6 s).1, (pk7 s).1, (pk8 s).1, (pk9 s).1, (pk10 s).1, (pk11 s).1, (pk12 s).1, (pk17 s).1⟩
theorem set_same {w : World} {b j : Nat} {v : Value} (h : w.cell? ⟨b, j, none⟩ = some v) : w.setCell ⟨b, j, none⟩ v = w := by
  have key : ∀ h', h' = w.heap → ({ w with heap := h' } : World) = w := by rintro _ rfl; rfl
  unfold World.setCell
  refine key _ ?_
  · apply Array.ext (by simp)
    intro i h1 h2
    rw [Array.getElem_modify]
    by_cases hi : b = i
    · subst hi
      rw [if_pos rfl]
      simp only [World.cell?, Array.getElem?_eq_getElem h2] at h
      cases ho : w.heap[b] with
      | cells c el fr =>
        rw [ho] at h
        simp at h
        simp only [Option.isSome_none, Bool.false_eq_true, if_false]
        congr 1
        apply Array.ext (by simp)
        intro k k1 k2
        rw [Array.getElem_setIfInBounds]
        split
        · rename_i hk
          subst hk
          rw [Array.getElem?_eq_getElem k2] at h
          cases h; rfl
        · rfl
      | _ => rfl
    · rw [if_neg hi]
theorem must_failed (b : Nat) (s : ByteArray) (x : Tk) (w : World) (h : TkAt w b s x) (hf : x.f = true) : Calls Try.prog 47 #[.pointer (some ⟨b, 0, none⟩), .bool false] w fun e w' => e = .returned (.tuple #[]) ∧ w' = w :=
  (must_no b s x w h).mono fun e w' ⟨h1, h2⟩ => ⟨h1, by rw [h2]; exact set_same (by rw [h.c2, hf])⟩
set_option maxHeartbeats 1000000 in
theorem text_any (b : Nat) (s : ByteArray) (x : Tk) (n : Int) (w : World) (hs : s.size ≤ 1125899906842624) (hn : x.f = true ∨ (0 ≤ n ∧ n ≤ 65535)) (h : TkAt w b s x) (hw : -9223372036854775808 ≤ n ∧ n ≤ 9223372036854775807) :
    Calls Try.prog 29 #[.pointer (some ⟨b, 0, none⟩), .int .i64 n] w fun e w' => e = .returned (.string (textT s n.toNat x).1) ∧ TkAt w' b s (textT s n.toNat x).2 ∧ Turn b w w' := by
  by_cases h0 : 0 ≤ n
  · obtain ⟨k, rfl⟩ : ∃ k : Nat, n = k := ⟨n.toNat, by omega⟩
    rw [Int.toNat_natCast]
    cases hf : x.f with
    | true =>
      have e1 : textT s k x = (⟨#[]⟩, x) := by simp [textT, hf]
      rw [e1]
      exact text_failed b s x k w h hf
    | false => exact text_c b s x k w hs (by rcases hn with hn | hn; (rw [hf] at hn; cases hn); omega) h
  · have hf : x.f = true := by
      rcases hn with hn | hn
      · exact hn
      · omega
    have e1 : textT s n.toNat x = (⟨#[]⟩, x) := by simp [textT, hf]
    rw [e1]
    have HM : Hid (∀ w, TkAt w b s x → _) := fun w h => must_failed b s x w h hf
    have hh : Hid (TkAt w b s x) := h
    have hd : decide (0 ≤ n) = false := by simpa using h0
    obtain ⟨c0, c1, c2, fz, lt, _, _⟩ := h
    rw [hf] at c2
    clear fz hn
    go_enter Try.func29, Try.ntmps29
    go_wp2_with fail
    refine wp_region_any (by kernel_rfl) ?_
    change wpAny _ _ _ _ _ _ _ (World.drew _)
    refine wpAny_take (i := 0) (v := .pointer (some ⟨b, 0, none⟩)) rfl (by kernel_rfl) (by kernel_rfl) (by kernel_rfl) (fun _ _ _ h => h) (Or.inl ⟨by rfl, ?_⟩) ?_
    · intro w; go_simp
    refine wpAny_take (i := 1) (v := .int .i64 n) rfl (by kernel_rfl) (by kernel_rfl) (by kernel_rfl) (fun _ _ _ h => h) (Or.inl ⟨by rfl, ?_⟩) ?_
    · intro w; go_simp
    refine wpAny_take (i := 2) (v := .bool false) rfl (by kernel_rfl) (by kernel_rfl) (by kernel_rfl) (fun _ _ _ h => h) (Or.inl ⟨by rfl, ?_⟩) ?_
    · intro w; rw [← hd]; go_simp
    refine wpAny_take (i := 3) (v := .bool false) rfl (by kernel_rfl) (by kernel_rfl) (by kernel_rfl) (fun _ _ _ h => h) (Or.inl ⟨by rfl, ?_⟩) ?_
    · intro w; go_simp
    refine wpAny_take (i := 4) (v := undef) rfl (by kernel_rfl) (by kernel_rfl) (by kernel_rfl) (fun _ _ _ h => h) (Or.inr ⟨by kernel_rfl, rfl⟩) ?_
    refine wpAny_take (i := 5) (v := undef) rfl (by kernel_rfl) (by kernel_rfl) (by kernel_rfl) (fun _ _ _ h => h) (Or.inr ⟨by kernel_rfl, rfl⟩) ?_
    refine wpAny_take (i := 6) (v := undef) rfl (by kernel_rfl) (by kernel_rfl) (by kernel_rfl) (fun _ _ _ h => h) (Or.inr ⟨by kernel_rfl, rfl⟩) ?_
    refine wpAny_take (i := 7) (v := undef) rfl (by kernel_rfl) (by kernel_rfl) (by kernel_rfl) (fun _ _ _ h => h) (Or.inr ⟨by kernel_rfl, rfl⟩) ?_
    refine wpAny_take (i := 8) (v := undef) rfl (by kernel_rfl) (by kernel_rfl) (by kernel_rfl) (fun _ _ _ h => h) (Or.inr ⟨by kernel_rfl, rfl⟩) ?_
    refine wpAny_take (i := 9) (v := undef) rfl (by kernel_rfl) (by kernel_rfl) (by kernel_rfl) (fun _ _ _ h => h) (Or.inr ⟨by kernel_rfl, rfl⟩) ?_
    refine wpAny_take (i := 10) (v := undef) rfl (by kernel_rfl) (by kernel_rfl) (by kernel_rfl) (fun _ _ _ h => h) (Or.inr ⟨by kernel_rfl, rfl⟩) ?_
    refine wpAny_take (i := 11) (v := undef) rfl (by kernel_rfl) (by kernel_rfl) (by kernel_rfl) (fun _ _ _ h => h) (Or.inr ⟨by kernel_rfl, rfl⟩) ?_
    refine wpAny_take (i := 12) (v := undef) rfl (by kernel_rfl) (by kernel_rfl) (by kernel_rfl) (fun _ _ _ h => h) (Or.inr ⟨by kernel_rfl, rfl⟩) ?_
    refine wpAny_take (i := 13) (v := undef) rfl (by kernel_rfl) (by kernel_rfl) (by kernel_rfl) (fun _ _ _ h => h) (Or.inr ⟨by kernel_rfl, rfl⟩) ?_
    refine wpAny_take (i := 14) (v := undef) rfl (by kernel_rfl) (by kernel_rfl) (by kernel_rfl) (fun _ _ _ h => h) (Or.inr ⟨by kernel_rfl, rfl⟩) ?_
    refine wpAny_take (i := 15) (v := undef) rfl (by kernel_rfl) (by kernel_rfl) (by kernel_rfl) (fun _ _ _ h => h) (Or.inr ⟨by kernel_rfl, rfl⟩) ?_
    refine wpAny_take (i := 16) (v := .bool false) rfl (by kernel_rfl) (by kernel_rfl) (by kernel_rfl) (fun _ _ _ h => h) (Or.inl ⟨by rfl, ?_⟩) ?_
    · intro w; go_simp
    refine wpAny_ready (rs := [17]) (by kernel_rfl) (by simp) ?_
    refine AllReady.cons rfl (fun K hK => ?_) AllReady.nil
    go_simp
    refine (HM.out _ (hh.out.below (below_drewN (Below.refl _ _) 1) lt)).mono ?_; rintro e w5 ⟨rfl, rfl⟩
    refine hK _ _ ?_
    clear hK K
    refine wpAny_done (by kernel_rfl) ?_ _
    go_wp2
    go_ret
    exact ⟨rfl, hh.out.below (below_drewN (Below.refl _ _) 1) lt, Turn.of_below (below_drewN (Below.refl _ _) 1) lt⟩

/-- All cells of a packet stored into block r. -/
def layP (w : World) (r : Nat) (P : Pk) (a : Option Addr) (c : Nat) : World := ((((((((((((((((((((((((w).setCell ⟨r, 0, none⟩ (.int .i64 P.op))).setCell ⟨r, 1, none⟩ (.int .i64 P.ht))).setCell ⟨r, 2, none⟩ (.int .i64 P.ho))).setCell ⟨r, 3, none⟩ (.int .i64 P.xid))).setCell ⟨r, 4, none⟩ (.int .i64 P.sc))).setCell ⟨r, 5, none⟩ (.int .i64 P.fl))).setCell ⟨r, 6, none⟩ (.int .i64 P.ci))).setCell ⟨r, 7, none⟩ (.int .i64 P.yi))).setCell ⟨r, 8, none⟩ (.int .i64 P.si))).setCell ⟨r, 9, none⟩ (.int .i64 P.gi))).setCell ⟨r, 10, none⟩ (.string P.ch))).setCell ⟨r, 11, none⟩ (.slice a P.os.length c))
theorem layP_box {w : World} {r : Nat} {p : Pk} {a0 : Option Addr} {c0 : Nat} (h : BoxP w r p a0 c0) (P : Pk) (a : Option Addr) (c : Nat) : BoxP (layP w r P a c) r P a c := by
  unfold layP
  have h1 := (h).set (p' := { p with op := P.op }) (a' := a0) (c' := c0) 0 (.int .i64 P.op) rfl
  have h2 := (h1).set (p' := { p with op := P.op, ht := P.ht }) (a' := a0) (c' := c0) 1 (.int .i64 P.ht) rfl
  have h3 := (h2).set (p' := { p with op := P.op, ht := P.ht, ho := P.ho }) (a' := a0) (c' := c0) 2 (.int .i64 P.ho) rfl
  have h4 := (h3).set (p' := { p with op := P.op, ht := P.ht, ho := P.ho, xid := P.xid }) (a' := a0) (c' := c0) 3 (.int .i64 P.xid) rfl
  have h5 := (h4).set (p' := { p with op := P.op, ht := P.ht, ho := P.ho, xid := P.xid, sc := P.sc }) (a' := a0) (c' := c0) 4 (.int .i64 P.sc) rfl
  have h6 := (h5).set (p' := { p with op := P.op, ht := P.ht, ho := P.ho, xid := P.xid, sc := P.sc, fl := P.fl }) (a' := a0) (c' := c0) 5 (.int .i64 P.fl) rfl
  have h7 := (h6).set (p' := { p with op := P.op, ht := P.ht, ho := P.ho, xid := P.xid, sc := P.sc, fl := P.fl, ci := P.ci }) (a' := a0) (c' := c0) 6 (.int .i64 P.ci) rfl
  have h8 := (h7).set (p' := { p with op := P.op, ht := P.ht, ho := P.ho, xid := P.xid, sc := P.sc, fl := P.fl, ci := P.ci, yi := P.yi }) (a' := a0) (c' := c0) 7 (.int .i64 P.yi) rfl
  have h9 := (h8).set (p' := { p with op := P.op, ht := P.ht, ho := P.ho, xid := P.xid, sc := P.sc, fl := P.fl, ci := P.ci, yi := P.yi, si := P.si }) (a' := a0) (c' := c0) 8 (.int .i64 P.si) rfl
  have h10 := (h9).set (p' := { p with op := P.op, ht := P.ht, ho := P.ho, xid := P.xid, sc := P.sc, fl := P.fl, ci := P.ci, yi := P.yi, si := P.si, gi := P.gi }) (a' := a0) (c' := c0) 9 (.int .i64 P.gi) rfl
  have h11 := (h10).set (p' := { p with op := P.op, ht := P.ht, ho := P.ho, xid := P.xid, sc := P.sc, fl := P.fl, ci := P.ci, yi := P.yi, si := P.si, gi := P.gi, ch := P.ch }) (a' := a0) (c' := c0) 10 (.string P.ch) rfl
  have h12 := (h11).set (p' := { p with op := P.op, ht := P.ht, ho := P.ho, xid := P.xid, sc := P.sc, fl := P.fl, ci := P.ci, yi := P.yi, si := P.si, gi := P.gi, ch := P.ch, os := P.os }) (a' := a) (c' := c) 11 (.slice a P.os.length c) rfl
  exact h12
theorem TkAt.lay {w : World} {b r : Nat} {s : ByteArray} {x : Tk} (h : TkAt w b s x) (hr : b ≠ r) (P : Pk) (a : Option Addr) (c : Nat) : TkAt (layP w r P a c) b s x := by
  unfold layP
  exact (((((((((((h.store hr 0 _).store hr 1 _).store hr 2 _).store hr 3 _).store hr 4 _).store hr 5 _).store hr 6 _).store hr 7 _).store hr 8 _).store hr 9 _).store hr 10 _).store hr 11 _
theorem Turn.lay {b r : Nat} {w w' : World} (h : Turn b w w') (hr : w.heap.size ≤ r) (hb : b < r) (P : Pk) (a : Option Addr) (c : Nat) : Turn b w (layP w' r P a c) := by
  unfold layP
  exact (((((((((((h.store hr hb 0 _).store hr hb 1 _).store hr hb 2 _).store hr hb 3 _).store hr hb 4 _).store hr hb 5 _).store hr hb 6 _).store hr hb 7 _).store hr hb 8 _).store hr hb 9 _).store hr hb 10 _).store hr hb 11 _
theorem layP_other (w : World) (r k : Nat) (P : Pk) (a : Option Addr) (c : Nat) (hk : k ≠ r) : (layP w r P a c).heap[k]? = w.heap[k]? := by
  unfold layP
  rw [Below.heap_setCell _ _ _ _ hk, Below.heap_setCell _ _ _ _ hk, Below.heap_setCell _ _ _ _ hk, Below.heap_setCell _ _ _ _ hk, Below.heap_setCell _ _ _ _ hk, Below.heap_setCell _ _ _ _ hk, Below.heap_setCell _ _ _ _ hk, Below.heap_setCell _ _ _ _ hk, Below.heap_setCell _ _ _ _ hk, Below.heap_setCell _ _ _ _ hk, Below.heap_setCell _ _ _ _ hk, Below.heap_setCell _ _ _ _ hk]

theorem textT_size (s : ByteArray) (n : Nat) (x : Tk) : (textT s n x).1.size ≤ n := by
  unfold textT
  split
  · exact Nat.zero_le _
  · split
    · simp only [ByteArray.size_extract]; omega
    · exact Nat.zero_le _
theorem numT_f {s : ByteArray} {k : Nat} {x : Tk} (h : x.f = true) : (numT s k x).2.f = true := by unfold numT; rw [if_pos h]; exact h
theorem textT_f {s : ByteArray} {k : Nat} {x : Tk} (h : x.f = true) : (textT s k x).2.f = true := by unfold textT; rw [if_pos h]; exact h
theorem pk_over {s : ByteArray} (h : 16 < (pk3 s).1) : (pk12 s).2.f = true := by
  have h3 : (pk3m s).f = true := by unfold pk3m mustT; simp; omega
  exact textT_f (numT_f (numT_f (numT_f (numT_f (numT_f (numT_f (numT_f (numT_f h3))))))))
set_option maxRecDepth 100000 in
set_option maxHeartbeats 8000000 in
theorem packet_c (b : Nat) (s : ByteArray) (w : World) (hs : s.size ≤ 281474976710656) (h : TkAt w b s ⟨0, false⟩) :
    Calls Try.prog 36 #[.pointer (some ⟨b, 0, none⟩)] w fun e w' => (∃ a c, e = .returned (pv (pkT s) a c) ∧ Opts w' w.heap.size (.slice a (pkT s).os.length c) (pkT s).os) ∧ TkAt w' b s (pk17 s).2 ∧ Turn b w w' := by
  have N1 : Hid (∀ w, TkAt w b s ⟨0, false⟩ → Calls Try.prog 30 #[.pointer (some ⟨b, 0, none⟩), .int .i64 1] w fun e w' => e = .returned (.int .i64 (pk1 s).1) ∧ TkAt w' b s (pk1 s).2 ∧ Turn b w w') := fun w h => number_c b s ⟨0, false⟩ 1 w (by omega) (by omega) h
  have N2 : Hid (∀ w, TkAt w b s (pk1 s).2 → Calls Try.prog 30 #[.pointer (some ⟨b, 0, none⟩), .int .i64 1] w fun e w' => e = .returned (.int .i64 (pk2 s).1) ∧ TkAt w' b s (pk2 s).2 ∧ Turn b w w') := fun w h => number_c b s (pk1 s).2 1 w (by omega) (by omega) h
  have N3 : Hid (∀ w, TkAt w b s (pk2 s).2 → Calls Try.prog 30 #[.pointer (some ⟨b, 0, none⟩), .int .i64 1] w fun e w' => e = .returned (.int .i64 (pk3 s).1) ∧ TkAt w' b s (pk3 s).2 ∧ Turn b w w') := fun w h => number_c b s (pk2 s).2 1 w (by omega) (by omega) h
  have N4 : Hid (∀ w, TkAt w b s (pk3m s) → Calls Try.prog 30 #[.pointer (some ⟨b, 0, none⟩), .int .i64 1] w fun e w' => e = .returned (.int .i64 (pk4 s).1) ∧ TkAt w' b s (pk4 s).2 ∧ Turn b w w') := fun w h => number_c b s (pk3m s) 1 w (by omega) (by omega) h
  have N5 : Hid (∀ w, TkAt w b s (pk4 s).2 → Calls Try.prog 30 #[.pointer (some ⟨b, 0, none⟩), .int .i64 4] w fun e w' => e = .returned (.int .i64 (pk5 s).1) ∧ TkAt w' b s (pk5 s).2 ∧ Turn b w w') := fun w h => number_c b s (pk4 s).2 4 w (by omega) (by omega) h
  have N6 : Hid (∀ w, TkAt w b s (pk5 s).2 → Calls Try.prog 30 #[.pointer (some ⟨b, 0, none⟩), .int .i64 2] w fun e w' => e = .returned (.int .i64 (pk6 s).1) ∧ TkAt w' b s (pk6 s).2 ∧ Turn b w w') := fun w h => number_c b s (pk5 s).2 2 w (by omega) (by omega) h
  have N7 : Hid (∀ w, TkAt w b s (pk6 s).2 → Calls Try.prog 30 #[.pointer (some ⟨b, 0, none⟩), .int .i64 2] w fun e w' => e = .returned (.int .i64 (pk7 s).1) ∧ TkAt w' b s (pk7 s).2 ∧ Turn b w w') := fun w h => number_c b s (pk6 s).2 2 w (by omega) (by omega) h
  have N8 : Hid (∀ w, TkAt w b s (pk7 s).2 → Calls Try.prog 30 #[.pointer (some ⟨b, 0, none⟩), .int .i64 4] w fun e w' => e = .returned (.int .i64 (pk8 s).1) ∧ TkAt w' b s (pk8 s).2 ∧ Turn b w w') := fun w h => number_c b s (pk7 s).2 4 w (by omega) (by omega) h
  have N9 : Hid (∀ w, TkAt w b s (pk8 s).2 → Calls Try.prog 30 #[.pointer (some ⟨b, 0, none⟩), .int .i64 4] w fun e w' => e = .returned (.int .i64 (pk9 s).1) ∧ TkAt w' b s (pk9 s).2 ∧ Turn b w w') := fun w h => number_c b s (pk8 s).2 4 w (by omega) (by omega) h
  have N10 : Hid (∀ w, TkAt w b s (pk9 s).2 → Calls Try.prog 30 #[.pointer (some ⟨b, 0, none⟩), .int .i64 4] w fun e w' => e = .returned (.int .i64 (pk10 s).1) ∧ TkAt w' b s (pk10 s).2 ∧ Turn b w w') := fun w h => number_c b s (pk9 s).2 4 w (by omega) (by omega) h
  have N11 : Hid (∀ w, TkAt w b s (pk10 s).2 → Calls Try.prog 30 #[.pointer (some ⟨b, 0, none⟩), .int .i64 4] w fun e w' => e = .returned (.int .i64 (pk11 s).1) ∧ TkAt w' b s (pk11 s).2 ∧ Turn b w w') := fun w h => number_c b s (pk10 s).2 4 w (by omega) (by omega) h
  have N16 : Hid (∀ w, TkAt w b s (pk15 s).2 → Calls Try.prog 30 #[.pointer (some ⟨b, 0, none⟩), .int .i64 4] w fun e w' => e = .returned (.int .i64 (pk16 s).1) ∧ TkAt w' b s (pk16 s).2 ∧ Turn b w w') := fun w h => number_c b s (pk15 s).2 4 w (by omega) (by omega) h
  have M3 : Hid (∀ w, TkAt w b s (pk3 s).2 → Calls Try.prog 47 #[.pointer (some ⟨b, 0, none⟩), .bool (decide ((pk3 s).1 ≤ 16))] w fun e w' => e = .returned (.tuple #[]) ∧ TkAt w' b s (pk3m s) ∧ Turn b w w') := fun w h => must_c b s (pk3 s).2 _ w h
  have M16 : Hid (∀ w, TkAt w b s (pk16 s).2 → Calls Try.prog 47 #[.pointer (some ⟨b, 0, none⟩), .bool ((pk16 s).1 == 1669485411)] w fun e w' => e = .returned (.tuple #[]) ∧ TkAt w' b s (pk16m s) ∧ Turn b w w') := fun w h => must_c b s (pk16 s).2 _ w h
  have hv3 : 0 ≤ (pk3 s).1 ∧ (pk3 s).1 < 256 := num_255 s _
  have T12 : Hid (∀ w, TkAt w b s (pk11 s).2 → Calls Try.prog 29 #[.pointer (some ⟨b, 0, none⟩), .int .i64 (pk3 s).1] w fun e w' => e = .returned (.string (pk12 s).1) ∧ TkAt w' b s (pk12 s).2 ∧ Turn b w w') := fun w h => text_any b s (pk11 s).2 (pk3 s).1 w (by omega) (.inr (by omega)) h (by omega)
  have T13 : Hid (∀ w, TkAt w b s (pk12 s).2 → Calls Try.prog 29 #[.pointer (some ⟨b, 0, none⟩), .int .i64 (16 - (pk3 s).1)] w fun e w' => e = .returned (.string (pk13 s).1) ∧ TkAt w' b s (pk13 s).2 ∧ Turn b w w') := fun w h => text_any b s (pk12 s).2 (16 - (pk3 s).1) w (by omega) (by
    by_cases hh : 16 < (pk3 s).1
    · exact .inl (pk_over hh)
    · exact .inr (by omega)) h (by omega)
  have T14 : Hid (∀ w, TkAt w b s (pk13 s).2 → Calls Try.prog 29 #[.pointer (some ⟨b, 0, none⟩), .int .i64 64] w fun e w' => e = .returned (.string (pk14 s).1) ∧ TkAt w' b s (pk14 s).2 ∧ Turn b w w') := fun w h => text_c b s (pk13 s).2 64 w (by omega) (by omega) h
  have T15 : Hid (∀ w, TkAt w b s (pk14 s).2 → Calls Try.prog 29 #[.pointer (some ⟨b, 0, none⟩), .int .i64 128] w fun e w' => e = .returned (.string (pk15 s).1) ∧ TkAt w' b s (pk15 s).2 ∧ Turn b w w') := fun w h => text_c b s (pk14 s).2 128 w (by omega) (by omega) h
  have z14 : (pk14 s).1.size ≤ 65535 := by have := textT_size s 64 (pk13 s).2; show (textT s 64 (pk13 s).2).1.size ≤ _; omega
  have z15 : (pk15 s).1.size ≤ 65535 := by have := textT_size s 128 (pk14 s).2; show (textT s 128 (pk14 s).2).1.size ≤ _; omega
  have O17 : Hid (∀ w, TkAt w b s (pk16m s) → Calls Try.prog 54 #[.pointer (some ⟨b, 0, none⟩), .string (pk14 s).1, .string (pk15 s).1] w fun e w' => (∃ v, e = .returned v ∧ Opts w' w.heap.size v (pk17 s).1) ∧ TkAt w' b s (pk17 s).2 ∧ Turn b w w') := fun w h => options_c b s (pk16m s) (pk14 s).1 (pk15 s).1 w hs z14 z15 h
  have hP : pkT s = ⟨(pk1 s).1, (pk2 s).1, (pk4 s).1, (pk5 s).1, (pk6 s).1, (pk7 s).1, (pk8 s).1, (pk9 s).1, (pk10 s).1, (pk11 s).1, (pk12 s).1, (pk17 s).1⟩ := rfl
  rw [hP]
  have hsub : IntKind.i64.wrap (16 - (pk3 s).1) = 16 - (pk3 s).1 := wrap_in _ (by omega) (by omega)
  have hsub2 : wrap64 (16 - (pk3 s).1) = 16 - (pk3 s).1 := by unfold wrap64; omega
  clear z14 z15 hP hv3
  generalize (pk17 s).1 = v17 at *
  generalize (pk17 s).2 = x17 at *
  generalize pk16m s = x16m at *
  generalize (pk16 s).1 = v16 at *
  generalize (pk16 s).2 = x16 at *
  generalize (pk15 s).1 = v15 at *
  generalize (pk15 s).2 = x15 at *
  generalize (pk14 s).1 = v14 at *
  generalize (pk14 s).2 = x14 at *
  generalize (pk13 s).1 = v13 at *
  generalize (pk13 s).2 = x13 at *
  generalize (pk12 s).1 = v12 at *
  generalize (pk12 s).2 = x12 at *
  generalize (pk11 s).1 = v11 at *
  generalize (pk11 s).2 = x11 at *
  generalize (pk10 s).1 = v10 at *
  generalize (pk10 s).2 = x10 at *
  generalize (pk9 s).1 = v9 at *
  generalize (pk9 s).2 = x9 at *
  generalize (pk8 s).1 = v8 at *
  generalize (pk8 s).2 = x8 at *
  generalize (pk7 s).1 = v7 at *
  generalize (pk7 s).2 = x7 at *
  generalize (pk6 s).1 = v6 at *
  generalize (pk6 s).2 = x6 at *
  generalize (pk5 s).1 = v5 at *
  generalize (pk5 s).2 = x5 at *
  generalize (pk4 s).1 = v4 at *
  generalize (pk4 s).2 = x4 at *
  generalize pk3m s = x3m at *
  generalize (pk3 s).1 = v3 at *
  generalize (pk3 s).2 = x3 at *
  generalize (pk2 s).1 = v2 at *
  generalize (pk2 s).2 = x2 at *
  generalize (pk1 s).1 = v1 at *
  generalize (pk1 s).2 = x1 at *
  have R0 : Hid (BoxP ((w.alloc (.cells (cellsP zeroP none 0) 40)).alloc (.cells (cellsP zeroP none 0) 40)) w.heap.size zeroP none 0) := (BoxP.new w zeroP none 0).below ((Below.refl _ _).alloc (Nat.le_refl _) _)
  have X0 : Hid (BoxP ((w.alloc (.cells (cellsP zeroP none 0) 40)).alloc (.cells (cellsP zeroP none 0) 40)) (w.heap.size + 1) zeroP none 0) := by
    have := BoxP.new (w.alloc (.cells (cellsP zeroP none 0) 40)) zeroP none 0
    rw [show (w.alloc (.cells (cellsP zeroP none 0) 40)).heap.size = w.heap.size + 1 by simp] at this
    exact this
  have hb0 : Below w.heap.size w ((w.alloc (.cells (cellsP zeroP none 0) 40)).alloc (.cells (cellsP zeroP none 0) 40)) := ((Below.refl _ _).alloc (Nat.le_refl _) _).alloc (by simp) _
  have lt := h.lt
  have A0 : Hid (TkAt ((w.alloc (.cells (cellsP zeroP none 0) 40)).alloc (.cells (cellsP zeroP none 0) 40)) b s ⟨0, false⟩) := h.below hb0 lt
  have U0 : Hid (Turn b w ((w.alloc (.cells (cellsP zeroP none 0) 40)).alloc (.cells (cellsP zeroP none 0) 40))) := Turn.of_below hb0 lt
  clear h hb0 hs
  simp only [pv, cellsP, zeroP, List.length_nil] at *
  go_enter Try.func36, Try.ntmps36
  go_upto_region 2 with fail
  generalize ((w.alloc (.cells #[.int .i64 0, .int .i64 0, .int .i64 0, .int .i64 0, .int .i64 0, .int .i64 0, .int .i64 0, .int .i64 0, .int .i64 0, .int .i64 0, .string ⟨#[]⟩, .slice none 0 0] 40)).alloc (.cells #[.int .i64 0, .int .i64 0, .int .i64 0, .int .i64 0, .int .i64 0, .int .i64 0, .int .i64 0, .int .i64 0, .int .i64 0, .int .i64 0, .string ⟨#[]⟩, .slice none 0 0] 40)) = w0 at *
  go_upto_region 2 with fail
  go_cut [] from 7 to 16 (fun wx => Hid (BoxP  wx (w.heap.size + 1) ⟨v1, v2, 0, 0, 0, 0, 0, 0, 0, 0, ⟨#[]⟩, []⟩ none 0) ∧ Hid (BoxP wx w.heap.size ⟨0, 0, 0, 0, 0, 0, 0, 0, 0, 0, ⟨#[]⟩, []⟩ none 0) ∧ Hid (TkAt wx b s x2) ∧ Hid (Turn b w wx))
  case first =>
    have D0 : Hid (BoxP w0.drew (w.heap.size + 1) ⟨0, 0, 0, 0, 0, 0, 0, 0, 0, 0, ⟨#[]⟩, []⟩ none 0) := X0.out.below (below_drewN (Below.refl w0.heap.size _) 1)
    have E0 : Hid (BoxP w0.drew w.heap.size ⟨0, 0, 0, 0, 0, 0, 0, 0, 0, 0, ⟨#[]⟩, []⟩ none 0) := R0.out.below (below_drewN (Below.refl w0.heap.size _) 1)
    have F0 : Hid (TkAt w0.drew b s ⟨0, false⟩) := A0.out.below (below_drewN (Below.refl w0.heap.size _) 1) A0.out.lt
    have G0 : Hid (Turn b w w0.drew) := U0.out.trans (Turn.of_below (below_drewN (Below.refl w0.heap.size _) 1) A0.out.lt)
    go_region_with (go_at_call 30; first
      | (refine (N1.out _ F0.out).mono ?_; rintro e w4 ⟨rfl, hT4, hU4⟩; have X4 := D0.out.turn hU4 (by omega); have R4 := E0.out.turn hU4 (by omega); have U4 := G0.out.trans hU4; have c40 : w4.cell? ⟨w.heap.size + 1, 0, none⟩ = some (.int .i64 0) := X4.cell 0; have f40 := X4.fz 0)
      | (refine (N2.out w4 hT4).mono ?_; rintro e w5 ⟨rfl, hT5, hU5⟩; have X5 := X4.turn hU5 (by omega); have R5 := R4.turn hU5 (by omega); have U5 := U4.trans hU5; have X6 := (X5.set (p' := ⟨v1, 0, 0, 0, 0, 0, 0, 0, 0, 0, ⟨#[]⟩, []⟩) (a' := none) (c' := 0) 0 (.int .i64 v1) rfl).set (p' := ⟨v1, v2, 0, 0, 0, 0, 0, 0, 0, 0, ⟨#[]⟩, []⟩) (a' := none) (c' := 0) 1 (.int .i64 v2) rfl; have R6 := (R5.other (q := w.heap.size + 1) (by omega) 0 (.int .i64 v1)).other (q := w.heap.size + 1) (by omega) 1 (.int .i64 v2); have T6 := (hT5.store (r := w.heap.size + 1) (by omega) 0 (.int .i64 v1)).store (r := w.heap.size + 1) (by omega) 1 (.int .i64 v2); have U6 := (U5.store (r := w.heap.size + 1) (by omega) (by omega) 0 (.int .i64 v1)).store (r := w.heap.size + 1) (by omega) (by omega) 1 (.int .i64 v2); have c50 : w5.cell? ⟨w.heap.size + 1, 0, none⟩ = some (.int .i64 0) := X5.cell 0; have f50 := X5.fz 0; have c51 : w5.cell? ⟨w.heap.size + 1, 1, none⟩ = some (.int .i64 0) := X5.cell 1; have f51 := X5.fz 1)
      | (refine (N2.out _ (hT4.store (r := w.heap.size + 1) (by omega) 0 (.int .i64 v1))).mono ?_; rintro e w5 ⟨rfl, hT5, hU5⟩; have X4' := X4.set (p' := ⟨v1, 0, 0, 0, 0, 0, 0, 0, 0, 0, ⟨#[]⟩, []⟩) (a' := none) (c' := 0) 0 (.int .i64 v1) rfl; have X5 := X4'.turn hU5 (by omega); have R5 := (R4.other (q := w.heap.size + 1) (by omega) 0 (.int .i64 v1)).turn hU5 (by omega); have U5 := (U4.store (r := w.heap.size + 1) (by omega) (by omega) 0 (.int .i64 v1)).trans hU5; have X6 := X5.set (p' := ⟨v1, v2, 0, 0, 0, 0, 0, 0, 0, 0, ⟨#[]⟩, []⟩) (a' := none) (c' := 0) 1 (.int .i64 v2) rfl; have R6 := R5.other (q := w.heap.size + 1) (by omega) 1 (.int .i64 v2); have T6 := hT5.store (r := w.heap.size + 1) (by omega) 1 (.int .i64 v2); have U6 := U5.store (r := w.heap.size + 1) (by omega) (by omega) 1 (.int .i64 v2); have c51 : w5.cell? ⟨w.heap.size + 1, 1, none⟩ = some (.int .i64 0) := X5.cell 1; have f51 := X5.fz 1))
    all_goals (go_wp2_with fail; go_meet; exact ⟨X6, R6, T6, U6⟩)
  case rest =>
  rename World => wa
  obtain ⟨Xwa, Rwa, Awa, Uwa⟩ := hcut
  clear X0 R0 A0 U0 N1 N2
  go_wp2_with fail
  refine (N3.out _ Awa.out).mono ?_; rintro e wb ⟨rfl, hT, hU⟩
  have Xwb : Hid (BoxP wb (w.heap.size + 1) ⟨v1, v2, 0, 0, 0, 0, 0, 0, 0, 0, ⟨#[]⟩, []⟩ none 0) := Xwa.out.turn hU (by omega)
  have Rwb : Hid (BoxP wb w.heap.size ⟨0, 0, 0, 0, 0, 0, 0, 0, 0, 0, ⟨#[]⟩, []⟩ none 0) := Rwa.out.turn hU (by omega)
  have Awb : Hid (TkAt wb b s x3) := hT
  have Uwb : Hid (Turn b w wb) := Uwa.out.trans hU
  clear hT hU Xwa Rwa Awa Uwa N3
  go_wp2_with fail
  refine (M3.out _ Awb.out).mono ?_; rintro e wc ⟨rfl, hT, hU⟩
  have Xwc : Hid (BoxP wc (w.heap.size + 1) ⟨v1, v2, 0, 0, 0, 0, 0, 0, 0, 0, ⟨#[]⟩, []⟩ none 0) := Xwb.out.turn hU (by omega)
  have Rwc : Hid (BoxP wc w.heap.size ⟨0, 0, 0, 0, 0, 0, 0, 0, 0, 0, ⟨#[]⟩, []⟩ none 0) := Rwb.out.turn hU (by omega)
  have Awc : Hid (TkAt wc b s x3m) := hT
  have Uwc : Hid (Turn b w wc) := Uwb.out.trans hU
  clear hT hU Xwb Rwb Awb Uwb M3
  go_wp2_with fail
  refine (N4.out _ Awc.out).mono ?_; rintro e wda ⟨rfl, hT, hU⟩
  have Xwda : Hid (BoxP wda (w.heap.size + 1) ⟨v1, v2, 0, 0, 0, 0, 0, 0, 0, 0, ⟨#[]⟩, []⟩ none 0) := Xwc.out.turn hU (by omega)
  have Rwda : Hid (BoxP wda w.heap.size ⟨0, 0, 0, 0, 0, 0, 0, 0, 0, 0, ⟨#[]⟩, []⟩ none 0) := Rwc.out.turn hU (by omega)
  have Awda : Hid (TkAt wda b s x4) := hT
  have Uwda : Hid (Turn b w wda) := Uwc.out.trans hU
  clear hT hU Xwc Rwc Awc Uwc N4
  have cc : wda.cell? ⟨w.heap.size + 1, 2, none⟩ = some (.int .i64 0) := Xwda.out.cell 2
  have ff := Xwda.out.fz 2
  have Xwd : Hid (BoxP (wda.setCell ⟨w.heap.size + 1, 2, none⟩ (.int .i64 v4)) (w.heap.size + 1) ⟨v1, v2, v4, 0, 0, 0, 0, 0, 0, 0, ⟨#[]⟩, []⟩ none 0) := Xwda.out.set 2 _ rfl
  have Rwd : Hid (BoxP (wda.setCell ⟨w.heap.size + 1, 2, none⟩ (.int .i64 v4)) w.heap.size ⟨0, 0, 0, 0, 0, 0, 0, 0, 0, 0, ⟨#[]⟩, []⟩ none 0) := Rwda.out.other (by omega) 2 _
  have Awd : Hid (TkAt (wda.setCell ⟨w.heap.size + 1, 2, none⟩ (.int .i64 v4)) b s x4) := Awda.out.store (by omega) 2 _
  have Uwd : Hid (Turn b w (wda.setCell ⟨w.heap.size + 1, 2, none⟩ (.int .i64 v4))) := Uwda.out.store (by omega) (by omega) 2 _
  clear Xwda Rwda Awda Uwda
  go_wp2_with fail
  generalize (wda.setCell ⟨w.heap.size + 1, 2, none⟩ (.int .i64 v4)) = wdd at *
  clear cc ff
  refine (N5.out _ Awd.out).mono ?_; rintro e wea ⟨rfl, hT, hU⟩
  have Xwea : Hid (BoxP wea (w.heap.size + 1) ⟨v1, v2, v4, 0, 0, 0, 0, 0, 0, 0, ⟨#[]⟩, []⟩ none 0) := Xwd.out.turn hU (by omega)
  have Rwea : Hid (BoxP wea w.heap.size ⟨0, 0, 0, 0, 0, 0, 0, 0, 0, 0, ⟨#[]⟩, []⟩ none 0) := Rwd.out.turn hU (by omega)
  have Awea : Hid (TkAt wea b s x5) := hT
  have Uwea : Hid (Turn b w wea) := Uwd.out.trans hU
  clear hT hU Xwd Rwd Awd Uwd N5
  have cc : wea.cell? ⟨w.heap.size + 1, 3, none⟩ = some (.int .i64 0) := Xwea.out.cell 3
  have ff := Xwea.out.fz 3
  have Xwe : Hid (BoxP (wea.setCell ⟨w.heap.size + 1, 3, none⟩ (.int .i64 v5)) (w.heap.size + 1) ⟨v1, v2, v4, v5, 0, 0, 0, 0, 0, 0, ⟨#[]⟩, []⟩ none 0) := Xwea.out.set 3 _ rfl
  have Rwe : Hid (BoxP (wea.setCell ⟨w.heap.size + 1, 3, none⟩ (.int .i64 v5)) w.heap.size ⟨0, 0, 0, 0, 0, 0, 0, 0, 0, 0, ⟨#[]⟩, []⟩ none 0) := Rwea.out.other (by omega) 3 _
  have Awe : Hid (TkAt (wea.setCell ⟨w.heap.size + 1, 3, none⟩ (.int .i64 v5)) b s x5) := Awea.out.store (by omega) 3 _
  have Uwe : Hid (Turn b w (wea.setCell ⟨w.heap.size + 1, 3, none⟩ (.int .i64 v5))) := Uwea.out.store (by omega) (by omega) 3 _
  clear Xwea Rwea Awea Uwea
  go_upto_region 7 with fail
  generalize (wea.setCell ⟨w.heap.size + 1, 3, none⟩ (.int .i64 v5)) = wee at *
  clear cc ff
  go_upto_region 7 with fail
  go_cut [] from 37 to 46 (fun wx => Hid (BoxP  wx (w.heap.size + 1) ⟨v1, v2, v4, v5, v6, v7, 0, 0, 0, 0, ⟨#[]⟩, []⟩ none 0) ∧ Hid (BoxP wx w.heap.size ⟨0, 0, 0, 0, 0, 0, 0, 0, 0, 0, ⟨#[]⟩, []⟩ none 0) ∧ Hid (TkAt wx b s x7) ∧ Hid (Turn b w wx))
  case first =>
    have D0 : Hid (BoxP wee.drew (w.heap.size + 1) ⟨v1, v2, v4, v5, 0, 0, 0, 0, 0, 0, ⟨#[]⟩, []⟩ none 0) := Xwe.out.below (below_drewN (Below.refl wee.heap.size _) 1)
    have E0 : Hid (BoxP wee.drew w.heap.size ⟨0, 0, 0, 0, 0, 0, 0, 0, 0, 0, ⟨#[]⟩, []⟩ none 0) := Rwe.out.below (below_drewN (Below.refl wee.heap.size _) 1)
    have F0 : Hid (TkAt wee.drew b s x5) := Awe.out.below (below_drewN (Below.refl wee.heap.size _) 1) Awe.out.lt
    have G0 : Hid (Turn b w wee.drew) := Uwe.out.trans (Turn.of_below (below_drewN (Below.refl wee.heap.size _) 1) Awe.out.lt)
    go_region_with (go_at_call 30; first
      | (refine (N6.out _ F0.out).mono ?_; rintro e w4 ⟨rfl, hT4, hU4⟩; have X4 := D0.out.turn hU4 (by omega); have R4 := E0.out.turn hU4 (by omega); have U4 := G0.out.trans hU4; have c40 : w4.cell? ⟨w.heap.size + 1, 4, none⟩ = some (.int .i64 0) := X4.cell 4; have f40 := X4.fz 4)
      | (refine (N7.out w4 hT4).mono ?_; rintro e w5 ⟨rfl, hT5, hU5⟩; have X5 := X4.turn hU5 (by omega); have R5 := R4.turn hU5 (by omega); have U5 := U4.trans hU5; have X6 := (X5.set (p' := ⟨v1, v2, v4, v5, v6, 0, 0, 0, 0, 0, ⟨#[]⟩, []⟩) (a' := none) (c' := 0) 4 (.int .i64 v6) rfl).set (p' := ⟨v1, v2, v4, v5, v6, v7, 0, 0, 0, 0, ⟨#[]⟩, []⟩) (a' := none) (c' := 0) 5 (.int .i64 v7) rfl; have R6 := (R5.other (q := w.heap.size + 1) (by omega) 4 (.int .i64 v6)).other (q := w.heap.size + 1) (by omega) 5 (.int .i64 v7); have T6 := (hT5.store (r := w.heap.size + 1) (by omega) 4 (.int .i64 v6)).store (r := w.heap.size + 1) (by omega) 5 (.int .i64 v7); have U6 := (U5.store (r := w.heap.size + 1) (by omega) (by omega) 4 (.int .i64 v6)).store (r := w.heap.size + 1) (by omega) (by omega) 5 (.int .i64 v7); have c50 : w5.cell? ⟨w.heap.size + 1, 4, none⟩ = some (.int .i64 0) := X5.cell 4; have f50 := X5.fz 4; have c51 : w5.cell? ⟨w.heap.size + 1, 5, none⟩ = some (.int .i64 0) := X5.cell 5; have f51 := X5.fz 5)
      | (refine (N7.out _ (hT4.store (r := w.heap.size + 1) (by omega) 4 (.int .i64 v6))).mono ?_; rintro e w5 ⟨rfl, hT5, hU5⟩; have X4' := X4.set (p' := ⟨v1, v2, v4, v5, v6, 0, 0, 0, 0, 0, ⟨#[]⟩, []⟩) (a' := none) (c' := 0) 4 (.int .i64 v6) rfl; have X5 := X4'.turn hU5 (by omega); have R5 := (R4.other (q := w.heap.size + 1) (by omega) 4 (.int .i64 v6)).turn hU5 (by omega); have U5 := (U4.store (r := w.heap.size + 1) (by omega) (by omega) 4 (.int .i64 v6)).trans hU5; have X6 := X5.set (p' := ⟨v1, v2, v4, v5, v6, v7, 0, 0, 0, 0, ⟨#[]⟩, []⟩) (a' := none) (c' := 0) 5 (.int .i64 v7) rfl; have R6 := R5.other (q := w.heap.size + 1) (by omega) 5 (.int .i64 v7); have T6 := hT5.store (r := w.heap.size + 1) (by omega) 5 (.int .i64 v7); have U6 := U5.store (r := w.heap.size + 1) (by omega) (by omega) 5 (.int .i64 v7); have c51 : w5.cell? ⟨w.heap.size + 1, 5, none⟩ = some (.int .i64 0) := X5.cell 5; have f51 := X5.fz 5))
    all_goals (go_wp2_with fail; go_meet; exact ⟨X6, R6, T6, U6⟩)
  case rest =>
  rename World => wf
  obtain ⟨Xwf, Rwf, Awf, Uwf⟩ := hcut
  clear Xwe Rwe Awe Uwe N6 N7
  go_upto_region 8 with fail
  go_cut [] from 47 to 56 (fun wx => Hid (BoxP  wx (w.heap.size + 1) ⟨v1, v2, v4, v5, v6, v7, v8, v9, 0, 0, ⟨#[]⟩, []⟩ none 0) ∧ Hid (BoxP wx w.heap.size ⟨0, 0, 0, 0, 0, 0, 0, 0, 0, 0, ⟨#[]⟩, []⟩ none 0) ∧ Hid (TkAt wx b s x9) ∧ Hid (Turn b w wx))
  case first =>
    have D0 : Hid (BoxP wf.drew (w.heap.size + 1) ⟨v1, v2, v4, v5, v6, v7, 0, 0, 0, 0, ⟨#[]⟩, []⟩ none 0) := Xwf.out.below (below_drewN (Below.refl wf.heap.size _) 1)
    have E0 : Hid (BoxP wf.drew w.heap.size ⟨0, 0, 0, 0, 0, 0, 0, 0, 0, 0, ⟨#[]⟩, []⟩ none 0) := Rwf.out.below (below_drewN (Below.refl wf.heap.size _) 1)
    have F0 : Hid (TkAt wf.drew b s x7) := Awf.out.below (below_drewN (Below.refl wf.heap.size _) 1) Awf.out.lt
    have G0 : Hid (Turn b w wf.drew) := Uwf.out.trans (Turn.of_below (below_drewN (Below.refl wf.heap.size _) 1) Awf.out.lt)
    go_region_with (go_at_call 30; first
      | (refine (N8.out _ F0.out).mono ?_; rintro e w4 ⟨rfl, hT4, hU4⟩; have X4 := D0.out.turn hU4 (by omega); have R4 := E0.out.turn hU4 (by omega); have U4 := G0.out.trans hU4; have c40 : w4.cell? ⟨w.heap.size + 1, 6, none⟩ = some (.int .i64 0) := X4.cell 6; have f40 := X4.fz 6)
      | (refine (N9.out w4 hT4).mono ?_; rintro e w5 ⟨rfl, hT5, hU5⟩; have X5 := X4.turn hU5 (by omega); have R5 := R4.turn hU5 (by omega); have U5 := U4.trans hU5; have X6 := (X5.set (p' := ⟨v1, v2, v4, v5, v6, v7, v8, 0, 0, 0, ⟨#[]⟩, []⟩) (a' := none) (c' := 0) 6 (.int .i64 v8) rfl).set (p' := ⟨v1, v2, v4, v5, v6, v7, v8, v9, 0, 0, ⟨#[]⟩, []⟩) (a' := none) (c' := 0) 7 (.int .i64 v9) rfl; have R6 := (R5.other (q := w.heap.size + 1) (by omega) 6 (.int .i64 v8)).other (q := w.heap.size + 1) (by omega) 7 (.int .i64 v9); have T6 := (hT5.store (r := w.heap.size + 1) (by omega) 6 (.int .i64 v8)).store (r := w.heap.size + 1) (by omega) 7 (.int .i64 v9); have U6 := (U5.store (r := w.heap.size + 1) (by omega) (by omega) 6 (.int .i64 v8)).store (r := w.heap.size + 1) (by omega) (by omega) 7 (.int .i64 v9); have c50 : w5.cell? ⟨w.heap.size + 1, 6, none⟩ = some (.int .i64 0) := X5.cell 6; have f50 := X5.fz 6; have c51 : w5.cell? ⟨w.heap.size + 1, 7, none⟩ = some (.int .i64 0) := X5.cell 7; have f51 := X5.fz 7)
      | (refine (N9.out _ (hT4.store (r := w.heap.size + 1) (by omega) 6 (.int .i64 v8))).mono ?_; rintro e w5 ⟨rfl, hT5, hU5⟩; have X4' := X4.set (p' := ⟨v1, v2, v4, v5, v6, v7, v8, 0, 0, 0, ⟨#[]⟩, []⟩) (a' := none) (c' := 0) 6 (.int .i64 v8) rfl; have X5 := X4'.turn hU5 (by omega); have R5 := (R4.other (q := w.heap.size + 1) (by omega) 6 (.int .i64 v8)).turn hU5 (by omega); have U5 := (U4.store (r := w.heap.size + 1) (by omega) (by omega) 6 (.int .i64 v8)).trans hU5; have X6 := X5.set (p' := ⟨v1, v2, v4, v5, v6, v7, v8, v9, 0, 0, ⟨#[]⟩, []⟩) (a' := none) (c' := 0) 7 (.int .i64 v9) rfl; have R6 := R5.other (q := w.heap.size + 1) (by omega) 7 (.int .i64 v9); have T6 := hT5.store (r := w.heap.size + 1) (by omega) 7 (.int .i64 v9); have U6 := U5.store (r := w.heap.size + 1) (by omega) (by omega) 7 (.int .i64 v9); have c51 : w5.cell? ⟨w.heap.size + 1, 7, none⟩ = some (.int .i64 0) := X5.cell 7; have f51 := X5.fz 7))
    all_goals (go_wp2_with fail; go_meet; exact ⟨X6, R6, T6, U6⟩)
  case rest =>
  rename World => wg
  obtain ⟨Xwg, Rwg, Awg, Uwg⟩ := hcut
  clear Xwf Rwf Awf Uwf N8 N9
  go_upto_region 9 with fail
  go_cut [] from 57 to 66 (fun wx => Hid (BoxP  wx (w.heap.size + 1) ⟨v1, v2, v4, v5, v6, v7, v8, v9, v10, v11, ⟨#[]⟩, []⟩ none 0) ∧ Hid (BoxP wx w.heap.size ⟨0, 0, 0, 0, 0, 0, 0, 0, 0, 0, ⟨#[]⟩, []⟩ none 0) ∧ Hid (TkAt wx b s x11) ∧ Hid (Turn b w wx))
  case first =>
    have D0 : Hid (BoxP wg.drew (w.heap.size + 1) ⟨v1, v2, v4, v5, v6, v7, v8, v9, 0, 0, ⟨#[]⟩, []⟩ none 0) := Xwg.out.below (below_drewN (Below.refl wg.heap.size _) 1)
    have E0 : Hid (BoxP wg.drew w.heap.size ⟨0, 0, 0, 0, 0, 0, 0, 0, 0, 0, ⟨#[]⟩, []⟩ none 0) := Rwg.out.below (below_drewN (Below.refl wg.heap.size _) 1)
    have F0 : Hid (TkAt wg.drew b s x9) := Awg.out.below (below_drewN (Below.refl wg.heap.size _) 1) Awg.out.lt
    have G0 : Hid (Turn b w wg.drew) := Uwg.out.trans (Turn.of_below (below_drewN (Below.refl wg.heap.size _) 1) Awg.out.lt)
    go_region_with (go_at_call 30; first
      | (refine (N10.out _ F0.out).mono ?_; rintro e w4 ⟨rfl, hT4, hU4⟩; have X4 := D0.out.turn hU4 (by omega); have R4 := E0.out.turn hU4 (by omega); have U4 := G0.out.trans hU4; have c40 : w4.cell? ⟨w.heap.size + 1, 8, none⟩ = some (.int .i64 0) := X4.cell 8; have f40 := X4.fz 8)
      | (refine (N11.out w4 hT4).mono ?_; rintro e w5 ⟨rfl, hT5, hU5⟩; have X5 := X4.turn hU5 (by omega); have R5 := R4.turn hU5 (by omega); have U5 := U4.trans hU5; have X6 := (X5.set (p' := ⟨v1, v2, v4, v5, v6, v7, v8, v9, v10, 0, ⟨#[]⟩, []⟩) (a' := none) (c' := 0) 8 (.int .i64 v10) rfl).set (p' := ⟨v1, v2, v4, v5, v6, v7, v8, v9, v10, v11, ⟨#[]⟩, []⟩) (a' := none) (c' := 0) 9 (.int .i64 v11) rfl; have R6 := (R5.other (q := w.heap.size + 1) (by omega) 8 (.int .i64 v10)).other (q := w.heap.size + 1) (by omega) 9 (.int .i64 v11); have T6 := (hT5.store (r := w.heap.size + 1) (by omega) 8 (.int .i64 v10)).store (r := w.heap.size + 1) (by omega) 9 (.int .i64 v11); have U6 := (U5.store (r := w.heap.size + 1) (by omega) (by omega) 8 (.int .i64 v10)).store (r := w.heap.size + 1) (by omega) (by omega) 9 (.int .i64 v11); have c50 : w5.cell? ⟨w.heap.size + 1, 8, none⟩ = some (.int .i64 0) := X5.cell 8; have f50 := X5.fz 8; have c51 : w5.cell? ⟨w.heap.size + 1, 9, none⟩ = some (.int .i64 0) := X5.cell 9; have f51 := X5.fz 9)
      | (refine (N11.out _ (hT4.store (r := w.heap.size + 1) (by omega) 8 (.int .i64 v10))).mono ?_; rintro e w5 ⟨rfl, hT5, hU5⟩; have X4' := X4.set (p' := ⟨v1, v2, v4, v5, v6, v7, v8, v9, v10, 0, ⟨#[]⟩, []⟩) (a' := none) (c' := 0) 8 (.int .i64 v10) rfl; have X5 := X4'.turn hU5 (by omega); have R5 := (R4.other (q := w.heap.size + 1) (by omega) 8 (.int .i64 v10)).turn hU5 (by omega); have U5 := (U4.store (r := w.heap.size + 1) (by omega) (by omega) 8 (.int .i64 v10)).trans hU5; have X6 := X5.set (p' := ⟨v1, v2, v4, v5, v6, v7, v8, v9, v10, v11, ⟨#[]⟩, []⟩) (a' := none) (c' := 0) 9 (.int .i64 v11) rfl; have R6 := R5.other (q := w.heap.size + 1) (by omega) 9 (.int .i64 v11); have T6 := hT5.store (r := w.heap.size + 1) (by omega) 9 (.int .i64 v11); have U6 := U5.store (r := w.heap.size + 1) (by omega) (by omega) 9 (.int .i64 v11); have c51 : w5.cell? ⟨w.heap.size + 1, 9, none⟩ = some (.int .i64 0) := X5.cell 9; have f51 := X5.fz 9))
    all_goals (go_wp2_with fail; go_meet; exact ⟨X6, R6, T6, U6⟩)
  case rest =>
  rename World => wh
  obtain ⟨Xwh, Rwh, Awh, Uwh⟩ := hcut
  clear Xwg Rwg Awg Uwg N10 N11
  go_wp2_with fail
  refine (T12.out _ Awh.out).mono ?_; rintro e wia ⟨rfl, hT, hU⟩
  have Xwia : Hid (BoxP wia (w.heap.size + 1) ⟨v1, v2, v4, v5, v6, v7, v8, v9, v10, v11, ⟨#[]⟩, []⟩ none 0) := Xwh.out.turn hU (by omega)
  have Rwia : Hid (BoxP wia w.heap.size ⟨0, 0, 0, 0, 0, 0, 0, 0, 0, 0, ⟨#[]⟩, []⟩ none 0) := Rwh.out.turn hU (by omega)
  have Awia : Hid (TkAt wia b s x12) := hT
  have Uwia : Hid (Turn b w wia) := Uwh.out.trans hU
  clear hT hU Xwh Rwh Awh Uwh T12
  have cc : wia.cell? ⟨w.heap.size + 1, 10, none⟩ = some (.string ⟨#[]⟩) := Xwia.out.cell 10
  have ff := Xwia.out.fz 10
  have Xwi : Hid (BoxP (wia.setCell ⟨w.heap.size + 1, 10, none⟩ (.string v12)) (w.heap.size + 1) ⟨v1, v2, v4, v5, v6, v7, v8, v9, v10, v11, v12, []⟩ none 0) := Xwia.out.set 10 _ rfl
  have Rwi : Hid (BoxP (wia.setCell ⟨w.heap.size + 1, 10, none⟩ (.string v12)) w.heap.size ⟨0, 0, 0, 0, 0, 0, 0, 0, 0, 0, ⟨#[]⟩, []⟩ none 0) := Rwia.out.other (by omega) 10 _
  have Awi : Hid (TkAt (wia.setCell ⟨w.heap.size + 1, 10, none⟩ (.string v12)) b s x12) := Awia.out.store (by omega) 10 _
  have Uwi : Hid (Turn b w (wia.setCell ⟨w.heap.size + 1, 10, none⟩ (.string v12))) := Uwia.out.store (by omega) (by omega) 10 _
  clear Xwia Rwia Awia Uwia
  go_wp2_with fail
  generalize (wia.setCell ⟨w.heap.size + 1, 10, none⟩ (.string v12)) = wii at *
  clear cc ff
  refine (T13.out _ Awi.out).mono ?_; rintro e wj ⟨rfl, hT, hU⟩
  have Xwj : Hid (BoxP wj (w.heap.size + 1) ⟨v1, v2, v4, v5, v6, v7, v8, v9, v10, v11, v12, []⟩ none 0) := Xwi.out.turn hU (by omega)
  have Rwj : Hid (BoxP wj w.heap.size ⟨0, 0, 0, 0, 0, 0, 0, 0, 0, 0, ⟨#[]⟩, []⟩ none 0) := Rwi.out.turn hU (by omega)
  have Awj : Hid (TkAt wj b s x13) := hT
  have Uwj : Hid (Turn b w wj) := Uwi.out.trans hU
  clear hT hU Xwi Rwi Awi Uwi T13
  go_upto_region 12 with fail
  have A1 : Hid (TkAt wj.drew b s x13) := Awj.out.below (below_drewN (Below.refl wj.heap.size _) 1) Awj.out.lt
  go_region_held3 (fun _ => True) (first | exact trivial) (first | (go_at_call 29; refine (T15.out _ hT).mono ?_; rintro e wl ⟨rfl, hT2, hU2⟩) | (go_at_call 29; refine (T14.out _ A1.out).mono ?_; rintro e wk ⟨rfl, hT, hU⟩))
  have hU3 : Turn b wj wl := (Turn.of_below (below_drewN (Below.refl wj.heap.size _) 1) Awj.out.lt).trans (hU.trans hU2)
  have Xwl : Hid (BoxP wl (w.heap.size + 1) ⟨v1, v2, v4, v5, v6, v7, v8, v9, v10, v11, v12, []⟩ none 0) := Xwj.out.turn hU3 (by omega)
  have Rwl : Hid (BoxP wl w.heap.size ⟨0, 0, 0, 0, 0, 0, 0, 0, 0, 0, ⟨#[]⟩, []⟩ none 0) := Rwj.out.turn hU3 (by omega)
  have Awl : Hid (TkAt wl b s x15) := hT2
  have Uwl : Hid (Turn b w wl) := Uwj.out.trans hU3
  clear hT hU hT2 hU2 hU3 A1 Xwj Rwj Awj Uwj T14 T15
  go_upto_region 13 with fail
  have A1 : Hid (TkAt wl.drew b s x15) := Awl.out.below (below_drewN (Below.refl wl.heap.size _) 1) Awl.out.lt
  go_region_held3 (fun _ => True) (first | exact trivial) (first | (go_at_call 30; refine (N16.out _ A1.out).mono ?_; rintro e wm ⟨rfl, hT, hU⟩) | (go_at_call 47; refine (M16.out _ hT).mono ?_; rintro e wn ⟨rfl, hT2, hU2⟩))
  have hU3 : Turn b wl wn := (Turn.of_below (below_drewN (Below.refl wl.heap.size _) 1) Awl.out.lt).trans (hU.trans hU2)
  have Xwn : Hid (BoxP wn (w.heap.size + 1) ⟨v1, v2, v4, v5, v6, v7, v8, v9, v10, v11, v12, []⟩ none 0) := Xwl.out.turn hU3 (by omega)
  have Rwn : Hid (BoxP wn w.heap.size ⟨0, 0, 0, 0, 0, 0, 0, 0, 0, 0, ⟨#[]⟩, []⟩ none 0) := Rwl.out.turn hU3 (by omega)
  have Awn : Hid (TkAt wn b s x16m) := hT2
  have Uwn : Hid (Turn b w wn) := Uwl.out.trans hU3
  clear hT hU hT2 hU2 hU3 A1 Xwl Rwl Awl Uwl N16 M16
  go_wp2_with fail
  refine (O17.out _ Awn.out).mono ?_; rintro e wo ⟨⟨v, rfl, hO⟩, hT, hU⟩
  obtain ⟨a, c, rfl, _⟩ := hO.row
  simp only [rowV] at hO
  simp only [rowV]
  have slo := Xwn.out.lt
  have Xwo : Hid (BoxP wo (w.heap.size + 1) ⟨v1, v2, v4, v5, v6, v7, v8, v9, v10, v11, v12, []⟩ none 0) := Xwn.out.turn hU (by omega)
  have Rwo : Hid (BoxP wo w.heap.size ⟨0, 0, 0, 0, 0, 0, 0, 0, 0, 0, ⟨#[]⟩, []⟩ none 0) := Rwn.out.turn hU (by omega)
  have Uwo : Turn b w wo := Uwn.out.trans hU
  have cc : wo.cell? ⟨w.heap.size + 1, 11, none⟩ = some (.slice none 0 0) := Xwo.out.cell 11
  have ff := Xwo.out.fz 11
  have Xwp : Hid (BoxP (wo.setCell ⟨w.heap.size + 1, 11, none⟩ (.slice a v17.length c)) (w.heap.size + 1) ⟨v1, v2, v4, v5, v6, v7, v8, v9, v10, v11, v12, v17⟩ a c) := Xwo.out.set 11 _ rfl
  have Rwp : Hid (BoxP (wo.setCell ⟨w.heap.size + 1, 11, none⟩ (.slice a v17.length c)) w.heap.size ⟨0, 0, 0, 0, 0, 0, 0, 0, 0, 0, ⟨#[]⟩, []⟩ none 0) := Rwo.out.other (by omega) 11 _
  have Awp : TkAt (wo.setCell ⟨w.heap.size + 1, 11, none⟩ (.slice a v17.length c)) b s x17 := hT.store (by omega) 11 _
  have Uwp : Turn b w (wo.setCell ⟨w.heap.size + 1, 11, none⟩ (.slice a v17.length c)) := Uwo.store (by omega) (by omega) 11 _
  have Owp : Opts (wo.setCell ⟨w.heap.size + 1, 11, none⟩ (.slice a v17.length c)) wn.heap.size (.slice a v17.length c) v17 := hO.keep fun g hg _ _ _ => Below.heap_setCell _ _ _ _ (show g ≠ w.heap.size + 1 by omega)
  clear hO hT hU Xwo Rwo Uwo O17 Xwn Rwn Awn Uwn
  go_upto_region 15 with fail
  generalize wo.setCell ⟨w.heap.size + 1, 11, none⟩ (.slice a v17.length c) = wp at *
  clear cc ff
  have Lx : Hid (BoxP (layP wp w.heap.size ⟨v1, v2, v4, v5, v6, v7, v8, v9, v10, v11, v12, v17⟩ a c) w.heap.size ⟨v1, v2, v4, v5, v6, v7, v8, v9, v10, v11, v12, v17⟩ a c) := layP_box Rwp.out ⟨v1, v2, v4, v5, v6, v7, v8, v9, v10, v11, v12, v17⟩ a c
  have Ax : Hid (TkAt (layP wp w.heap.size ⟨v1, v2, v4, v5, v6, v7, v8, v9, v10, v11, v12, v17⟩ a c) b s x17) := Awp.lay (show b ≠ w.heap.size by omega) ⟨v1, v2, v4, v5, v6, v7, v8, v9, v10, v11, v12, v17⟩ a c
  have Ux : Hid (Turn b w (layP wp w.heap.size ⟨v1, v2, v4, v5, v6, v7, v8, v9, v10, v11, v12, v17⟩ a c)) := Uwp.lay (Nat.le_refl _) lt ⟨v1, v2, v4, v5, v6, v7, v8, v9, v10, v11, v12, v17⟩ a c
  have Ox : Hid (Opts (layP wp w.heap.size ⟨v1, v2, v4, v5, v6, v7, v8, v9, v10, v11, v12, v17⟩ a c) w.heap.size (.slice a v17.length c) v17) := (Owp.keep fun g hg _ _ _ => layP_other _ _ _ _ _ _ (show g ≠ w.heap.size by omega)).base (by omega)
  obtain ⟨g0, g1, g2, g3, g4, g5, g6, g7, g8, g9, g10, g11⟩ := Xwp.out.all
  obtain ⟨r0, r1, r2, r3, r4, r5, r6, r7, r8, r9, r10, r11⟩ := Rwp.out.all
  simp only [List.length_nil] at r0 r1 r2 r3 r4 r5 r6 r7 r8 r9 r10 r11 g0 g1 g2 g3 g4 g5 g6 g7 g8 g9 g10 g11
  have p0 := Rwp.out.fz 0
  have p1 := Rwp.out.fz 1
  have p2 := Rwp.out.fz 2
  have p3 := Rwp.out.fz 3
  have p4 := Rwp.out.fz 4
  have p5 := Rwp.out.fz 5
  have p6 := Rwp.out.fz 6
  have p7 := Rwp.out.fz 7
  have p8 := Rwp.out.fz 8
  have p9 := Rwp.out.fz 9
  have p10 := Rwp.out.fz 10
  have p11 := Rwp.out.fz 11
  have hne : ¬ w.heap.size = w.heap.size + 1 := by omega
  have hne2 : ¬ w.heap.size + 1 = w.heap.size := by omega
  clear Xwp Rwp Awp Uwp Owp
  go_wp2
  have B16 := Lx.out.all
  have T16 := Ax.out
  have W16 := Ox.out
  have V16 := Ux.out
  simp only [layP] at B16 T16 W16 V16
  obtain ⟨a0, a1, a2, a3, a4, a5, a6, a7, a8, a9, a10, a11⟩ := B16
  refine bodyPost_ret (v := .agg #[.int .i64 v1, .int .i64 v2, .int .i64 v4, .int .i64 v5, .int .i64 v6, .int .i64 v7, .int .i64 v8, .int .i64 v9, .int .i64 v10, .int .i64 v11, .string v12, .slice a v17.length c]) (by simp [results, Try.results36, go_sem, a0, a1, a2, a3, a4, a5, a6, a7, a8, a9, a10, a11]) rfl ⟨⟨a, c, rfl, W16⟩, T16, V16⟩
end Go.Proofs.Ytegoaaamlfehpaa
