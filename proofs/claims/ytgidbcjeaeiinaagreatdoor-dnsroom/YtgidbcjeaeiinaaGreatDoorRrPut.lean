/-
  Contract of package rr's Put, at every record, place and known names.
-/
import Derived.Test.YtgidbcjeaeiinaaGreatDoorGiverBy
namespace Go.Proofs.YtgidbcjeaeiinaaGreatDoor
set_option maxRecDepth 100000
open Go.ChangeShapes Go.WideShapes Go.ChangeAt Go.RowKit Go.Pin Go.PlainAid

/-- Bounds that every state keeps to. -/
structure Fine (x : Wt) (p q : Nat) : Prop where
  p : x.P.length ≤ p
  q : x.ks.length ≤ q
  l : ∀ k ∈ x.ks, k.1.length ≤ maxLen
theorem Fine.text {x : Wt} {p q : Nat} (h : Fine x p q) (s : ByteArray) : Fine (textW s x) (p + s.size) q := by
  have := h.p
  unfold textW
  split
  · exact ⟨by omega, h.q, h.l⟩
  · exact ⟨by simp only [List.length_append, length_bs]; omega, h.q, h.l⟩
theorem Fine.num {x : Wt} {p q : Nat} (h : Fine x p q) (v : Int) (k : Nat) : Fine (numW v k x) (p + k) q := by
  have := h.text (be v k)
  rw [size_be] at this
  exact this
theorem putN_len (ks : List Kn) : ∀ (ls : List (List UInt8)) (at_ : Int), (putN ks at_ ls).length ≤ ls.length
  | [], _ => by simp [putN]
  | p :: r, at_ => by
    have := putN_len ks r (at_ + 1 + p.length)
    rw [putN]
    split
    · simp
    · simp only [List.length_append, List.length_cons]
      split <;> simp <;> omega
theorem putN_mem (ks : List Kn) : ∀ (ls : List (List UInt8)) (at_ : Int), (∀ x ∈ ls, okL x = true) → ls.length ≤ 8 → ∀ k ∈ putN ks at_ ls, k.1.length ≤ 72
  | [], _, _, _ => by intro k hk; simp [putN] at hk
  | p :: r, at_, ho, h8 => by
    have ih := putN_mem ks r (at_ + 1 + p.length) (fun x hx => ho x (List.mem_cons_of_mem _ hx)) (by simp at h8; omega)
    intro k hk
    rw [putN] at hk
    split at hk
    · simp at hk
    · rcases List.mem_append.1 hk with hk | hk
      · split at hk
        · simp at hk; subst hk
          have := join_len (p :: r) ho
          simp only; omega
        · simp at hk
      · exact ih k hk
theorem Fine.name {x : Wt} {p q : Nat} (h : Fine x p q) (at_ : Int) (n : List UInt8) : Fine (nameW at_ n x) (p + 73) (q + 8) := by
  have hl := labsL_len n
  have h1 := putS_len x.ks (labsL n) (fun x hx => labsL_ok hx)
  have h2 := putN_len x.ks (labsL n) (at_ + x.P.length)
  have h3 := putN_mem x.ks (labsL n) (at_ + x.P.length) (fun x hx => labsL_ok hx) hl
  have hp := h.p
  have hq := h.q
  unfold nameW
  split
  · exact ⟨by omega, by omega, h.l⟩
  · split
    · refine ⟨by simp only [List.length_append]; omega, by simp only [List.length_append]; omega, fun k hk => ?_⟩
      rcases List.mem_append.1 hk with hk | hk
      · exact h.l k hk
      · have := h3 k hk; unfold maxLen; omega
    · exact ⟨by simp only; omega, by simp only; omega, h.l⟩
theorem nameW_ok {at_ : Int} {n : List UInt8} {x : Wt} (h : (nameW at_ n x).rf = false) : x.rf = false ∧ mayPutL (at_ + x.P.length) x.ks n = true ∧ nameW at_ n x = ⟨x.P ++ putS x.ks (labsL n), x.ks ++ putN x.ks (at_ + x.P.length) (labsL n), false⟩ := by
  unfold nameW at h ⊢
  cases hx : x.rf with
  | true => rw [hx] at h; simp [hx] at h
  | false =>
    rw [hx] at h
    simp only [Bool.false_eq_true, if_false] at h ⊢
    cases hm : mayPutL (at_ + x.P.length) x.ks n with
    | true => simp
    | false => rw [hm] at h; simp at h

theorem name_w (b : Nat) (at_ : Int) (G : Bool) (x : Wt) (s : ByteArray) (w : World) (h : Wr w b at_ G x) (hx : Fine x 90000 1048576) (hs : s.size ≤ maxLen) (ha : x.rf = false → -9223372036854775808 ≤ at_ + x.P.length ∧ at_ + x.P.length ≤ 9223372036854775807) :
    Calls Tryz.prog 77 #[.pointer (some ⟨b, 0, none⟩), .string s] w fun e w' => e = .returned (.tuple #[]) ∧ Wr w' b at_ true (nameW at_ (bs s) x) ∧ Ink b w w' :=
  name_g b at_ G x s w h (by have := hx.p; omega) hx.q hx.l hs ha

/-- Block c is a record, boxed. -/
def Boxed (w : World) (c : Nat) (r : Rec) : Prop := w.heap[c]? = some (.cells #[.string r.n, .int .i64 r.ty, .int .i64 r.ttl, .int .i64 r.ad, .string r.tg, .string r.tx, .int .i64 r.se] 48 (0, 0))
theorem Boxed.new (w : World) (r : Rec) : Boxed (w.alloc (.cells #[.string r.n, .int .i64 r.ty, .int .i64 r.ttl, .int .i64 r.ad, .string r.tg, .string r.tx, .int .i64 r.se] 48)) w.heap.size r := heap_alloc_new w _
theorem Boxed.lt {w : World} {c : Nat} {r : Rec} (h : Boxed w c r) : c < w.heap.size := (Array.getElem?_eq_some_iff.1 h).1
theorem Boxed.not {w : World} {c : Nat} {r : Rec} (h : Boxed w c r) : ¬ isBytes w c := fun ⟨cur, f, e⟩ => by
  rw [Boxed] at h
  rw [h] at e
  simp only [Option.some.injEq, Obj.cells.injEq] at e
  exact absurd e.2.1 (by decide)
theorem Boxed.ink {w w' : World} {b c : Nat} {r : Rec} (h : Boxed w c r) (hi : Ink b w w') (hc : c ≠ b) : Boxed w' c r := (hi.oth c h.lt hc h.not).trans h
theorem Boxed.below {w w' : World} {c : Nat} {r : Rec} (h : Boxed w c r) (hb : Below w.heap.size w w') : Boxed w' c r := (hb.block c h.lt).trans h
theorem Boxed.cell {w : World} {c : Nat} {r : Rec} (h : Boxed w c r) (j : Nat) : w.cell? ⟨c, j, none⟩ = #[Value.string r.n, .int .i64 r.ty, .int .i64 r.ttl, .int .i64 r.ad, .string r.tg, .string r.tx, .int .i64 r.se][j]? := by
  rw [Boxed] at h
  simp only [World.cell?, h]
  simp
theorem Laid.ink {w w' : World} {b : Nat} (h : Laid w) (hi : Ink b w w') (hb : b ≠ 0) : Laid w' := h.keep (hi.bel.block 0 (by omega))

def soaW (at_ : Int) (r : Rec) (x : Wt) : Wt := numW 60 4 (numW 600 4 (numW 60 4 (numW 60 4 (numW r.se 4 (nameW at_ (bs r.tg) (nameW at_ (bs r.tg) x))))))
def dataW (at_ : Int) (r : Rec) (x : Wt) : Wt :=
  if r.ty = 1 then numW r.ad 4 x
  else if isN r.ty then nameW at_ (bs r.tg) x
  else if r.ty = 6 then soaW at_ r x
  else if r.ty = 16 then textW r.tx (numW r.tx.size 1 x)
  else textW r.tx x
theorem number_1w (b : Nat) (at_ : Int) (x : Wt) (v : Int) (w : World) (h : Wr w b at_ true x) (hv : 0 ≤ v ∧ v < 256) (hP : x.P.length ≤ 100000) :
    Calls Tryz.prog 75 #[.pointer (some ⟨b, 0, none⟩), .int .i64 v, .int .i64 1] w fun e w' => e = .returned (.tuple #[]) ∧ Wr w' b at_ true (numW v 1 x) ∧ Ink b w w' := number_g b at_ true x v 1 w h (.inl ⟨rfl, hv.1, hv.2⟩) hP
theorem number_2w (b : Nat) (at_ : Int) (x : Wt) (v : Int) (w : World) (h : Wr w b at_ true x) (hv : 0 ≤ v ∧ v < 65536) (hP : x.P.length ≤ 100000) :
    Calls Tryz.prog 75 #[.pointer (some ⟨b, 0, none⟩), .int .i64 v, .int .i64 2] w fun e w' => e = .returned (.tuple #[]) ∧ Wr w' b at_ true (numW v 2 x) ∧ Ink b w w' := number_g b at_ true x v 2 w h (.inr (.inl ⟨rfl, hv.1, hv.2⟩)) hP
theorem number_4w (b : Nat) (at_ : Int) (x : Wt) (v : Int) (w : World) (h : Wr w b at_ true x) (hv : 0 ≤ v ∧ v < 4294967296) (hP : x.P.length ≤ 100000) :
    Calls Tryz.prog 75 #[.pointer (some ⟨b, 0, none⟩), .int .i64 v, .int .i64 4] w fun e w' => e = .returned (.tuple #[]) ∧ Wr w' b at_ true (numW v 4 x) ∧ Ink b w w' := number_g b at_ true x v 4 w h (.inr (.inr ⟨rfl, hv.1, hv.2⟩)) hP

set_option maxHeartbeats 1000000 in
theorem wdata_1 (b : Nat) (at_ : Int) (x : Wt) (r : Rec) (w : World) (h : Wr w b at_ true x) (hP : x.P.length ≤ 100000) (ht : r.ty = 1) (hr : 0 ≤ r.ad ∧ r.ad < 4294967296) :
    Calls Tryz.prog 81 #[.pointer (some ⟨b, 0, none⟩), rv r] w fun e w' => e = .returned (.tuple #[]) ∧ Wr w' b at_ true (numW r.ad 4 x) ∧ Ink b w w' := by
  have HC : Hid (∀ w, Wr w b at_ true x → _) := fun w h => number_4w b at_ x r.ad w h hr hP
  generalize numW r.ad 4 x = X at *
  have HB : Hid (_) := (Below.refl w.heap.size w).alloc (Nat.le_refl _) (.cells #[.string r.n, .int .i64 r.ty, .int .i64 r.ttl, .int .i64 r.ad, .string r.tg, .string r.tx, .int .i64 r.se] 48)
  have W0 : Hid (_) := h.below HB.out
  have I0 : Hid (Ink b w (w.alloc (.cells #[.string r.n, .int .i64 r.ty, .int .i64 r.ttl, .int .i64 r.ad, .string r.tg, .string r.tx, .int .i64 r.se] 48))) := Ink.of_below HB.out h.lt
  have Hc : Hid (∀ w', Ink b (w.alloc (.cells #[.string r.n, .int .i64 r.ty, .int .i64 r.ttl, .int .i64 r.ad, .string r.tg, .string r.tx, .int .i64 r.se] 48)) w' → w'.cell? ⟨w.heap.size, 3, none⟩ = some (.int .i64 r.ad) ∧ w'.cell? ⟨w.heap.size, 4, none⟩ = some (.string r.tg) ∧ w'.cell? ⟨w.heap.size, 5, none⟩ = some (.string r.tx) ∧ w'.cell? ⟨w.heap.size, 6, none⟩ = some (.int .i64 r.se)) := fun w' hi => by
    have hx := (Boxed.new w r).ink hi (by have := h.lt; omega)
    exact ⟨hx.cell 3, hx.cell 4, hx.cell 5, hx.cell 6⟩
  obtain ⟨n, ty, ttl, ad, tg, tx, se⟩ := r
  simp only at ht
  subst ht
  simp only [rv] at *
  clear h hP hr HB
  go_enter Tryz.func81, Tryz.ntmps81
  go_wp2_with fail
  obtain ⟨q3, q4, q5, q6⟩ := Hc.out _ (Ink.refl _ _)
  generalize w.alloc (.cells #[.string n, .int .i64 1, .int .i64 ttl, .int .i64 ad, .string tg, .string tx, .int .i64 se] 48) = w0 at *
  have J0 : Hid (Ink b w0 w0) := Ink.refl _ _
  go_region_held3 (fun w' => w'.cell? ⟨w.heap.size, 3, none⟩ = some (.int .i64 ad)) (first | exact q3 | exact p3)
    (first | (go_at_call 75; refine (HC.out _ (W0.out.below (below_drewN (Below.refl w0.heap.size _) 1))).mono ?_; rintro e w1 ⟨rfl, hW1, hI1⟩; have I1 : Ink b w0 w1 := J0.out.trans ((Ink.of_below (below_drewN (Below.refl w0.heap.size _) 1) W0.out.lt).trans hI1); obtain ⟨p3, p4, p5, p6⟩ := Hc.out _ I1))
  have J1 : Hid (Ink b w0 w1) := I1
  have W1 : Hid (_) := hW1
  clear I1 hI1 hW1 HC W0 J0 q3 q4 q5 q6
  have q3 := p3; have q4 := p4; have q5 := p5; have q6 := p6; clear p3 p4 p5 p6
  clear q3 q4 q5 q6
  go_wp2
  go_end0
  exact ⟨rfl, W1.out, I0.out.trans J1.out⟩

set_option maxHeartbeats 1000000 in
theorem wdata_n (b : Nat) (at_ : Int) (x : Wt) (r : Rec) (w : World) (h : Wr w b at_ true x) (hx : Fine x 90000 1048576) (hs : r.tg.size ≤ maxLen) (ha : x.rf = false → -9223372036854775808 ≤ at_ + x.P.length ∧ at_ + x.P.length ≤ 9223372036854775807) (ht : isN r.ty = true) :
    Calls Tryz.prog 81 #[.pointer (some ⟨b, 0, none⟩), rv r] w fun e w' => e = .returned (.tuple #[]) ∧ Wr w' b at_ true (nameW at_ (bs r.tg) x) ∧ Ink b w w' := by
  have HC : Hid (∀ w, Wr w b at_ true x → _) := fun w h => name_w b at_ true x r.tg w h hx hs ha
  generalize nameW at_ (bs r.tg) x = X at *
  have HB : Hid (_) := (Below.refl w.heap.size w).alloc (Nat.le_refl _) (.cells #[.string r.n, .int .i64 r.ty, .int .i64 r.ttl, .int .i64 r.ad, .string r.tg, .string r.tx, .int .i64 r.se] 48)
  have W0 : Hid (_) := h.below HB.out
  have I0 : Hid (Ink b w (w.alloc (.cells #[.string r.n, .int .i64 r.ty, .int .i64 r.ttl, .int .i64 r.ad, .string r.tg, .string r.tx, .int .i64 r.se] 48))) := Ink.of_below HB.out h.lt
  have Hc : Hid (∀ w', Ink b (w.alloc (.cells #[.string r.n, .int .i64 r.ty, .int .i64 r.ttl, .int .i64 r.ad, .string r.tg, .string r.tx, .int .i64 r.se] 48)) w' → w'.cell? ⟨w.heap.size, 3, none⟩ = some (.int .i64 r.ad) ∧ w'.cell? ⟨w.heap.size, 4, none⟩ = some (.string r.tg) ∧ w'.cell? ⟨w.heap.size, 5, none⟩ = some (.string r.tx) ∧ w'.cell? ⟨w.heap.size, 6, none⟩ = some (.int .i64 r.se)) := fun w' hi => by
    have hx := (Boxed.new w r).ink hi (by have := h.lt; omega)
    exact ⟨hx.cell 3, hx.cell 4, hx.cell 5, hx.cell 6⟩
  obtain ⟨n, ty, ttl, ad, tg, tx, se⟩ := r
  simp only [isN, decide_eq_true_eq] at ht
  simp only [rv] at *
  clear h hx hs ha HB
  rcases ht with rfl | rfl | rfl
  · go_enter Tryz.func81, Tryz.ntmps81
    go_wp2_with fail
    obtain ⟨q3, q4, q5, q6⟩ := Hc.out _ (Ink.refl _ _)
    generalize w.alloc (.cells #[.string n, .int .i64 2, .int .i64 ttl, .int .i64 ad, .string tg, .string tx, .int .i64 se] 48) = w0 at *
    have J0 : Hid (Ink b w0 w0) := Ink.refl _ _
    go_region_held3 (fun w' => w'.cell? ⟨w.heap.size, 4, none⟩ = some (.string tg)) (first | exact q4 | exact p4)
      (first | (go_at_call 77; refine (HC.out _ (W0.out.below (below_drewN (Below.refl w0.heap.size _) 1))).mono ?_; rintro e w1 ⟨rfl, hW1, hI1⟩; have I1 : Ink b w0 w1 := J0.out.trans ((Ink.of_below (below_drewN (Below.refl w0.heap.size _) 1) W0.out.lt).trans hI1); obtain ⟨p3, p4, p5, p6⟩ := Hc.out _ I1))
    have J1 : Hid (Ink b w0 w1) := I1
    have W1 : Hid (_) := hW1
    clear I1 hI1 hW1 HC W0 J0 q3 q4 q5 q6
    have q3 := p3; have q4 := p4; have q5 := p5; have q6 := p6; clear p3 p4 p5 p6
    clear q3 q4 q5 q6
    go_wp2
    go_end0
    exact ⟨rfl, W1.out, I0.out.trans J1.out⟩
  · go_enter Tryz.func81, Tryz.ntmps81
    go_wp2_with fail
    obtain ⟨q3, q4, q5, q6⟩ := Hc.out _ (Ink.refl _ _)
    generalize w.alloc (.cells #[.string n, .int .i64 5, .int .i64 ttl, .int .i64 ad, .string tg, .string tx, .int .i64 se] 48) = w0 at *
    have J0 : Hid (Ink b w0 w0) := Ink.refl _ _
    go_region_held3 (fun w' => w'.cell? ⟨w.heap.size, 4, none⟩ = some (.string tg)) (first | exact q4 | exact p4)
      (first | (go_at_call 77; refine (HC.out _ (W0.out.below (below_drewN (Below.refl w0.heap.size _) 1))).mono ?_; rintro e w1 ⟨rfl, hW1, hI1⟩; have I1 : Ink b w0 w1 := J0.out.trans ((Ink.of_below (below_drewN (Below.refl w0.heap.size _) 1) W0.out.lt).trans hI1); obtain ⟨p3, p4, p5, p6⟩ := Hc.out _ I1))
    have J1 : Hid (Ink b w0 w1) := I1
    have W1 : Hid (_) := hW1
    clear I1 hI1 hW1 HC W0 J0 q3 q4 q5 q6
    have q3 := p3; have q4 := p4; have q5 := p5; have q6 := p6; clear p3 p4 p5 p6
    clear q3 q4 q5 q6
    go_wp2
    go_end0
    exact ⟨rfl, W1.out, I0.out.trans J1.out⟩
  · go_enter Tryz.func81, Tryz.ntmps81
    go_wp2_with fail
    obtain ⟨q3, q4, q5, q6⟩ := Hc.out _ (Ink.refl _ _)
    generalize w.alloc (.cells #[.string n, .int .i64 12, .int .i64 ttl, .int .i64 ad, .string tg, .string tx, .int .i64 se] 48) = w0 at *
    have J0 : Hid (Ink b w0 w0) := Ink.refl _ _
    go_region_held3 (fun w' => w'.cell? ⟨w.heap.size, 4, none⟩ = some (.string tg)) (first | exact q4 | exact p4)
      (first | (go_at_call 77; refine (HC.out _ (W0.out.below (below_drewN (Below.refl w0.heap.size _) 1))).mono ?_; rintro e w1 ⟨rfl, hW1, hI1⟩; have I1 : Ink b w0 w1 := J0.out.trans ((Ink.of_below (below_drewN (Below.refl w0.heap.size _) 1) W0.out.lt).trans hI1); obtain ⟨p3, p4, p5, p6⟩ := Hc.out _ I1))
    have J1 : Hid (Ink b w0 w1) := I1
    have W1 : Hid (_) := hW1
    clear I1 hI1 hW1 HC W0 J0 q3 q4 q5 q6
    have q3 := p3; have q4 := p4; have q5 := p5; have q6 := p6; clear p3 p4 p5 p6
    clear q3 q4 q5 q6
    go_wp2
    go_end0
    exact ⟨rfl, W1.out, I0.out.trans J1.out⟩

set_option maxHeartbeats 1000000 in
theorem wdata_49 (b : Nat) (at_ : Int) (x : Wt) (r : Rec) (w : World) (h : Wr w b at_ true x) (hP : x.P.length ≤ 100000) (ht : r.ty = 49) (hr : r.tx.size ≤ 64) :
    Calls Tryz.prog 81 #[.pointer (some ⟨b, 0, none⟩), rv r] w fun e w' => e = .returned (.tuple #[]) ∧ Wr w' b at_ true (textW r.tx x) ∧ Ink b w w' := by
  have HC : Hid (∀ w, Wr w b at_ true x → _) := fun w h => text_g b at_ true x r.tx w h hP (by omega)
  generalize textW r.tx x = X at *
  have HB : Hid (_) := (Below.refl w.heap.size w).alloc (Nat.le_refl _) (.cells #[.string r.n, .int .i64 r.ty, .int .i64 r.ttl, .int .i64 r.ad, .string r.tg, .string r.tx, .int .i64 r.se] 48)
  have W0 : Hid (_) := h.below HB.out
  have I0 : Hid (Ink b w (w.alloc (.cells #[.string r.n, .int .i64 r.ty, .int .i64 r.ttl, .int .i64 r.ad, .string r.tg, .string r.tx, .int .i64 r.se] 48))) := Ink.of_below HB.out h.lt
  have Hc : Hid (∀ w', Ink b (w.alloc (.cells #[.string r.n, .int .i64 r.ty, .int .i64 r.ttl, .int .i64 r.ad, .string r.tg, .string r.tx, .int .i64 r.se] 48)) w' → w'.cell? ⟨w.heap.size, 3, none⟩ = some (.int .i64 r.ad) ∧ w'.cell? ⟨w.heap.size, 4, none⟩ = some (.string r.tg) ∧ w'.cell? ⟨w.heap.size, 5, none⟩ = some (.string r.tx) ∧ w'.cell? ⟨w.heap.size, 6, none⟩ = some (.int .i64 r.se)) := fun w' hi => by
    have hx := (Boxed.new w r).ink hi (by have := h.lt; omega)
    exact ⟨hx.cell 3, hx.cell 4, hx.cell 5, hx.cell 6⟩
  obtain ⟨n, ty, ttl, ad, tg, tx, se⟩ := r
  simp only at ht
  subst ht
  simp only [rv] at *
  clear h hP hr HB
  go_enter Tryz.func81, Tryz.ntmps81
  go_wp2_with fail
  obtain ⟨q3, q4, q5, q6⟩ := Hc.out _ (Ink.refl _ _)
  generalize w.alloc (.cells #[.string n, .int .i64 49, .int .i64 ttl, .int .i64 ad, .string tg, .string tx, .int .i64 se] 48) = w0 at *
  have J0 : Hid (Ink b w0 w0) := Ink.refl _ _
  go_region_held3 (fun w' => w'.cell? ⟨w.heap.size, 5, none⟩ = some (.string tx)) (first | exact q5 | exact p5)
    (first | (go_at_call 78; refine (HC.out _ (W0.out.below (below_drewN (Below.refl w0.heap.size _) 1))).mono ?_; rintro e w1 ⟨rfl, hW1, hI1⟩; have I1 : Ink b w0 w1 := J0.out.trans ((Ink.of_below (below_drewN (Below.refl w0.heap.size _) 1) W0.out.lt).trans hI1); obtain ⟨p3, p4, p5, p6⟩ := Hc.out _ I1))
  have J1 : Hid (Ink b w0 w1) := I1
  have W1 : Hid (_) := hW1
  clear I1 hI1 hW1 HC W0 J0 q3 q4 q5 q6
  have q3 := p3; have q4 := p4; have q5 := p5; have q6 := p6; clear p3 p4 p5 p6
  clear q3 q4 q5 q6
  go_wp2
  go_end0
  exact ⟨rfl, W1.out, I0.out.trans J1.out⟩

set_option maxHeartbeats 1000000 in
theorem wdata_16 (b : Nat) (at_ : Int) (x : Wt) (r : Rec) (w : World) (h : Wr w b at_ true x) (hP : x.P.length ≤ 90000) (ht : r.ty = 16) (hr : r.tx.size ≤ 64) :
    Calls Tryz.prog 81 #[.pointer (some ⟨b, 0, none⟩), rv r] w fun e w' => e = .returned (.tuple #[]) ∧ Wr w' b at_ true (textW r.tx (numW r.tx.size 1 x)) ∧ Ink b w w' := by
  have HC : Hid (∀ w, Wr w b at_ true x → _) := fun w h => number_1w b at_ x r.tx.size w h ⟨by omega, by omega⟩ (by omega)
  have hP2 : (numW r.tx.size 1 x).P.length ≤ 100000 := by
    unfold numW textW
    split
    · omega
    · simp only [List.length_append, length_bs, size_be]; omega
  generalize numW r.tx.size 1 x = y at *
  have HT : Hid (∀ w, Wr w b at_ true y → _) := fun w h => text_g b at_ true y r.tx w h hP2 (by omega)
  generalize textW r.tx y = X at *
  have HB : Hid (_) := (Below.refl w.heap.size w).alloc (Nat.le_refl _) (.cells #[.string r.n, .int .i64 r.ty, .int .i64 r.ttl, .int .i64 r.ad, .string r.tg, .string r.tx, .int .i64 r.se] 48)
  have W0 : Hid (_) := h.below HB.out
  have I0 : Hid (Ink b w (w.alloc (.cells #[.string r.n, .int .i64 r.ty, .int .i64 r.ttl, .int .i64 r.ad, .string r.tg, .string r.tx, .int .i64 r.se] 48))) := Ink.of_below HB.out h.lt
  have Hc : Hid (∀ w', Ink b (w.alloc (.cells #[.string r.n, .int .i64 r.ty, .int .i64 r.ttl, .int .i64 r.ad, .string r.tg, .string r.tx, .int .i64 r.se] 48)) w' → w'.cell? ⟨w.heap.size, 3, none⟩ = some (.int .i64 r.ad) ∧ w'.cell? ⟨w.heap.size, 4, none⟩ = some (.string r.tg) ∧ w'.cell? ⟨w.heap.size, 5, none⟩ = some (.string r.tx) ∧ w'.cell? ⟨w.heap.size, 6, none⟩ = some (.int .i64 r.se)) := fun w' hi => by
    have hx := (Boxed.new w r).ink hi (by have := h.lt; omega)
    exact ⟨hx.cell 3, hx.cell 4, hx.cell 5, hx.cell 6⟩
  obtain ⟨n, ty, ttl, ad, tg, tx, se⟩ := r
  simp only at ht
  subst ht
  simp only [rv] at *
  clear h hP hP2 HB
  go_enter Tryz.func81, Tryz.ntmps81
  go_wp2_with fail
  obtain ⟨q3, q4, q5, q6⟩ := Hc.out _ (Ink.refl _ _)
  generalize w.alloc (.cells #[.string n, .int .i64 16, .int .i64 ttl, .int .i64 ad, .string tg, .string tx, .int .i64 se] 48) = w0 at *
  have J0 : Hid (Ink b w0 w0) := Ink.refl _ _
  go_region_held3 (fun w' => w'.cell? ⟨w.heap.size, 5, none⟩ = some (.string tx)) (first | exact q5 | exact p5)
    (first | (go_at_call 75; refine (HC.out _ (W0.out.below (below_drewN (Below.refl w0.heap.size _) 1))).mono ?_; rintro e w1 ⟨rfl, hW1, hI1⟩; have I1 : Ink b w0 w1 := J0.out.trans ((Ink.of_below (below_drewN (Below.refl w0.heap.size _) 1) W0.out.lt).trans hI1); obtain ⟨p3, p4, p5, p6⟩ := Hc.out _ I1))
  have J1 : Hid (Ink b w0 w1) := I1
  have W1 : Hid (_) := hW1
  clear I1 hI1 hW1 HC W0 J0 q3 q4 q5 q6
  have q3 := p3; have q4 := p4; have q5 := p5; have q6 := p6; clear p3 p4 p5 p6
  go_wp2_with fail
  go_region_held3 (fun w' => w'.cell? ⟨w.heap.size, 5, none⟩ = some (.string tx)) (first | exact q5 | exact p5)
    (first | (go_at_call 78; refine (HT.out _ (W1.out.below (below_drewN (Below.refl w1.heap.size _) 1))).mono ?_; rintro e w2 ⟨rfl, hW2, hI2⟩; have I2 : Ink b w0 w2 := J1.out.trans ((Ink.of_below (below_drewN (Below.refl w1.heap.size _) 1) W1.out.lt).trans hI2); obtain ⟨p3, p4, p5, p6⟩ := Hc.out _ I2))
  have J2 : Hid (Ink b w0 w2) := I2
  have W2 : Hid (_) := hW2
  clear I2 hI2 hW2 HT W1 J1 q3 q4 q5 q6
  have q3 := p3; have q4 := p4; have q5 := p5; have q6 := p6; clear p3 p4 p5 p6
  clear q3 q4 q5 q6
  go_wp2
  go_end0
  exact ⟨rfl, W2.out, I0.out.trans J2.out⟩

set_option maxHeartbeats 2000000 in
theorem wdata_6 (b : Nat) (at_ : Int) (x : Wt) (r : Rec) (w : World) (h : Wr w b at_ true x) (hx : Fine x 9000 1048560) (hs : r.tg.size ≤ maxLen) (ha : x.rf = false → 0 ≤ at_ ∧ at_ ≤ 65535) (ht : r.ty = 6) (hr : 0 ≤ r.se ∧ r.se < 4294967296) (hL : Laid w) (hb0 : b ≠ 0) :
    Calls Tryz.prog 81 #[.pointer (some ⟨b, 0, none⟩), rv r] w fun e w' => e = .returned (.tuple #[]) ∧ Wr w' b at_ true (soaW at_ r x) ∧ Ink b w w' := by
  have F1 := hx.name at_ (bs r.tg)
  have F2 := F1.name at_ (bs r.tg)
  have hp := hx.p
  have hp1 := F1.p
  have HN1 : Hid (∀ w, Wr w b at_ true x → _) := fun w h => name_w b at_ true x r.tg w h ⟨by omega, by have := hx.q; omega, hx.l⟩ hs (fun hf => by have := ha hf; omega)
  have HN2 : Hid (∀ w, Wr w b at_ true (nameW at_ (bs r.tg) x) → _) := fun w h => name_w b at_ true (nameW at_ (bs r.tg) x) r.tg w h ⟨by omega, by have := F1.q; omega, F1.l⟩ hs (fun hf => by have := ha (nameW_ok hf).1; omega)
  have e1 : soaW at_ r x = numW 60 4 (numW 600 4 (numW 60 4 (numW 60 4 (numW r.se 4 (nameW at_ (bs r.tg) (nameW at_ (bs r.tg) x)))))) := rfl
  rw [e1]
  clear e1
  generalize nameW at_ (bs r.tg) x = y1 at *
  generalize nameW at_ (bs r.tg) y1 = y2 at *
  have HS : Hid (∀ w, Wr w b at_ true y2 → _) := fun w h => number_4w b at_ y2 r.se w h hr (by have := F2.p; omega)
  have F3 := F2.num r.se 4
  generalize numW r.se 4 y2 = y3 at *
  have H1 : Hid (∀ w, Wr w b at_ true y3 → _) := fun w h => number_4w b at_ y3 60 w h ⟨by omega, by omega⟩ (by have := F3.p; omega)
  have F4 := F3.num 60 4
  generalize numW 60 4 y3 = y4 at *
  have H2 : Hid (∀ w, Wr w b at_ true y4 → _) := fun w h => number_4w b at_ y4 60 w h ⟨by omega, by omega⟩ (by have := F4.p; omega)
  have F5 := F4.num 60 4
  generalize numW 60 4 y4 = y5 at *
  have H3 : Hid (∀ w, Wr w b at_ true y5 → _) := fun w h => number_4w b at_ y5 600 w h ⟨by omega, by omega⟩ (by have := F5.p; omega)
  have F6 := F5.num 600 4
  generalize numW 600 4 y5 = y6 at *
  have H4 : Hid (∀ w, Wr w b at_ true y6 → _) := fun w h => number_4w b at_ y6 60 w h ⟨by omega, by omega⟩ (by have := F6.p; omega)
  generalize numW 60 4 y6 = y7 at *
  have HB : Hid (_) := (Below.refl w.heap.size w).alloc (Nat.le_refl _) (.cells #[.string r.n, .int .i64 r.ty, .int .i64 r.ttl, .int .i64 r.ad, .string r.tg, .string r.tx, .int .i64 r.se] 48)
  have W0 : Hid (_) := h.below HB.out
  have I0 : Hid (Ink b w (w.alloc (.cells #[.string r.n, .int .i64 r.ty, .int .i64 r.ttl, .int .i64 r.ad, .string r.tg, .string r.tx, .int .i64 r.se] 48))) := Ink.of_below HB.out h.lt
  have Hc : Hid (∀ w', Ink b (w.alloc (.cells #[.string r.n, .int .i64 r.ty, .int .i64 r.ttl, .int .i64 r.ad, .string r.tg, .string r.tx, .int .i64 r.se] 48)) w' → w'.cell? ⟨w.heap.size, 3, none⟩ = some (.int .i64 r.ad) ∧ w'.cell? ⟨w.heap.size, 4, none⟩ = some (.string r.tg) ∧ w'.cell? ⟨w.heap.size, 5, none⟩ = some (.string r.tx) ∧ w'.cell? ⟨w.heap.size, 6, none⟩ = some (.int .i64 r.se)) := fun w' hi => by
    have hx := (Boxed.new w r).ink hi (by have := h.lt; omega)
    exact ⟨hx.cell 3, hx.cell 4, hx.cell 5, hx.cell 6⟩
  have L0 : Hid (Laid (w.alloc (.cells #[.string r.n, .int .i64 r.ty, .int .i64 r.ttl, .int .i64 r.ad, .string r.tg, .string r.tx, .int .i64 r.se] 48))) := hL.below HB.out
  obtain ⟨n, ty, ttl, ad, tg, tx, se⟩ := r
  simp only at ht
  subst ht
  simp only [rv] at *
  clear h F1 F2 F3 F4 F5 F6 hx hs ha hr hL hp hp1 HB
  have x0 := soa_at0
  have x1 := soa_at1
  have x2 := soa_at2
  have x3 := soa_at3
  go_enter Tryz.func81, Tryz.ntmps81
  go_wp2_with fail
  obtain ⟨q3, q4, q5, q6⟩ := Hc.out _ (Ink.refl _ _)
  generalize w.alloc (.cells #[.string n, .int .i64 6, .int .i64 ttl, .int .i64 ad, .string tg, .string tx, .int .i64 se] 48) = w0 at *
  have J0 : Hid (Ink b w0 w0) := Ink.refl _ _
  go_region_held3 (fun w' => w'.cell? ⟨w.heap.size, 4, none⟩ = some (.string tg)) (first | exact q4 | exact p4)
    (first | (go_at_call 77; refine (HN1.out _ (W0.out.below (below_drewN (Below.refl w0.heap.size _) 1))).mono ?_; rintro e w1 ⟨rfl, hW1, hI1⟩; have I1 : Ink b w0 w1 := J0.out.trans ((Ink.of_below (below_drewN (Below.refl w0.heap.size _) 1) W0.out.lt).trans hI1); obtain ⟨p3, p4, p5, p6⟩ := Hc.out _ I1))
  have J1 : Hid (Ink b w0 w1) := I1
  have W1 : Hid (_) := hW1
  clear I1 hI1 hW1 HN1 W0 J0 q3 q4 q5 q6
  have q3 := p3; have q4 := p4; have q5 := p5; have q6 := p6; clear p3 p4 p5 p6
  go_wp2_with fail
  go_region_held3 (fun w' => w'.cell? ⟨w.heap.size, 4, none⟩ = some (.string tg)) (first | exact q4 | exact p4)
    (first | (go_at_call 77; refine (HN2.out _ (W1.out.below (below_drewN (Below.refl w1.heap.size _) 1))).mono ?_; rintro e w2 ⟨rfl, hW2, hI2⟩; have I2 : Ink b w0 w2 := J1.out.trans ((Ink.of_below (below_drewN (Below.refl w1.heap.size _) 1) W1.out.lt).trans hI2); obtain ⟨p3, p4, p5, p6⟩ := Hc.out _ I2))
  have J2 : Hid (Ink b w0 w2) := I2
  have W2 : Hid (_) := hW2
  clear I2 hI2 hW2 HN2 W1 J1 q3 q4 q5 q6
  have q3 := p3; have q4 := p4; have q5 := p5; have q6 := p6; clear p3 p4 p5 p6
  go_wp2_with fail
  go_region_held3 (fun w' => w'.cell? ⟨w.heap.size, 6, none⟩ = some (.int .i64 se)) (first | exact q6 | exact p6)
    (first | (go_at_call 75; refine (HS.out _ (W2.out.below (below_drewN (Below.refl w2.heap.size _) 1))).mono ?_; rintro e w3 ⟨rfl, hW3, hI3⟩; have I3 : Ink b w0 w3 := J2.out.trans ((Ink.of_below (below_drewN (Below.refl w2.heap.size _) 1) W2.out.lt).trans hI3); obtain ⟨p3, p4, p5, p6⟩ := Hc.out _ I3))
  have J3 : Hid (Ink b w0 w3) := I3
  have W3 : Hid (_) := hW3
  clear I3 hI3 hW3 HS W2 J2 q3 q4 q5 q6
  have q3 := p3; have q4 := p4; have q5 := p5; have q6 := p6; clear p3 p4 p5 p6
  clear q3 q4 q5 q6
  obtain ⟨l0, l1, l2, l3⟩ := L0.out.ink J3.out hb0
  have hW3 := W3.out
  go_wp2_with fail
  refine wp_loop_rounds 5 ?_
  rw [rounds_succ]
  go_wp2_with fail
  refine (H1.out _ hW3).mono ?_; rintro e w4 ⟨rfl, hW4, hI4⟩
  clear l0 l1 l2 l3
  go_wp2_with fail
  rw [rounds_succ]
  go_wp2_with fail
  refine (H2.out _ hW4).mono ?_; rintro e w5 ⟨rfl, hW5, hI5⟩
  go_wp2_with fail
  rw [rounds_succ]
  go_wp2_with fail
  refine (H3.out _ hW5).mono ?_; rintro e w6 ⟨rfl, hW6, hI6⟩
  go_wp2_with fail
  rw [rounds_succ]
  go_wp2_with fail
  refine (H4.out _ hW6).mono ?_; rintro e w7 ⟨rfl, hW7, hI7⟩
  go_wp2_with fail
  rw [rounds_succ]
  go_wp2
  go_end0
  exact ⟨rfl, hW7, I0.out.trans (J3.out.trans (hI4.trans (hI5.trans (hI6.trans hI7))))⟩

theorem wdata_c (b : Nat) (at_ : Int) (x : Wt) (r : Rec) (w : World) (h : Wr w b at_ true x) (hx : Fine x 9000 1048560) (ha : x.rf = false → 0 ≤ at_ ∧ at_ ≤ 65535) (hm : mayR r = true) (hs : r.tg.size ≤ maxLen) (hL : Laid w) (hb0 : b ≠ 0) :
    Calls Tryz.prog 81 #[.pointer (some ⟨b, 0, none⟩), rv r] w fun e w' => e = .returned (.tuple #[]) ∧ Wr w' b at_ true (dataW at_ r x) ∧ Ink b w w' := by
  have hp := hx.p
  simp only [mayR, upB, Bool.and_eq_true, decide_eq_true_eq] at hm
  obtain ⟨⟨⟨⟨⟨⟨⟨ht, _⟩, _⟩, _⟩, had⟩, _⟩, hse⟩, htx⟩ := hm
  unfold dataW
  by_cases h1 : r.ty = 1
  · rw [if_pos h1]; exact wdata_1 b at_ x r w h (by omega) h1 ⟨by omega, by omega⟩
  · rw [if_neg h1]
    by_cases h2 : isN r.ty = true
    · rw [if_pos h2]; exact wdata_n b at_ x r w h ⟨by omega, by have := hx.q; omega, hx.l⟩ hs (fun hf => by have := ha hf; omega) h2
    · rw [if_neg h2]
      by_cases h3 : r.ty = 6
      · rw [if_pos h3]; exact wdata_6 b at_ x r w h hx hs ha h3 ⟨by omega, by omega⟩ hL hb0
      · rw [if_neg h3]
        by_cases h4 : r.ty = 16
        · rw [if_pos h4]; exact wdata_16 b at_ x r w h (by omega) h4 htx
        · rw [if_neg h4]
          refine wdata_49 b at_ x r w h (by omega) ?_ htx
          simp only [typeB, isT, Bool.or_eq_true, decide_eq_true_eq] at ht
          rcases ht with ((h | h) | h) | h | h
          · exact absurd h h1
          · exact absurd h h2
          · exact absurd h h3
          · exact absurd h h4
          · exact h

end Go.Proofs.YtgidbcjeaeiinaaGreatDoor
