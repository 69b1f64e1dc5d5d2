/-
  Several texts in one.
-/
import Derived.Test.YtdmooggmoihggaaGreatDoorBGive
/-
  Contract of package rr's Put, at every record, place and known names.
-/
namespace Go.Proofs.YtdmooggmoihggaaGreatDoor
set_option maxRecDepth 100000
open Go.ChangeShapes Go.WideShapes Go.ChangeAt Go.RowKit Go.Pin Go.PlainAid

/-- Bounds that every state keeps to. -/
structure Fine (x : Wt) (p q : Nat) : Prop where
  p : x.P.length ≤ p
  q : x.ks.length ≤ q
  l : ∀ k ∈ x.ks, k.1.length ≤ maxLen
theorem Fine.text {x : Wt} {p q : Nat} (h : Fine x p q) (s : ByteArray) : Fine (textW s x) (p + s.size) q := by
  have := h.p
  unfold textW
  split
  · exact ⟨by omega, h.q, h.l⟩
  · exact ⟨by simp only [List.length_append, length_bs]; omega, h.q, h.l⟩
theorem Fine.num {x : Wt} {p q : Nat} (h : Fine x p q) (v : Int) (k : Nat) : Fine (numW v k x) (p + k) q := by
  have := h.text (be v k)
  rw [size_be] at this
  exact this
theorem putN_len (ks : List Kn) : ∀ (ls : List (List UInt8)) (at_ : Int), (putN ks at_ ls).length ≤ ls.length
  | [], _ => by simp [putN]
  | p :: r, at_ => by
    have := putN_len ks r (at_ + 1 + p.length)
    rw [putN]
    split
    · simp
    · simp only [List.length_append, List.length_cons]
      split <;> simp <;> omega
theorem putN_mem (ks : List Kn) : ∀ (ls : List (List UInt8)) (at_ : Int), (∀ x ∈ ls, okL x = true) → ls.length ≤ 8 → ∀ k ∈ putN ks at_ ls, k.1.length ≤ 72
  | [], _, _, _ => by intro k hk; simp [putN] at hk
  | p :: r, at_, ho, h8 => by
    have ih := putN_mem ks r (at_ + 1 + p.length) (fun x hx => ho x (List.mem_cons_of_mem _ hx)) (by simp at h8; omega)
    intro k hk
    rw [putN] at hk
    split at hk
    · simp at hk
    · rcases List.mem_append.1 hk with hk | hk
      · split at hk
        · simp at hk; subst hk
          have := join_len (p :: r) ho
          simp only; omega
        · simp at hk
      · exact ih k hk
theorem Fine.name {x : Wt} {p q : Nat} (h : Fine x p q) (at_ : Int) (n : List UInt8) : Fine (nameW at_ n x) (p + 73) (q + 8) := by
  have hl := labsL_len n
  have h1 := putS_len x.ks (labsL n) (fun x hx => labsL_ok hx)
  have h2 := putN_len x.ks (labsL n) (at_ + x.P.length)
  have h3 := putN_mem x.ks (labsL n) (at_ + x.P.length) (fun x hx => labsL_ok hx) hl
  have hp := h.p
  have hq := h.q
  unfold nameW
  split
  · exact ⟨by omega, by omega, h.l⟩
  · split
    · refine ⟨by simp only [List.length_append]; omega, by simp only [List.length_append]; omega, fun k hk => ?_⟩
      rcases List.mem_append.1 hk with hk | hk
      · exact h.l k hk
      · have := h3 k hk; unfold maxLen; omega
    · exact ⟨by simp only; omega, by simp only; omega, h.l⟩
theorem nameW_ok {at_ : Int} {n : List UInt8} {x : Wt} (h : (nameW at_ n x).rf = false) : x.rf = false ∧ mayPutL (at_ + x.P.length) x.ks n = true ∧ nameW at_ n x = ⟨x.P ++ putS x.ks (labsL n), x.ks ++ putN x.ks (at_ + x.P.length) (labsL n), false⟩ := by
  unfold nameW at h ⊢
  cases hx : x.rf with
  | true => rw [hx] at h; simp [hx] at h
  | false =>
    rw [hx] at h
    simp only [Bool.false_eq_true, if_false] at h ⊢
    cases hm : mayPutL (at_ + x.P.length) x.ks n with
    | true => simp
    | false => rw [hm] at h; simp at h

theorem name_w (b : Nat) (at_ : Int) (G : Bool) (x : Wt) (s : ByteArray) (w : World) (h : Wr w b at_ G x) (hx : Fine x 90000 1048576) (hs : s.size ≤ maxLen) (ha : x.rf = false → -9223372036854775808 ≤ at_ + x.P.length ∧ at_ + x.P.length ≤ 9223372036854775807) :
    Calls Tryz.prog 72 #[.pointer (some ⟨b, 0, none⟩), .string s] w fun e w' => e = .returned (.tuple #[]) ∧ Wr w' b at_ true (nameW at_ (bs s) x) ∧ Ink b w w' :=
  name_g b at_ G x s w h (by have := hx.p; omega) hx.q hx.l hs ha

/-- Block c is a record, boxed. -/
def Boxed (w : World) (c : Nat) (r : Rec) : Prop := w.heap[c]? = some (.cells #[.string r.n, .int .i64 r.ty, .int .i64 r.ttl, .int .i64 r.ad, .string r.tg, .string r.tx, .int .i64 r.se] 82 (0, 0))
theorem Boxed.new (w : World) (r : Rec) : Boxed (w.alloc (.cells #[.string r.n, .int .i64 r.ty, .int .i64 r.ttl, .int .i64 r.ad, .string r.tg, .string r.tx, .int .i64 r.se] 82)) w.heap.size r := heap_alloc_new w _
theorem Boxed.lt {w : World} {c : Nat} {r : Rec} (h : Boxed w c r) : c < w.heap.size := (Array.getElem?_eq_some_iff.1 h).1
theorem Boxed.not {w : World} {c : Nat} {r : Rec} (h : Boxed w c r) : ¬ isBytes w c := fun ⟨cur, f, e⟩ => by
  rw [Boxed] at h
  rw [h] at e
  simp only [Option.some.injEq, Obj.cells.injEq] at e
  exact absurd e.2.1 (by decide)
theorem Boxed.ink {w w' : World} {b c : Nat} {r : Rec} (h : Boxed w c r) (hi : Ink b w w') (hc : c ≠ b) : Boxed w' c r := (hi.oth c h.lt hc h.not).trans h
theorem Boxed.below {w w' : World} {c : Nat} {r : Rec} (h : Boxed w c r) (hb : Below w.heap.size w w') : Boxed w' c r := (hb.block c h.lt).trans h
theorem Boxed.cell {w : World} {c : Nat} {r : Rec} (h : Boxed w c r) (j : Nat) : w.cell? ⟨c, j, none⟩ = #[Value.string r.n, .int .i64 r.ty, .int .i64 r.ttl, .int .i64 r.ad, .string r.tg, .string r.tx, .int .i64 r.se][j]? := by
  rw [Boxed] at h
  simp only [World.cell?, h]
  simp
theorem Laid.ink {w w' : World} {b : Nat} (h : Laid w) (hi : Ink b w w') (hb : b ≠ 0) : Laid w' := h.keep (hi.bel.block 0 (by omega))

def soaW (at_ : Int) (r : Rec) (x : Wt) : Wt := numW 60 4 (numW 600 4 (numW 60 4 (numW 60 4 (numW r.se 4 (nameW at_ (bs r.tg) (nameW at_ (bs r.tg) x))))))
def dataW (at_ : Int) (r : Rec) (x : Wt) : Wt :=
  if r.ty = 1 then numW r.ad 4 x
  else if isN r.ty then nameW at_ (bs r.tg) x
  else if r.ty = 6 then soaW at_ r x
  else if r.ty = 16 then textW r.tx (numW r.tx.size 1 x)
  else textW r.tx x
theorem number_1w (b : Nat) (at_ : Int) (x : Wt) (v : Int) (w : World) (h : Wr w b at_ true x) (hv : 0 ≤ v ∧ v < 256) (hP : x.P.length ≤ 100000) :
    Calls Tryz.prog 70 #[.pointer (some ⟨b, 0, none⟩), .int .i64 v, .int .i64 1] w fun e w' => e = .returned (.tuple #[]) ∧ Wr w' b at_ true (numW v 1 x) ∧ Ink b w w' := number_g b at_ true x v 1 w h (.inl ⟨rfl, hv.1, hv.2⟩) hP
theorem number_2w (b : Nat) (at_ : Int) (x : Wt) (v : Int) (w : World) (h : Wr w b at_ true x) (hv : 0 ≤ v ∧ v < 65536) (hP : x.P.length ≤ 100000) :
    Calls Tryz.prog 70 #[.pointer (some ⟨b, 0, none⟩), .int .i64 v, .int .i64 2] w fun e w' => e = .returned (.tuple #[]) ∧ Wr w' b at_ true (numW v 2 x) ∧ Ink b w w' := number_g b at_ true x v 2 w h (.inr (.inl ⟨rfl, hv.1, hv.2⟩)) hP
theorem number_4w (b : Nat) (at_ : Int) (x : Wt) (v : Int) (w : World) (h : Wr w b at_ true x) (hv : 0 ≤ v ∧ v < 4294967296) (hP : x.P.length ≤ 100000) :
    Calls Tryz.prog 70 #[.pointer (some ⟨b, 0, none⟩), .int .i64 v, .int .i64 4] w fun e w' => e = .returned (.tuple #[]) ∧ Wr w' b at_ true (numW v 4 x) ∧ Ink b w w' := number_g b at_ true x v 4 w h (.inr (.inr ⟨rfl, hv.1, hv.2⟩)) hP

set_option maxHeartbeats 1000000 in
theorem wdata_1 (b : Nat) (at_ : Int) (x : Wt) (r : Rec) (w : World) (h : Wr w b at_ true x) (hP : x.P.length ≤ 100000) (ht : r.ty = 1) (hr : 0 ≤ r.ad ∧ r.ad < 4294967296) :
    Calls Tryz.prog 76 #[.pointer (some ⟨b, 0, none⟩), rv r] w fun e w' => e = .returned (.tuple #[]) ∧ Wr w' b at_ true (numW r.ad 4 x) ∧ Ink b w w' := by
  have HC : Hid (∀ w, Wr w b at_ true x → _) := fun w h => number_4w b at_ x r.ad w h hr hP
  generalize numW r.ad 4 x = X at *
  have HB : Hid (_) := (Below.refl w.heap.size w).alloc (Nat.le_refl _) (.cells #[.string r.n, .int .i64 r.ty, .int .i64 r.ttl, .int .i64 r.ad, .string r.tg, .string r.tx, .int .i64 r.se] 82)
  have W0 : Hid (_) := h.below HB.out
  have I0 : Hid (Ink b w (w.alloc (.cells #[.string r.n, .int .i64 r.ty, .int .i64 r.ttl, .int .i64 r.ad, .string r.tg, .string r.tx, .int .i64 r.se] 82))) := Ink.of_below HB.out h.lt
  have Hc : Hid (∀ w', Ink b (w.alloc (.cells #[.string r.n, .int .i64 r.ty, .int .i64 r.ttl, .int .i64 r.ad, .string r.tg, .string r.tx, .int .i64 r.se] 82)) w' → w'.cell? ⟨w.heap.size, 3, none⟩ = some (.int .i64 r.ad) ∧ w'.cell? ⟨w.heap.size, 4, none⟩ = some (.string r.tg) ∧ w'.cell? ⟨w.heap.size, 5, none⟩ = some (.string r.tx) ∧ w'.cell? ⟨w.heap.size, 6, none⟩ = some (.int .i64 r.se)) := fun w' hi => by
    have hx := (Boxed.new w r).ink hi (by have := h.lt; omega)
    exact ⟨hx.cell 3, hx.cell 4, hx.cell 5, hx.cell 6⟩
  obtain ⟨n, ty, ttl, ad, tg, tx, se⟩ := r
  simp only at ht
  subst ht
  simp only [rv] at *
  clear h hP hr HB
  go_enter Tryz.func76, Tryz.ntmps76
  go_wp2_with fail
  obtain ⟨q3, q4, q5, q6⟩ := Hc.out _ (Ink.refl _ _)
  generalize w.alloc (.cells #[.string n, .int .i64 1, .int .i64 ttl, .int .i64 ad, .string tg, .string tx, .int .i64 se] 82) = w0 at *
  have J0 : Hid (Ink b w0 w0) := Ink.refl _ _
  go_region_held3 (fun w' => w'.cell? ⟨w.heap.size, 3, none⟩ = some (.int .i64 ad)) (first | exact q3 | exact p3)
    (first | (go_at_call 70; refine (HC.out _ (W0.out.below (below_drewN (Below.refl w0.heap.size _) 1))).mono ?_; rintro e w1 ⟨rfl, hW1, hI1⟩; have I1 : Ink b w0 w1 := J0.out.trans ((Ink.of_below (below_drewN (Below.refl w0.heap.size _) 1) W0.out.lt).trans hI1); obtain ⟨p3, p4, p5, p6⟩ := Hc.out _ I1))
  have J1 : Hid (Ink b w0 w1) := I1
  have W1 : Hid (_) := hW1
  clear I1 hI1 hW1 HC W0 J0 q3 q4 q5 q6
  have q3 := p3; have q4 := p4; have q5 := p5; have q6 := p6; clear p3 p4 p5 p6
  clear q3 q4 q5 q6
  go_wp2
  go_end0
  exact ⟨rfl, W1.out, I0.out.trans J1.out⟩

set_option maxHeartbeats 1000000 in
theorem wdata_n (b : Nat) (at_ : Int) (x : Wt) (r : Rec) (w : World) (h : Wr w b at_ true x) (hx : Fine x 90000 1048576) (hs : r.tg.size ≤ maxLen) (ha : x.rf = false → -9223372036854775808 ≤ at_ + x.P.length ∧ at_ + x.P.length ≤ 9223372036854775807) (ht : isN r.ty = true) :
    Calls Tryz.prog 76 #[.pointer (some ⟨b, 0, none⟩), rv r] w fun e w' => e = .returned (.tuple #[]) ∧ Wr w' b at_ true (nameW at_ (bs r.tg) x) ∧ Ink b w w' := by
  have HC : Hid (∀ w, Wr w b at_ true x → _) := fun w h => name_w b at_ true x r.tg w h hx hs ha
  generalize nameW at_ (bs r.tg) x = X at *
  have HB : Hid (_) := (Below.refl w.heap.size w).alloc (Nat.le_refl _) (.cells #[.string r.n, .int .i64 r.ty, .int .i64 r.ttl, .int .i64 r.ad, .string r.tg, .string r.tx, .int .i64 r.se] 82)
  have W0 : Hid (_) := h.below HB.out
  have I0 : Hid (Ink b w (w.alloc (.cells #[.string r.n, .int .i64 r.ty, .int .i64 r.ttl, .int .i64 r.ad, .string r.tg, .string r.tx, .int .i64 r.se] 82))) := Ink.of_below HB.out h.lt
  have Hc : Hid (∀ w', Ink b (w.alloc (.cells #[.string r.n, .int .i64 r.ty, .int .i64 r.ttl, .int .i64 r.ad, .string r.tg, .string r.tx, .int .i64 r.se] 82)) w' → w'.cell? ⟨w.heap.size, 3, none⟩ = some (.int .i64 r.ad) ∧ w'.cell? ⟨w.heap.size, 4, none⟩ = some (.string r.tg) ∧ w'.cell? ⟨w.heap.size, 5, none⟩ = some (.string r.tx) ∧ w'.cell? ⟨w.heap.size, 6, none⟩ = some (.int .i64 r.se)) := fun w' hi => by
    have hx := (Boxed.new w r).ink hi (by have := h.lt; omega)
    exact ⟨hx.cell 3, hx.cell 4, hx.cell 5, hx.cell 6⟩
  obtain ⟨n, ty, ttl, ad, tg, tx, se⟩ := r
  simp only [isN, decide_eq_true_eq] at ht
  simp only [rv] at *
  clear h hx hs ha HB
  rcases ht with rfl | rfl | rfl
  · go_enter Tryz.func76, Tryz.ntmps76
    go_wp2_with fail
    obtain ⟨q3, q4, q5, q6⟩ := Hc.out _ (Ink.refl _ _)
    generalize w.alloc (.cells #[.string n, .int .i64 2, .int .i64 ttl, .int .i64 ad, .string tg, .string tx, .int .i64 se] 82) = w0 at *
    have J0 : Hid (Ink b w0 w0) := Ink.refl _ _
    go_region_held3 (fun w' => w'.cell? ⟨w.heap.size, 4, none⟩ = some (.string tg)) (first | exact q4 | exact p4)
      (first | (go_at_call 72; refine (HC.out _ (W0.out.below (below_drewN (Below.refl w0.heap.size _) 1))).mono ?_; rintro e w1 ⟨rfl, hW1, hI1⟩; have I1 : Ink b w0 w1 := J0.out.trans ((Ink.of_below (below_drewN (Below.refl w0.heap.size _) 1) W0.out.lt).trans hI1); obtain ⟨p3, p4, p5, p6⟩ := Hc.out _ I1))
    have J1 : Hid (Ink b w0 w1) := I1
    have W1 : Hid (_) := hW1
    clear I1 hI1 hW1 HC W0 J0 q3 q4 q5 q6
    have q3 := p3; have q4 := p4; have q5 := p5; have q6 := p6; clear p3 p4 p5 p6
    clear q3 q4 q5 q6
    go_wp2
    go_end0
    exact ⟨rfl, W1.out, I0.out.trans J1.out⟩
  · go_enter Tryz.func76, Tryz.ntmps76
    go_wp2_with fail
    obtain ⟨q3, q4, q5, q6⟩ := Hc.out _ (Ink.refl _ _)
    generalize w.alloc (.cells #[.string n, .int .i64 5, .int .i64 ttl, .int .i64 ad, .string tg, .string tx, .int .i64 se] 82) = w0 at *
    have J0 : Hid (Ink b w0 w0) := Ink.refl _ _
    go_region_held3 (fun w' => w'.cell? ⟨w.heap.size, 4, none⟩ = some (.string tg)) (first | exact q4 | exact p4)
      (first | (go_at_call 72; refine (HC.out _ (W0.out.below (below_drewN (Below.refl w0.heap.size _) 1))).mono ?_; rintro e w1 ⟨rfl, hW1, hI1⟩; have I1 : Ink b w0 w1 := J0.out.trans ((Ink.of_below (below_drewN (Below.refl w0.heap.size _) 1) W0.out.lt).trans hI1); obtain ⟨p3, p4, p5, p6⟩ := Hc.out _ I1))
    have J1 : Hid (Ink b w0 w1) := I1
    have W1 : Hid (_) := hW1
    clear I1 hI1 hW1 HC W0 J0 q3 q4 q5 q6
    have q3 := p3; have q4 := p4; have q5 := p5; have q6 := p6; clear p3 p4 p5 p6
    clear q3 q4 q5 q6
    go_wp2
    go_end0
    exact ⟨rfl, W1.out, I0.out.trans J1.out⟩
  · go_enter Tryz.func76, Tryz.ntmps76
    go_wp2_with fail
    obtain ⟨q3, q4, q5, q6⟩ := Hc.out _ (Ink.refl _ _)
    generalize w.alloc (.cells #[.string n, .int .i64 12, .int .i64 ttl, .int .i64 ad, .string tg, .string tx, .int .i64 se] 82) = w0 at *
    have J0 : Hid (Ink b w0 w0) := Ink.refl _ _
    go_region_held3 (fun w' => w'.cell? ⟨w.heap.size, 4, none⟩ = some (.string tg)) (first | exact q4 | exact p4)
      (first | (go_at_call 72; refine (HC.out _ (W0.out.below (below_drewN (Below.refl w0.heap.size _) 1))).mono ?_; rintro e w1 ⟨rfl, hW1, hI1⟩; have I1 : Ink b w0 w1 := J0.out.trans ((Ink.of_below (below_drewN (Below.refl w0.heap.size _) 1) W0.out.lt).trans hI1); obtain ⟨p3, p4, p5, p6⟩ := Hc.out _ I1))
    have J1 : Hid (Ink b w0 w1) := I1
    have W1 : Hid (_) := hW1
    clear I1 hI1 hW1 HC W0 J0 q3 q4 q5 q6
    have q3 := p3; have q4 := p4; have q5 := p5; have q6 := p6; clear p3 p4 p5 p6
    clear q3 q4 q5 q6
    go_wp2
    go_end0
    exact ⟨rfl, W1.out, I0.out.trans J1.out⟩

set_option maxHeartbeats 1000000 in
theorem wdata_49 (b : Nat) (at_ : Int) (x : Wt) (r : Rec) (w : World) (h : Wr w b at_ true x) (hP : x.P.length ≤ 100000) (ht : r.ty = 49) (hr : r.tx.size ≤ 64) :
    Calls Tryz.prog 76 #[.pointer (some ⟨b, 0, none⟩), rv r] w fun e w' => e = .returned (.tuple #[]) ∧ Wr w' b at_ true (textW r.tx x) ∧ Ink b w w' := by
  have HC : Hid (∀ w, Wr w b at_ true x → _) := fun w h => text_g b at_ true x r.tx w h hP (by omega)
  generalize textW r.tx x = X at *
  have HB : Hid (_) := (Below.refl w.heap.size w).alloc (Nat.le_refl _) (.cells #[.string r.n, .int .i64 r.ty, .int .i64 r.ttl, .int .i64 r.ad, .string r.tg, .string r.tx, .int .i64 r.se] 82)
  have W0 : Hid (_) := h.below HB.out
  have I0 : Hid (Ink b w (w.alloc (.cells #[.string r.n, .int .i64 r.ty, .int .i64 r.ttl, .int .i64 r.ad, .string r.tg, .string r.tx, .int .i64 r.se] 82))) := Ink.of_below HB.out h.lt
  have Hc : Hid (∀ w', Ink b (w.alloc (.cells #[.string r.n, .int .i64 r.ty, .int .i64 r.ttl, .int .i64 r.ad, .string r.tg, .string r.tx, .int .i64 r.se] 82)) w' → w'.cell? ⟨w.heap.size, 3, none⟩ = some (.int .i64 r.ad) ∧ w'.cell? ⟨w.heap.size, 4, none⟩ = some (.string r.tg) ∧ w'.cell? ⟨w.heap.size, 5, none⟩ = some (.string r.tx) ∧ w'.cell? ⟨w.heap.size, 6, none⟩ = some (.int .i64 r.se)) := fun w' hi => by
    have hx := (Boxed.new w r).ink hi (by have := h.lt; omega)
    exact ⟨hx.cell 3, hx.cell 4, hx.cell 5, hx.cell 6⟩
  obtain ⟨n, ty, ttl, ad, tg, tx, se⟩ := r
  simp only at ht
  subst ht
  simp only [rv] at *
  clear h hP hr HB
  go_enter Tryz.func76, Tryz.ntmps76
  go_wp2_with fail
  obtain ⟨q3, q4, q5, q6⟩ := Hc.out _ (Ink.refl _ _)
  generalize w.alloc (.cells #[.string n, .int .i64 49, .int .i64 ttl, .int .i64 ad, .string tg, .string tx, .int .i64 se] 82) = w0 at *
  have J0 : Hid (Ink b w0 w0) := Ink.refl _ _
  go_region_held3 (fun w' => w'.cell? ⟨w.heap.size, 5, none⟩ = some (.string tx)) (first | exact q5 | exact p5)
    (first | (go_at_call 73; refine (HC.out _ (W0.out.below (below_drewN (Below.refl w0.heap.size _) 1))).mono ?_; rintro e w1 ⟨rfl, hW1, hI1⟩; have I1 : Ink b w0 w1 := J0.out.trans ((Ink.of_below (below_drewN (Below.refl w0.heap.size _) 1) W0.out.lt).trans hI1); obtain ⟨p3, p4, p5, p6⟩ := Hc.out _ I1))
  have J1 : Hid (Ink b w0 w1) := I1
  have W1 : Hid (_) := hW1
  clear I1 hI1 hW1 HC W0 J0 q3 q4 q5 q6
  have q3 := p3; have q4 := p4; have q5 := p5; have q6 := p6; clear p3 p4 p5 p6
  clear q3 q4 q5 q6
  go_wp2
  go_end0
  exact ⟨rfl, W1.out, I0.out.trans J1.out⟩

set_option maxHeartbeats 1000000 in
theorem wdata_16 (b : Nat) (at_ : Int) (x : Wt) (r : Rec) (w : World) (h : Wr w b at_ true x) (hP : x.P.length ≤ 90000) (ht : r.ty = 16) (hr : r.tx.size ≤ 64) :
    Calls Tryz.prog 76 #[.pointer (some ⟨b, 0, none⟩), rv r] w fun e w' => e = .returned (.tuple #[]) ∧ Wr w' b at_ true (textW r.tx (numW r.tx.size 1 x)) ∧ Ink b w w' := by
  have HC : Hid (∀ w, Wr w b at_ true x → _) := fun w h => number_1w b at_ x r.tx.size w h ⟨by omega, by omega⟩ (by omega)
  have hP2 : (numW r.tx.size 1 x).P.length ≤ 100000 := by
    unfold numW textW
    split
    · omega
    · simp only [List.length_append, length_bs, size_be]; omega
  generalize numW r.tx.size 1 x = y at *
  have HT : Hid (∀ w, Wr w b at_ true y → _) := fun w h => text_g b at_ true y r.tx w h hP2 (by omega)
  generalize textW r.tx y = X at *
  have HB : Hid (_) := (Below.refl w.heap.size w).alloc (Nat.le_refl _) (.cells #[.string r.n, .int .i64 r.ty, .int .i64 r.ttl, .int .i64 r.ad, .string r.tg, .string r.tx, .int .i64 r.se] 82)
  have W0 : Hid (_) := h.below HB.out
  have I0 : Hid (Ink b w (w.alloc (.cells #[.string r.n, .int .i64 r.ty, .int .i64 r.ttl, .int .i64 r.ad, .string r.tg, .string r.tx, .int .i64 r.se] 82))) := Ink.of_below HB.out h.lt
  have Hc : Hid (∀ w', Ink b (w.alloc (.cells #[.string r.n, .int .i64 r.ty, .int .i64 r.ttl, .int .i64 r.ad, .string r.tg, .string r.tx, .int .i64 r.se] 82)) w' → w'.cell? ⟨w.heap.size, 3, none⟩ = some (.int .i64 r.ad) ∧ w'.cell? ⟨w.heap.size, 4, none⟩ = some (.string r.tg) ∧ w'.cell? ⟨w.heap.size, 5, none⟩ = some (.string r.tx) ∧ w'.cell? ⟨w.heap.size, 6, none⟩ = some (.int .i64 r.se)) := fun w' hi => by
    have hx := (Boxed.new w r).ink hi (by have := h.lt; omega)
    exact ⟨hx.cell 3, hx.cell 4, hx.cell 5, hx.cell 6⟩
  obtain ⟨n, ty, ttl, ad, tg, tx, se⟩ := r
  simp only at ht
  subst ht
  simp only [rv] at *
  clear h hP hP2 HB
  go_enter Tryz.func76, Tryz.ntmps76
  go_wp2_with fail
  obtain ⟨q3, q4, q5, q6⟩ := Hc.out _ (Ink.refl _ _)
  generalize w.alloc (.cells #[.string n, .int .i64 16, .int .i64 ttl, .int .i64 ad, .string tg, .string tx, .int .i64 se] 82) = w0 at *
  have J0 : Hid (Ink b w0 w0) := Ink.refl _ _
  go_region_held3 (fun w' => w'.cell? ⟨w.heap.size, 5, none⟩ = some (.string tx)) (first | exact q5 | exact p5)
    (first | (go_at_call 70; refine (HC.out _ (W0.out.below (below_drewN (Below.refl w0.heap.size _) 1))).mono ?_; rintro e w1 ⟨rfl, hW1, hI1⟩; have I1 : Ink b w0 w1 := J0.out.trans ((Ink.of_below (below_drewN (Below.refl w0.heap.size _) 1) W0.out.lt).trans hI1); obtain ⟨p3, p4, p5, p6⟩ := Hc.out _ I1))
  have J1 : Hid (Ink b w0 w1) := I1
  have W1 : Hid (_) := hW1
  clear I1 hI1 hW1 HC W0 J0 q3 q4 q5 q6
  have q3 := p3; have q4 := p4; have q5 := p5; have q6 := p6; clear p3 p4 p5 p6
  go_wp2_with fail
  go_region_held3 (fun w' => w'.cell? ⟨w.heap.size, 5, none⟩ = some (.string tx)) (first | exact q5 | exact p5)
    (first | (go_at_call 73; refine (HT.out _ (W1.out.below (below_drewN (Below.refl w1.heap.size _) 1))).mono ?_; rintro e w2 ⟨rfl, hW2, hI2⟩; have I2 : Ink b w0 w2 := J1.out.trans ((Ink.of_below (below_drewN (Below.refl w1.heap.size _) 1) W1.out.lt).trans hI2); obtain ⟨p3, p4, p5, p6⟩ := Hc.out _ I2))
  have J2 : Hid (Ink b w0 w2) := I2
  have W2 : Hid (_) := hW2
  clear I2 hI2 hW2 HT W1 J1 q3 q4 q5 q6
  have q3 := p3; have q4 := p4; have q5 := p5; have q6 := p6; clear p3 p4 p5 p6
  clear q3 q4 q5 q6
  go_wp2
  go_end0
  exact ⟨rfl, W2.out, I0.out.trans J2.out⟩

set_option maxHeartbeats 2000000 in
theorem wdata_6 (b : Nat) (at_ : Int) (x : Wt) (r : Rec) (w : World) (h : Wr w b at_ true x) (hx : Fine x 9000 1048560) (hs : r.tg.size ≤ maxLen) (ha : x.rf = false → 0 ≤ at_ ∧ at_ ≤ 65535) (ht : r.ty = 6) (hr : 0 ≤ r.se ∧ r.se < 4294967296) (hL : Laid w) (hb0 : b ≠ 0) :
    Calls Tryz.prog 76 #[.pointer (some ⟨b, 0, none⟩), rv r] w fun e w' => e = .returned (.tuple #[]) ∧ Wr w' b at_ true (soaW at_ r x) ∧ Ink b w w' := by
  have F1 := hx.name at_ (bs r.tg)
  have F2 := F1.name at_ (bs r.tg)
  have hp := hx.p
  have hp1 := F1.p
  have HN1 : Hid (∀ w, Wr w b at_ true x → _) := fun w h => name_w b at_ true x r.tg w h ⟨by omega, by have := hx.q; omega, hx.l⟩ hs (fun hf => by have := ha hf; omega)
  have HN2 : Hid (∀ w, Wr w b at_ true (nameW at_ (bs r.tg) x) → _) := fun w h => name_w b at_ true (nameW at_ (bs r.tg) x) r.tg w h ⟨by omega, by have := F1.q; omega, F1.l⟩ hs (fun hf => by have := ha (nameW_ok hf).1; omega)
  have e1 : soaW at_ r x = numW 60 4 (numW 600 4 (numW 60 4 (numW 60 4 (numW r.se 4 (nameW at_ (bs r.tg) (nameW at_ (bs r.tg) x)))))) := rfl
  rw [e1]
  clear e1
  generalize nameW at_ (bs r.tg) x = y1 at *
  generalize nameW at_ (bs r.tg) y1 = y2 at *
  have HS : Hid (∀ w, Wr w b at_ true y2 → _) := fun w h => number_4w b at_ y2 r.se w h hr (by have := F2.p; omega)
  have F3 := F2.num r.se 4
  generalize numW r.se 4 y2 = y3 at *
  have H1 : Hid (∀ w, Wr w b at_ true y3 → _) := fun w h => number_4w b at_ y3 60 w h ⟨by omega, by omega⟩ (by have := F3.p; omega)
  have F4 := F3.num 60 4
  generalize numW 60 4 y3 = y4 at *
  have H2 : Hid (∀ w, Wr w b at_ true y4 → _) := fun w h => number_4w b at_ y4 60 w h ⟨by omega, by omega⟩ (by have := F4.p; omega)
  have F5 := F4.num 60 4
  generalize numW 60 4 y4 = y5 at *
  have H3 : Hid (∀ w, Wr w b at_ true y5 → _) := fun w h => number_4w b at_ y5 600 w h ⟨by omega, by omega⟩ (by have := F5.p; omega)
  have F6 := F5.num 600 4
  generalize numW 600 4 y5 = y6 at *
  have H4 : Hid (∀ w, Wr w b at_ true y6 → _) := fun w h => number_4w b at_ y6 60 w h ⟨by omega, by omega⟩ (by have := F6.p; omega)
  generalize numW 60 4 y6 = y7 at *
  have HB : Hid (_) := (Below.refl w.heap.size w).alloc (Nat.le_refl _) (.cells #[.string r.n, .int .i64 r.ty, .int .i64 r.ttl, .int .i64 r.ad, .string r.tg, .string r.tx, .int .i64 r.se] 82)
  have W0 : Hid (_) := h.below HB.out
  have I0 : Hid (Ink b w (w.alloc (.cells #[.string r.n, .int .i64 r.ty, .int .i64 r.ttl, .int .i64 r.ad, .string r.tg, .string r.tx, .int .i64 r.se] 82))) := Ink.of_below HB.out h.lt
  have Hc : Hid (∀ w', Ink b (w.alloc (.cells #[.string r.n, .int .i64 r.ty, .int .i64 r.ttl, .int .i64 r.ad, .string r.tg, .string r.tx, .int .i64 r.se] 82)) w' → w'.cell? ⟨w.heap.size, 3, none⟩ = some (.int .i64 r.ad) ∧ w'.cell? ⟨w.heap.size, 4, none⟩ = some (.string r.tg) ∧ w'.cell? ⟨w.heap.size, 5, none⟩ = some (.string r.tx) ∧ w'.cell? ⟨w.heap.size, 6, none⟩ = some (.int .i64 r.se)) := fun w' hi => by
    have hx := (Boxed.new w r).ink hi (by have := h.lt; omega)
    exact ⟨hx.cell 3, hx.cell 4, hx.cell 5, hx.cell 6⟩
  have L0 : Hid (Laid (w.alloc (.cells #[.string r.n, .int .i64 r.ty, .int .i64 r.ttl, .int .i64 r.ad, .string r.tg, .string r.tx, .int .i64 r.se] 82))) := hL.below HB.out
  obtain ⟨n, ty, ttl, ad, tg, tx, se⟩ := r
  simp only at ht
  subst ht
  simp only [rv] at *
  clear h F1 F2 F3 F4 F5 F6 hx hs ha hr hL hp hp1 HB
  have x0 := soa_at0
  have x1 := soa_at1
  have x2 := soa_at2
  have x3 := soa_at3
  go_enter Tryz.func76, Tryz.ntmps76
  go_wp2_with fail
  obtain ⟨q3, q4, q5, q6⟩ := Hc.out _ (Ink.refl _ _)
  generalize w.alloc (.cells #[.string n, .int .i64 6, .int .i64 ttl, .int .i64 ad, .string tg, .string tx, .int .i64 se] 82) = w0 at *
  have J0 : Hid (Ink b w0 w0) := Ink.refl _ _
  go_region_held3 (fun w' => w'.cell? ⟨w.heap.size, 4, none⟩ = some (.string tg)) (first | exact q4 | exact p4)
    (first | (go_at_call 72; refine (HN1.out _ (W0.out.below (below_drewN (Below.refl w0.heap.size _) 1))).mono ?_; rintro e w1 ⟨rfl, hW1, hI1⟩; have I1 : Ink b w0 w1 := J0.out.trans ((Ink.of_below (below_drewN (Below.refl w0.heap.size _) 1) W0.out.lt).trans hI1); obtain ⟨p3, p4, p5, p6⟩ := Hc.out _ I1))
  have J1 : Hid (Ink b w0 w1) := I1
  have W1 : Hid (_) := hW1
  clear I1 hI1 hW1 HN1 W0 J0 q3 q4 q5 q6
  have q3 := p3; have q4 := p4; have q5 := p5; have q6 := p6; clear p3 p4 p5 p6
  go_wp2_with fail
  go_region_held3 (fun w' => w'.cell? ⟨w.heap.size, 4, none⟩ = some (.string tg)) (first | exact q4 | exact p4)
    (first | (go_at_call 72; refine (HN2.out _ (W1.out.below (below_drewN (Below.refl w1.heap.size _) 1))).mono ?_; rintro e w2 ⟨rfl, hW2, hI2⟩; have I2 : Ink b w0 w2 := J1.out.trans ((Ink.of_below (below_drewN (Below.refl w1.heap.size _) 1) W1.out.lt).trans hI2); obtain ⟨p3, p4, p5, p6⟩ := Hc.out _ I2))
  have J2 : Hid (Ink b w0 w2) := I2
  have W2 : Hid (_) := hW2
  clear I2 hI2 hW2 HN2 W1 J1 q3 q4 q5 q6
  have q3 := p3; have q4 := p4; have q5 := p5; have q6 := p6; clear p3 p4 p5 p6
  go_wp2_with fail
  go_region_held3 (fun w' => w'.cell? ⟨w.heap.size, 6, none⟩ = some (.int .i64 se)) (first | exact q6 | exact p6)
    (first | (go_at_call 70; refine (HS.out _ (W2.out.below (below_drewN (Below.refl w2.heap.size _) 1))).mono ?_; rintro e w3 ⟨rfl, hW3, hI3⟩; have I3 : Ink b w0 w3 := J2.out.trans ((Ink.of_below (below_drewN (Below.refl w2.heap.size _) 1) W2.out.lt).trans hI3); obtain ⟨p3, p4, p5, p6⟩ := Hc.out _ I3))
  have J3 : Hid (Ink b w0 w3) := I3
  have W3 : Hid (_) := hW3
  clear I3 hI3 hW3 HS W2 J2 q3 q4 q5 q6
  have q3 := p3; have q4 := p4; have q5 := p5; have q6 := p6; clear p3 p4 p5 p6
  clear q3 q4 q5 q6
  obtain ⟨l0, l1, l2, l3⟩ := L0.out.ink J3.out hb0
  have hW3 := W3.out
  go_wp2_with fail
  refine wp_loop_rounds 5 ?_
  rw [rounds_succ]
  go_wp2_with fail
  refine (H1.out _ hW3).mono ?_; rintro e w4 ⟨rfl, hW4, hI4⟩
  clear l0 l1 l2 l3
  go_wp2_with fail
  rw [rounds_succ]
  go_wp2_with fail
  refine (H2.out _ hW4).mono ?_; rintro e w5 ⟨rfl, hW5, hI5⟩
  go_wp2_with fail
  rw [rounds_succ]
  go_wp2_with fail
  refine (H3.out _ hW5).mono ?_; rintro e w6 ⟨rfl, hW6, hI6⟩
  go_wp2_with fail
  rw [rounds_succ]
  go_wp2_with fail
  refine (H4.out _ hW6).mono ?_; rintro e w7 ⟨rfl, hW7, hI7⟩
  go_wp2_with fail
  rw [rounds_succ]
  go_wp2
  go_end0
  exact ⟨rfl, hW7, I0.out.trans (J3.out.trans (hI4.trans (hI5.trans (hI6.trans hI7))))⟩

theorem wdata_c (b : Nat) (at_ : Int) (x : Wt) (r : Rec) (w : World) (h : Wr w b at_ true x) (hx : Fine x 9000 1048560) (ha : x.rf = false → 0 ≤ at_ ∧ at_ ≤ 65535) (hm : mayR r = true) (hs : r.tg.size ≤ maxLen) (hL : Laid w) (hb0 : b ≠ 0) :
    Calls Tryz.prog 76 #[.pointer (some ⟨b, 0, none⟩), rv r] w fun e w' => e = .returned (.tuple #[]) ∧ Wr w' b at_ true (dataW at_ r x) ∧ Ink b w w' := by
  have hp := hx.p
  simp only [mayR, upB, Bool.and_eq_true, decide_eq_true_eq] at hm
  obtain ⟨⟨⟨⟨⟨⟨⟨ht, _⟩, _⟩, _⟩, had⟩, _⟩, hse⟩, htx⟩ := hm
  unfold dataW
  by_cases h1 : r.ty = 1
  · rw [if_pos h1]; exact wdata_1 b at_ x r w h (by omega) h1 ⟨by omega, by omega⟩
  · rw [if_neg h1]
    by_cases h2 : isN r.ty = true
    · rw [if_pos h2]; exact wdata_n b at_ x r w h ⟨by omega, by have := hx.q; omega, hx.l⟩ hs (fun hf => by have := ha hf; omega) h2
    · rw [if_neg h2]
      by_cases h3 : r.ty = 6
      · rw [if_pos h3]; exact wdata_6 b at_ x r w h hx hs ha h3 ⟨by omega, by omega⟩ hL hb0
      · rw [if_neg h3]
        by_cases h4 : r.ty = 16
        · rw [if_pos h4]; exact wdata_16 b at_ x r w h (by omega) h4 htx
        · rw [if_neg h4]
          refine wdata_49 b at_ x r w h (by omega) ?_ htx
          simp only [typeB, isT, Bool.or_eq_true, decide_eq_true_eq] at ht
          rcases ht with ((h | h) | h) | h | h
          · exact absurd h h1
          · exact absurd h h2
          · exact absurd h h3
          · exact absurd h h4
          · exact h

end Go.Proofs.YtdmooggmoihggaaGreatDoor

/-
  Contract of package rr's Put, at every record, place and known names.
-/
namespace Go.Proofs.YtdmooggmoihggaaGreatDoor
set_option maxRecDepth 100000
open Go.ChangeShapes Go.WideShapes Go.ChangeAt Go.RowKit Go.Pin Go.PlainAid

theorem put1_c (b c : Nat) (at_ : Int) (x : Wt) (r : Rec) (w : World) (h : Wr w b at_ true x) (hx : Fine x 9000 1048560) (ha : x.rf = false → 0 ≤ at_ ∧ at_ ≤ 65535) (hm : mayR r = true) (hs : r.tg.size ≤ maxLen) (hL : Laid w) (hb0 : b ≠ 0) (hb : Boxed w c r) :
    Calls Tryz.prog 75 #[.pointer (some ⟨b, 0, none⟩), .pointer (some ⟨c, 0, none⟩)] w fun e w' => e = .returned (.tuple #[]) ∧ Wr w' b at_ true (dataW at_ r x) ∧ Ink b w w' := by
  have HC : Hid (∀ w, Wr w b at_ true x → Laid w → _) := fun w h hL => wdata_c b at_ x r w h hx ha hm hs hL hb0
  generalize dataW at_ r x = X at *
  have c0 := hb.cell 0
  have c1 := hb.cell 1
  have c2 := hb.cell 2
  have c3 := hb.cell 3
  have c4 := hb.cell 4
  have c5 := hb.cell 5
  have c6 := hb.cell 6
  have hrv : Hid (rv r = .agg #[.string r.n, .int .i64 r.ty, .int .i64 r.ttl, .int .i64 r.ad, .string r.tg, .string r.tx, .int .i64 r.se]) := rfl
  clear hb hx ha hm hs
  simp at c0 c1 c2 c3 c4 c5 c6
  go_enter Tryz.func75, Tryz.ntmps75
  go_wp2_with fail
  rw [← hrv.out]
  refine (HC.out _ h hL).mono ?_; rintro e w1 ⟨rfl, hW, hI⟩
  go_wp2
  go_end0
  exact ⟨rfl, hW, hI⟩

/-! ### bytes laid over others -/
def over (P : List UInt8) (o : Nat) (s : List UInt8) : List UInt8 := P.take o ++ (s ++ P.drop (o + s.length))
theorem over_len (P : List UInt8) (o : Nat) (s : List UInt8) (h : o + s.length ≤ P.length) : (over P o s).length = P.length := by simp [over]; omega
theorem patch_list {α : Type} (c x : List α) (n o : Nat) (h : o + x.length ≤ n) (hn : n ≤ c.length) : (c.take o ++ x ++ c.drop (o + x.length)).take n = (c.take n).take o ++ (x ++ (c.take n).drop (o + x.length)) := by
  obtain ⟨A, B, rfl, hA⟩ : ∃ A B, c = A ++ B ∧ A.length = n := ⟨c.take n, c.drop n, (List.take_append_drop n c).symm, by simp; omega⟩
  subst hA
  have q1 : (A ++ B).take o = A.take o := List.take_append_of_le_length (by omega)
  have q2 : (A ++ B).drop (o + x.length) = A.drop (o + x.length) ++ B := List.drop_append_of_le_length (by omega)
  rw [q1, q2, List.take_left]
  have hl : (A.take o ++ x ++ A.drop (o + x.length)).length = A.length := by simp; omega
  rw [← List.append_assoc, List.take_append_of_le_length (by omega), ← hl, List.take_length]
  simp
theorem Bytes.patch {w : World} {base g n cap : Nat} {P : List UInt8} {cur : Array Value} {s : ByteArray} {o : Nat} (hn : n = P.length) (h : Bytes w base (.slice (some ⟨g, 0, none⟩) n cap) P) (hg : w.heap[g]? = some (.cells cur 5 (0, 0))) (ho : o + s.size ≤ P.length) :
    Bytes (w.setRow g (cur.toList.take o ++ Lib.byteCells s.data.toList ++ cur.toList.drop (o + s.size)).toArray) base (.slice (some ⟨g, 0, none⟩) n cap) (over P o (bs s)) := by
  subst hn
  obtain ⟨h1, h2 | ⟨g', cap', cur', hv, hb, hh, hn, hm, hz, ht⟩⟩ := h
  · cases h2.1
  · simp only [Value.slice.injEq, Option.some.injEq, Addr.mk.injEq, true_and, and_true] at hv
    obtain ⟨rfl, rfl⟩ := hv
    rw [hg] at hh
    simp only [Option.some.injEq, Obj.cells.injEq, and_true] at hh
    subst hh
    have hls : (bs s).length = s.size := length_bs s
    have hol := over_len P o (bs s) (by omega)
    have hbl : (Lib.byteCells s.data.toList).length = s.size := by rw [Lib.byteCells_length]; exact hls
    have hcl : cur.toList.length = cap := by simpa using hz
    have e1 : Lib.strCells (mk (over P o (bs s))) = (Lib.strCells (mk P)).take o ++ (Lib.byteCells s.data.toList ++ (Lib.strCells (mk P)).drop (o + s.size)) := by
      simp only [over, hls]
      simp [Lib.strCells, mk, Lib.byteCells, bs, List.map_take, List.map_drop]
    have e2 : ((cur.toList.take o ++ Lib.byteCells s.data.toList ++ cur.toList.drop (o + s.size))).take (P.length * 1) = Lib.strCells (mk (over P o (bs s))) := by
      rw [e1, ← ht, ← hbl]
      exact patch_list _ _ _ _ (by omega) (by omega)
    refine ⟨by rw [hol, ← e2]; simp; omega, .inr ⟨g, cap, _, by rw [hol], hb, setRow_heap w g cur _ 5 _ hg, by rw [hol]; exact hn, hm, ?_, ?_⟩⟩
    · simp; omega
    · rw [hol]; exact e2
theorem Wr.patch {w : World} {b : Nat} {at_ : Int} {P : List UInt8} {ks : List Kn} {rf : Bool} {g cap : Nat} {ka : Option Addr} {kcap : Nat} {cur : Array Value} {s : ByteArray} {o : Nat}
    (lt : b < w.heap.size) (c0 : w.cell? ⟨b, 0, none⟩ = some (.int .i64 at_)) (c1 : w.cell? ⟨b, 1, none⟩ = some (.slice (some ⟨g, 0, none⟩) P.length cap)) (c2 : w.cell? ⟨b, 2, none⟩ = some (.slice ka ks.length kcap)) (c3 : w.cell? ⟨b, 3, none⟩ = some (.bool rf))
    (h2 : Bytes w (b + 1) (.slice (some ⟨g, 0, none⟩) P.length cap) P) (h4 : KnLies w ka ks) (h5 : ∀ y, ka = some y → ks ≠ [] → y.block < b ∨ (y.block ≠ b ∧ ¬ isBytes w y.block)) (h6 : Knowns w (b + 1) (.slice ka ks.length kcap) ks) (fz : ∀ j, w.frozen? ⟨b, j, none⟩ = false)
    (hg : w.heap[g]? = some (.cells cur 5 (0, 0))) (ho : o + s.size ≤ P.length) :
    Wr (w.setRow g (cur.toList.take o ++ Lib.byteCells s.data.toList ++ cur.toList.drop (o + s.size)).toArray) b at_ true ⟨over P o (bs s), ks, rf⟩ ∧ Ink b w (w.setRow g (cur.toList.take o ++ Lib.byteCells s.data.toList ++ cur.toList.drop (o + s.size)).toArray) := by
  have hbg : b + 1 ≤ g := (h2.is (g := g) rfl).2
  have hP := h2.patch (o := o) (s := s) rfl hg ho
  have hol := over_len P o (bs s) (by rw [length_bs]; exact ho)
  generalize (cur.toList.take o ++ Lib.byteCells s.data.toList ++ cur.toList.drop (o + s.size)).toArray = N at *
  have hsame : ∀ k, k ≠ g → (w.setRow g N).heap[k]? = w.heap[k]? := fun k hk => setRow_other w g k N hk
  have hsz : (w.setRow g N).heap.size = w.heap.size := by simp [World.setRow]
  have hI : Ink b w (w.setRow g N) := ⟨⟨rfl, rfl, rfl, by omega, fun k hk => hsame k (by omega)⟩, fun c hl hc hn => hsame c (fun e => hn (by rw [e]; exact ⟨cur, _, hg⟩))⟩
  have hc : ∀ j, (w.setRow g N).cell? ⟨b, j, none⟩ = w.cell? ⟨b, j, none⟩ := fun j => World.cell?_of_block (hsame b (by omega))
  have hf : ∀ j, (w.setRow g N).frozen? ⟨b, j, none⟩ = w.frozen? ⟨b, j, none⟩ := fun j => World.frozen?_of_block (hsame b (by omega))
  refine ⟨⟨(hc 0).trans c0, (hc 3).trans c3, ⟨some ⟨g, 0, none⟩, cap, ka, kcap, by rw [hol]; exact (hc 1).trans c1, by rw [hol]; exact hP, (hc 2).trans c2, ?_, ?_, fun _ _ => h6.ink hI⟩, fun j => (hf j).trans (fz j), by omega⟩, hI⟩
  · refine h4.keep fun y hy hn => hsame _ ?_
    intro e
    subst hy
    rcases h5 y rfl hn with h | ⟨h, hh⟩
    · omega
    · exact hh (by rw [e]; exact ⟨cur, _, hg⟩)
  · intro y hy hn
    rcases h5 y hy hn with h | ⟨h, hh⟩
    · exact .inl h
    · refine .inr ⟨h, fun ⟨c', f, e⟩ => hh ⟨c', f, ?_⟩⟩
      rw [hsame _ (fun e2 => hh (by rw [e2]; exact ⟨cur, _, hg⟩))] at e; exact e

def countW (at_ : Int) (r : Rec) (x : Wt) : Wt :=
  let y := numW 0 2 x
  let z := dataW at_ r y
  if z.rf then z else { z with P := over z.P x.P.length (bs (be ((z.P.length : Int) - y.P.length) 2)) }
theorem nameW_rf {at_ : Int} {n : List UInt8} {x : Wt} (hx : x.rf = true) : (nameW at_ n x).rf = true := by simp [nameW, hx]
theorem dataW_rf {at_ : Int} {r : Rec} {x : Wt} (hx : x.rf = true) : (dataW at_ r x).rf = true := by
  unfold dataW
  repeat' split
  · rw [numW_rf]; exact hx
  · exact nameW_rf hx
  · unfold soaW; simp only [numW_rf]; exact nameW_rf (nameW_rf hx)
  · rw [textW_rf, numW_rf]; exact hx
  · rw [textW_rf]; exact hx
theorem dataW_len (at_ : Int) (r : Rec) (x : Wt) (h : r.tx.size ≤ 64) : ∃ D, (dataW at_ r x).P = x.P ++ D ∧ D.length ≤ 200 := by
  have hnum : ∀ (v : Int) (k : Nat) (x y : Wt) (m : Nat), k ≤ 4 → (∃ D, y.P = x.P ++ D ∧ D.length ≤ m) → ∃ D, (numW v k y).P = x.P ++ D ∧ D.length ≤ m + 4 := by
    rintro v k x y m hk ⟨D, hD, hl⟩
    unfold numW textW
    split
    · exact ⟨D, hD, by omega⟩
    · exact ⟨D ++ bs (be v k), by simp [hD], by simp [length_bs, size_be]; omega⟩
  have hname : ∀ (n : List UInt8) (x y : Wt) (m : Nat), (∃ D, y.P = x.P ++ D ∧ D.length ≤ m) → ∃ D, (nameW at_ n y).P = x.P ++ D ∧ D.length ≤ m + 73 := by
    rintro n x y m ⟨D, hD, hl⟩
    have h1 := putS_len y.ks (labsL n) (fun x hx => labsL_ok hx)
    have h2 := labsL_len n
    unfold nameW
    split
    · exact ⟨D, hD, by omega⟩
    · split
      · exact ⟨D ++ putS y.ks (labsL n), by simp [hD], by simp; omega⟩
      · exact ⟨D, hD, by omega⟩
  have h0 : ∀ x : Wt, ∃ D, x.P = x.P ++ D ∧ D.length ≤ 0 := fun x => ⟨[], by simp, by simp⟩
  have htext : ∀ (x y : Wt) (m : Nat), (∃ D, y.P = x.P ++ D ∧ D.length ≤ m) → ∃ D, (textW r.tx y).P = x.P ++ D ∧ D.length ≤ m + 64 := by
    rintro x y m ⟨D, hD, hl⟩
    unfold textW
    split
    · exact ⟨D, hD, by omega⟩
    · exact ⟨D ++ bs r.tx, by simp [hD], by simp [length_bs]; omega⟩
  have hmono : ∀ (P Q : List UInt8) (m n : Nat), m ≤ n → (∃ D, P = Q ++ D ∧ D.length ≤ m) → ∃ D, P = Q ++ D ∧ D.length ≤ n := fun P Q m n hmn ⟨D, h1, h2⟩ => ⟨D, h1, by omega⟩
  unfold dataW
  split
  · exact hmono _ _ _ _ (by omega) (hnum _ _ x x 0 (by omega) (h0 x))
  · split
    · exact hmono _ _ _ _ (by omega) (hname _ x x 0 (h0 x))
    · split
      · unfold soaW
        exact hmono _ _ _ _ (by omega) (hnum _ _ x _ _ (by omega) (hnum _ _ x _ _ (by omega) (hnum _ _ x _ _ (by omega) (hnum _ _ x _ _ (by omega) (hnum _ _ x _ _ (by omega) (hname _ x _ _ (hname _ x x 0 (h0 x))))))))
      · split
        · exact hmono _ _ _ _ (by omega) (htext x _ _ (hnum _ _ x x 0 (by omega) (h0 x)))
        · exact hmono _ _ _ _ (by omega) (htext x x 0 (h0 x))

set_option maxHeartbeats 2000000 in
theorem counted_w (b c : Nat) (at_ : Int) (x : Wt) (r : Rec) (w : World) (h : Wr w b at_ true x) (hx : Fine x 8000 1048550) (ha : x.rf = false → 0 ≤ at_ ∧ at_ ≤ 65535) (hm : mayR r = true) (hs : r.tg.size ≤ maxLen) (hL : Laid w) (hb0 : b ≠ 0) (hb : Boxed w c r) (hcb : c ≠ b) :
    Calls Tryz.prog 74 #[.pointer (some ⟨b, 0, none⟩), .func (.func 75) #[] #[.pointer (some ⟨b, 0, none⟩), .pointer (some ⟨c, 0, none⟩)]] w fun e w' => e = .returned (.tuple #[]) ∧ Wr w' b at_ true (countW at_ r x) ∧ Ink b w w' := by
  have hp := hx.p
  have F1 := hx.num 0 2
  have hz : r.tx.size ≤ 64 := by simp only [mayR, Bool.and_eq_true, decide_eq_true_eq] at hm; exact hm.2
  have HN : Hid (∀ w, Wr w b at_ true x → _) := fun w h => number_2w b at_ x 0 w h ⟨by omega, by omega⟩ (by omega)
  have HD : Hid (∀ w, Wr w b at_ true (numW 0 2 x) → Laid w → Boxed w c r → _) := fun w h hL hb => put1_c b c at_ (numW 0 2 x) r w h ⟨by have := F1.p; omega, by have := F1.q; omega, F1.l⟩ (fun hf => ha (by rw [numW_rf] at hf; exact hf)) hm hs hL hb0 hb
  have hl0 : (dataW at_ r (numW 0 2 x)).rf = false → (numW 0 2 x).P.length = x.P.length + 2 := fun hf => by
    cases hxr : x.rf with
    | true => rw [dataW_rf (by rw [numW_rf]; exact hxr)] at hf; cases hf
    | false => simp [numW, textW, hxr, length_bs, size_be]
  obtain ⟨D, hD, hDl⟩ := dataW_len at_ r (numW 0 2 x) hz
  have hl2 : (dataW at_ r (numW 0 2 x)).P.length = (numW 0 2 x).P.length + D.length := by rw [hD]; simp
  have hX : Hid (countW at_ r x = if (dataW at_ r (numW 0 2 x)).rf then dataW at_ r (numW 0 2 x) else { dataW at_ r (numW 0 2 x) with P := over (dataW at_ r (numW 0 2 x)).P x.P.length (bs (be (((dataW at_ r (numW 0 2 x)).P.length : Int) - (numW 0 2 x).P.length) 2)) }) := rfl
  have hpy := F1.p
  generalize countW at_ r x = X at *
  clear hD
  generalize dataW at_ r (numW 0 2 x) = z at *
  generalize numW 0 2 x = y at *
  obtain ⟨len, hlen⟩ : ∃ len, x.P.length = len := ⟨_, rfl⟩
  obtain ⟨ly, hly⟩ : ∃ len, y.P.length = len := ⟨_, rfl⟩
  generalize D.length = d at *
  have HP : Hid (∀ w, _) := fun w => put_2 (d : Int) w (by omega) (by omega)
  have hdd : (z.P.length : Int) - y.P.length = d := by omega
  rw [show (z.P.length : Int) - y.P.length = d from hdd] at hX
  have hsz : (be (d : Int) 2).size = 2 := size_be _ _
  generalize be (d : Int) 2 = S at *
  have HW : Hid (Wr w b at_ true x) := h
  have HL : Hid (Laid w) := hL
  have HBx : Hid (Boxed w c r) := hb
  have lt := h.lt
  obtain ⟨a, cap, _, _, c1, _⟩ := h.ex
  rw [hlen] at c1
  rw [hlen, hly] at hl0
  rw [hly] at hl2 hpy
  have Hl0 : Hid (z.rf = false → ly = len + 2) := hl0
  clear hx ha hm hs hz F1 h hL hb hdd hl0
  go_enter Tryz.func74, Tryz.ntmps74
  go_wp2_with fail
  refine (HN.out _ HW.out).mono ?_; rintro e w1 ⟨rfl, hW1, hI1⟩
  have L1 : Hid (_) := HL.out.ink hI1 hb0
  have B1 : Hid (_) := HBx.out.ink hI1 hcb
  have W1 : Hid (_) := hW1
  have I1 : Hid (_) := hI1
  obtain ⟨a1, cap1, _, _, d1, _⟩ := hW1.ex
  rw [hly] at d1
  clear hW1 hI1 c1 HW HL HBx
  go_wp2_with fail
  refine (HD.out _ W1.out L1.out B1.out).mono ?_; rintro e w2 ⟨rfl, hW2, hI2⟩
  have I2 : Hid (Ink b w w2) := I1.out.trans hI2
  clear L1 B1 W1 I1 hI2 d1 HD HN
  have W2 : Hid (Wr w2 b at_ true z) := hW2
  have lt2 := hW2.lt
  obtain ⟨a2, cap2, _, _, e1, _⟩ := hW2.ex
  rw [hl2] at e1
  clear hW2
  go_wp2_with fail
  rw [show ((ly : Int) + d - ly) = d by omega]
  refine (HP.out _).mono ?_; rintro e w3 ⟨rfl, hb3⟩
  have hW3 := W2.out.below hb3
  have I3 : Hid (Ink b w w3) := I2.out.trans (Ink.of_below hb3 lt2)
  clear HP hb3 W2 I2 e1 lt2
  cases hzr : z.rf
  · have e2 := Hl0.out hzr
    subst e2
    have hW4 := hW3.mark z.rf true (fun _ h2 => ⟨rfl, h2⟩)
    have k3 := hW3.c3
    have kf := hW3.fz 3
    rw [hzr] at hW4 hX k3
    simp only [Bool.false_eq_true, if_false] at hX
    have I4 : Hid (Ink b w (w3.setCell ⟨b, 3, none⟩ (.bool false))) := I3.out.trans (Ink.set _ _ _)
    obtain ⟨c0, c3, ⟨a3, cap3, ka, kcap, g1, h2, c2, h4, h5, h6⟩, fz, lt3⟩ := hW4
    have HK6 := h6 rfl rfl
    simp only at g1 h2 c2 h4 h5 c3 HK6
    clear hW3 h6
    obtain ⟨g, cur, rfl, hg, hcap, hcur⟩ : ∃ g cur, a3 = some ⟨g, 0, none⟩ ∧ (w3.setCell ⟨b, 3, none⟩ (.bool false)).heap[g]? = some (.cells cur 5 (0, 0)) ∧ z.P.length ≤ cap3 ∧ cur.size = cap3 := by
      obtain ⟨_, q | ⟨g', cap', cur', hv, hb, hh, hn, hm, hz, ht⟩⟩ := h2
      · have := q.2; omega
      · simp only [Value.slice.injEq, true_and] at hv
        obtain ⟨h1, rfl⟩ := hv
        exact ⟨g', cur', h1, hh, hn, by simpa using hz⟩
    have hp2 := Wr.patch (o := len) (s := S) lt3 c0 g1 c2 c3 h2 h4 h5 HK6 fz hg (by omega)
    have HF : Hid (_) := hp2
    clear hp2 h4 h5 HK6 fz h2 c0 c2
    rw [hl2] at g1
    have hq1 : (len : Int) ≤ (len + 2 + d : Nat) := by omega
    have hq2 : (len : Int) < cap3 := by omega
    go_wp2_with fail
    generalize (w3.setCell ⟨b, 3, none⟩ (.bool false)) = w4 at *
    have hs1 : (Tryz.prog.info? 5).map (·.size) = some 1 := by kernel_rfl
    rw [Lib.run_copy_row_string (P := Tryz.prog) w4 72 9 _ 5 g len _ _ S cur 5 Tryz.underlying72 hs1 hg (by omega) (by omega)]
    simp only [Result.andThen]
    rw [Oper.upon_value]
    generalize (w4.setRow g (cur.toList.take len ++ Lib.byteCells S.data.toList ++ cur.toList.drop (len + S.size)).toArray) = w5 at *
    go_wp2
    go_end0
    refine ⟨rfl, ?_, I4.out.trans HF.out.2⟩
    rw [hX.out, hlen]
    exact HF.out.1
  · have hW4 : Hid (_) := hW3.mark z.rf true (fun _ h2 => ⟨rfl, h2⟩)
    have k3 := hW3.c3
    have kf := hW3.fz 3
    rw [hzr] at hW4 hX k3
    simp only [if_true] at hX
    clear hW3
    go_wp2
    go_end0
    refine ⟨rfl, ?_, I3.out.trans (Ink.set _ _ _)⟩
    rw [hX.out]
    have := hW4.out
    rw [show ({ P := z.P, ks := z.ks, rf := true } : Wt) = z by rw [← hzr]] at this
    exact this

/-! ### Put -/
def putW (at_ : Int) (ks : List Kn) (r : Rec) : Wt := countW at_ r (numW r.ttl 4 (numW 1 2 (numW r.ty 2 (nameW at_ (bs r.n) ⟨[], ks, false⟩))))
/-- What Put answers. -/
def putRec (at_ : Int) (ks : List Kn) (r : Rec) : Option (List UInt8 × List Kn) := if mayR r then if (putW at_ ks r).rf then none else some ((putW at_ ks r).P, (putW at_ ks r).ks) else none

theorem rput_may (at_ : Int) (v : Value) (r : Rec) (w : World) (hn : r.n.size ≤ maxLen) (ht : r.tg.size ≤ maxLen) (hm : mayR r = false) :
    Calls Tryz.prog 42 #[.int .i64 at_, v, rv r] w fun e w' => e = .returned (.tuple #[.string ⟨#[]⟩, .slice none 0 0, .int .i64 400]) ∧ Below w.heap.size w w' := by
  have HM : Hid (∀ w, _) := fun w => rrMay_c r w hn ht
  rw [hm] at HM
  obtain ⟨n, ty, ttl, ad, tg, tx, se⟩ := r
  simp only [rv] at *
  clear hn ht hm
  go_enter Tryz.func42, Tryz.ntmps42
  go_wp2_with fail
  refine (HM.out _).mono ?_; rintro e w1 ⟨rfl, hb1⟩
  have B1 : Hid (Below w.heap.size w w1) := bel_trans ((Below.refl _ _).alloc (Nat.le_refl _) _) hb1
  clear hb1
  go_wp2
  go_ret3
  exact ⟨rfl, B1.out⟩

theorem mayR_ty {r : Rec} (h : mayR r = true) : 0 ≤ r.ty ∧ r.ty < 65536 ∧ 0 ≤ r.ttl ∧ r.ttl ≤ 1048576 := by
  simp only [mayR, upB, typeB, isN, isT, Bool.and_eq_true, Bool.or_eq_true, decide_eq_true_eq] at h
  omega

set_option maxHeartbeats 2000000 in
theorem rput_on (at_ : Int) (a : Option Addr) (cap : Nat) (ks : List Kn) (r : Rec) (w : World) (hn : r.n.size ≤ maxLen) (ht : r.tg.size ≤ maxLen) (hm : mayR r = true) (hat : -9223372036854775808 ≤ at_ ∧ at_ ≤ 9223372036854775807) (hq : ks.length ≤ 1048500) (hl : ∀ k ∈ ks, k.1.length ≤ maxLen) (hk : KnLies w a ks) (hL : Laid w) :
    Calls Tryz.prog 42 #[.int .i64 at_, .slice a ks.length cap, rv r] w fun e w' => ((putW at_ ks r).rf = true → e = .returned (.tuple #[.string ⟨#[]⟩, .slice none 0 0, .int .i64 400])) ∧ ((putW at_ ks r).rf = false → ∃ v, e = .returned (.tuple #[.string (mk (putW at_ ks r).P), v, .int .i64 0]) ∧ Knowns w' w.heap.size v (putW at_ ks r).ks) ∧ Below w.heap.size w w' := by
  have HM : Hid (∀ w, _) := fun w => rrMay_c r w hn ht
  rw [hm] at HM
  have hty := mayR_ty hm
  have F0 : Fine ⟨[], ks, false⟩ 0 1048500 := ⟨by simp, hq, hl⟩
  have F1 := F0.name at_ (bs r.n)
  have HN : Hid (∀ b w, Wr w b at_ false ⟨[], ks, false⟩ → _) := fun b w h => name_w b at_ false ⟨[], ks, false⟩ r.n w h ⟨by simp, by simp only; omega, hl⟩ hn (fun _ => by simpa using hat)
  have hrf : (nameW at_ (bs r.n) ⟨[], ks, false⟩).rf = false → 0 ≤ at_ ∧ at_ ≤ 65535 := fun h => by
    have := (nameW_ok h).2.1
    simp only [mayPutL, Bool.and_eq_true, decide_eq_true_eq, List.length_nil] at this
    omega
  have e1 : putW at_ ks r = countW at_ r (numW r.ttl 4 (numW 1 2 (numW r.ty 2 (nameW at_ (bs r.n) ⟨[], ks, false⟩)))) := rfl
  rw [e1]
  clear e1
  generalize nameW at_ (bs r.n) ⟨[], ks, false⟩ = x1 at *
  have H1 : Hid (∀ b w, Wr w b at_ true x1 → _) := fun b w h => number_2w b at_ x1 r.ty w h ⟨hty.1, hty.2.1⟩ (by have := F1.p; omega)
  have F2 := F1.num r.ty 2
  have hrf2 : (numW r.ty 2 x1).rf = false → 0 ≤ at_ ∧ at_ ≤ 65535 := fun h => hrf (by rw [numW_rf] at h; exact h)
  generalize numW r.ty 2 x1 = x2 at *
  have H2 : Hid (∀ b w, Wr w b at_ true x2 → _) := fun b w h => number_2w b at_ x2 1 w h ⟨by omega, by omega⟩ (by have := F2.p; omega)
  have F3 := F2.num 1 2
  have hrf3 : (numW 1 2 x2).rf = false → 0 ≤ at_ ∧ at_ ≤ 65535 := fun h => hrf2 (by rw [numW_rf] at h; exact h)
  generalize numW 1 2 x2 = x3 at *
  have H3 : Hid (∀ b w, Wr w b at_ true x3 → _) := fun b w h => number_4w b at_ x3 r.ttl w h ⟨by omega, by omega⟩ (by have := F3.p; omega)
  have F4 := F3.num r.ttl 4
  have hrf4 : (numW r.ttl 4 x3).rf = false → 0 ≤ at_ ∧ at_ ≤ 65535 := fun h => hrf3 (by rw [numW_rf] at h; exact h)
  generalize numW r.ttl 4 x3 = x4 at *
  have H4 : Hid (∀ b c w, Wr w b at_ true x4 → Laid w → b ≠ 0 → Boxed w c r → c ≠ b → _) := fun b c w h hL h0 hB hc => counted_w b c at_ x4 r w h ⟨by have := F4.p; omega, by have := F4.q; omega, F4.l⟩ hrf4 hm ht hL h0 hB hc
  generalize countW at_ r x4 = X at *
  have hmf : ∀ (fn : Fn) (first cap : Array Value) (w : World), (Instr.makeFunc fn first cap).run Tryz.prog w = .ok (.func fn first cap) w := fun _ _ _ _ => rfl
  have BX : Hid (Boxed (w.alloc (.cells #[.string r.n, .int .i64 r.ty, .int .i64 r.ttl, .int .i64 r.ad, .string r.tg, .string r.tx, .int .i64 r.se] 82)) w.heap.size r) := Boxed.new w r
  have hcell : Hid (∀ w', Boxed w' w.heap.size r → w'.cell? ⟨w.heap.size, 0, none⟩ = some (.string r.n) ∧ w'.cell? ⟨w.heap.size, 1, none⟩ = some (.int .i64 r.ty) ∧ w'.cell? ⟨w.heap.size, 2, none⟩ = some (.int .i64 r.ttl)) := fun w' h => ⟨h.cell 0, h.cell 1, h.cell 2⟩
  have hbel : Hid (∀ w' w'', Boxed w' w.heap.size r → Below w'.heap.size w' w'' → Boxed w'' w.heap.size r) := fun w' w'' h1 h2 => h1.below h2
  have hink : Hid (∀ b w' w'', w.heap.size < b → Boxed w' w.heap.size r → Ink b w' w'' → Boxed w'' w.heap.size r) := fun b w' w'' h0 h1 h2 => h1.ink h2 (by omega)
  have hL0 : Hid (Laid w) := hL
  have lt0 := hL.lt
  have hK0 : Hid (KnLies w a ks) := hk
  obtain ⟨n, ty, ttl, ad, tg, tx, se⟩ := r
  simp only [rv] at *
  clear hn ht hm hty F0 F1 F2 F3 F4 hrf hrf2 hrf3 hrf4 hat hq hl hk hL
  go_enter Tryz.func42, Tryz.ntmps42
  go_wp2_with fail
  refine (HM.out _).mono ?_; rintro e wa ⟨rfl, hba⟩
  have hsa := hba.size
  simp at hsa
  have Ba : Hid (Below w.heap.size w wa) := bel_trans ((Below.refl _ _).alloc (Nat.le_refl _) _) hba
  have Xa : Hid (_) := hbel.out _ _ BX.out hba
  obtain ⟨c0, c1, c2⟩ := hcell.out _ Xa.out
  have hla : w.heap.size < wa.heap.size := by omega
  clear hba BX
  go_wp2_with fail
  refine (from_g at_ a ks.length cap _).mono ?_; rintro e w1 ⟨rfl, hb1⟩
  have hs1' := hb1.size
  have B1 : Hid (Below w.heap.size w w1) := bel_trans Ba.out hb1
  have X1 : Hid (_) := hbel.out _ _ Xa.out hb1
  clear c0 c1 c2 Ba Xa hb1
  obtain ⟨c0, c1, c2⟩ := hcell.out _ X1.out
  have hl1 : w.heap.size < w1.heap.size := by omega
  clear hla hsa hs1'
  have hb0 : w1.heap.size ≠ 0 := by omega
  have HA : Below w1.heap.size w1 (w1.alloc (.cells #[.int .i64 at_, .slice none 0 0, .slice a ks.length cap, .bool false] 116)) := (Below.refl _ _).alloc (Nat.le_refl _) _
  have WR : Hid (Wr (w1.alloc (.cells #[.int .i64 at_, .slice none 0 0, .slice a ks.length cap, .bool false] 116)) w1.heap.size at_ false ⟨[], ks, false⟩) := by
    refine ⟨new_cell _ _ _ _ _ rfl, new_cell _ _ _ _ _ rfl, ⟨none, 0, a, cap, new_cell _ _ _ _ _ rfl, Bytes.nil _ _, new_cell _ _ _ _ _ rfl, (hK0.out.below B1.out).below HA, fun y hy hn => .inl ?_, fun h => by cases h⟩, fun _ => new_frozen _ _ _ _, by simp⟩
    subst hy
    have := hK0.out.lt hn
    omega
  have X2 : Hid (_) := hbel.out _ _ X1.out HA
  have L2 : Hid (Laid (w1.alloc (.cells #[.int .i64 at_, .slice none 0 0, .slice a ks.length cap, .bool false] 116))) := (hL0.out.below B1.out).below HA
  have B2 : Hid (Below w.heap.size w (w1.alloc (.cells #[.int .i64 at_, .slice none 0 0, .slice a ks.length cap, .bool false] 116))) := B1.out.trans (HA.mono (by omega))
  clear X1 B1 HA hL0
  go_wp2_with fail
  generalize w1.alloc (.cells #[.int .i64 at_, .slice none 0 0, .slice a ks.length cap, .bool false] 116) = w2 at *
  clear c0 c1 c2
  refine (HN.out _ _ WR.out).mono ?_; rintro e w3 ⟨rfl, hW3, hI3⟩
  have X3 : Hid (_) := hink.out _ _ _ hl1 X2.out hI3
  obtain ⟨c0, c1, c2⟩ := hcell.out _ X3.out
  have I3 : Hid (Ink w1.heap.size w2 w3) := hI3
  clear hI3 X2 WR HN
  go_wp2_with fail
  refine (H1.out _ _ hW3).mono ?_; rintro e w4 ⟨rfl, hW4, hI4⟩
  have X4 : Hid (_) := hink.out _ _ _ hl1 X3.out hI4
  have I4 : Hid (Ink w1.heap.size w2 w4) := I3.out.trans hI4
  clear hI4 X3 I3 H1 hW3 c0 c1 c2
  obtain ⟨c0, c1, c2⟩ := hcell.out _ X4.out
  go_wp2_with fail
  refine (H2.out _ _ hW4).mono ?_; rintro e w5 ⟨rfl, hW5, hI5⟩
  have X5 : Hid (_) := hink.out _ _ _ hl1 X4.out hI5
  have I5 : Hid (Ink w1.heap.size w2 w5) := I4.out.trans hI5
  clear hI5 X4 I4 H2 hW4 c0 c1 c2
  obtain ⟨c0, c1, c2⟩ := hcell.out _ X5.out
  go_wp2_with fail
  refine (H3.out _ _ hW5).mono ?_; rintro e w6 ⟨rfl, hW6, hI6⟩
  have X6 : Hid (_) := hink.out _ _ _ hl1 X5.out hI6
  have I6 : Hid (Ink w1.heap.size w2 w6) := I5.out.trans hI6
  clear hI6 X5 I5 H3 hW5 c0 c1 c2
  go_wp2_with fail
  refine (H4.out _ _ _ hW6 (L2.out.ink I6.out hb0) hb0 X6.out (by omega)).mono ?_; rintro e w7 ⟨rfl, hW7, hI7⟩
  have B7 : Hid (Below w.heap.size w w7) := B2.out.trans ((I6.out.trans hI7).bel.mono (by omega))
  clear X6 hW6 I6 hI7 B2 L2 H4 hcell hink hbel HM
  have W7 : Hid (Wr w7 w1.heap.size at_ true X) := hW7
  obtain ⟨_, _, ⟨a7, cap7, ka, kcap, c1, _, c2, _, _, h6⟩, _, lt7⟩ := hW7
  have H6 : Hid (X.rf = false → Knowns w7 (w1.heap.size + 1) (.slice ka X.ks.length kcap) X.ks) := h6 rfl
  clear h6 c1
  have HO : Hid (∀ w, Wr w w1.heap.size at_ true X → _) := fun w h => ok_g w1.heap.size at_ true X w h
  have HG : Hid (∀ w, Wr w w1.heap.size at_ true X → _) := fun w h => given_g w1.heap.size at_ true X w h
  go_wp2_with fail
  refine (HO.out _ W7.out).mono ?_; rintro e w8 ⟨rfl, rfl⟩
  cases hrf : X.rf
  · have K7 : Hid (Knowns w8 (w1.heap.size + 1) (.slice ka X.ks.length kcap) X.ks) := H6.out hrf
    go_wp2_with fail
    refine (HG.out _ W7.out).mono ?_; rintro e w8 ⟨rfl, rfl⟩
    go_wp2_with fail
    refine (known_g _ _ _ c2).mono ?_; rintro e w8 ⟨rfl, rfl⟩
    go_wp2
    go_ret3
    exact ⟨(fun h => by rw [hrf] at h; cases h), fun _ => ⟨_, rfl, K7.out.base (show w.heap.size ≤ w1.heap.size + 1 by omega)⟩, B7.out⟩
  · go_wp2
    go_ret3
    exact ⟨fun _ => rfl, (fun h => by rw [hrf] at h; cases h), B7.out⟩

/-- Put, at every record, place and known names. -/
theorem rrPut_c (at_ : Int) (a : Option Addr) (n cap : Nat) (ks : List Kn) (r : Rec) (w : World) (hn : n = ks.length) (h1 : r.n.size ≤ maxLen) (h2 : r.tg.size ≤ maxLen) (hat : -9223372036854775808 ≤ at_ ∧ at_ ≤ 9223372036854775807) (hq : ks.length ≤ 1048500) (hl : ∀ k ∈ ks, k.1.length ≤ maxLen) (hk : KnLies w a ks) (hL : Laid w) :
    Calls Tryz.prog 42 #[.int .i64 at_, .slice a n cap, rv r] w fun e w' => (match putRec at_ ks r with | none => e = .returned (.tuple #[.string ⟨#[]⟩, .slice none 0 0, .int .i64 400]) | some (P, ks') => ∃ v, e = .returned (.tuple #[.string (mk P), v, .int .i64 0]) ∧ Knowns w' w.heap.size v ks') ∧ Below w.heap.size w w' := by
  subst hn
  unfold putRec
  cases hm : mayR r with
  | false => exact rput_may at_ _ r w h1 h2 hm
  | true =>
    refine (rput_on at_ a cap ks r w h1 h2 hm hat hq hl hk hL).mono fun e w' ⟨g1, g2, g3⟩ => ⟨?_, g3⟩
    cases hr : (putW at_ ks r).rf with
    | true => simpa using g1 hr
    | false => simpa using g2 hr

end Go.Proofs.YtdmooggmoihggaaGreatDoor
