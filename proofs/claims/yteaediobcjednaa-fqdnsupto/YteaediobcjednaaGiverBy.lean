/-
  Contracts of package giver's By: a part put by a function that tells its bytes and what is known then.
-/
import Derived.Test.YteaediobcjednaaGiver
import Derived.Deep.RegionHeld3
namespace Go.Proofs.Yteaediobcjednaa
set_option maxRecDepth 100000
open Go.ChangeShapes Go.WideShapes Go.ChangeAt Go.RowKit Go.Pin Go.PlainAid

theorem Knowns.lies' {w : World} {base : Nat} {ka : Option Addr} {kcap : Nat} {ks : List Kn} (h : Knowns w base (.slice ka ks.length kcap) ks) : KnLies w ka ks := by
  obtain ⟨a, c, e, hl⟩ := h.lies
  simp only [Value.slice.injEq, true_and] at e
  rw [e.1]; exact hl

/-! ### By, of string -/
theorem byS_skip (b : Nat) (at_ : Int) (G : Bool) (x : Wt) (f v : Value) (w : World) (h : Wr w b at_ G x) (hf : x.rf = true) :
    Calls Try.prog 30 #[.pointer (some ⟨b, 0, none⟩), f, v] w fun e w' => e = .returned (.tuple #[]) ∧ w' = w := by
  have c3 := h.c3
  rw [hf] at c3
  clear h
  go_enter Try.func30, Try.ntmps30
  go_wp2
  exact bodyPost_ret (v := .tuple #[]) (by simp [results, Try.results30, go_sem]) rfl ⟨rfl, rfl⟩

set_option maxHeartbeats 400000 in
theorem byS_ok (b : Nat) (at_ : Int) (G : Bool) (x : Wt) (s : ByteArray) (B : ByteArray) (ks' : List Kn) (w : World) (h : Wr w b at_ G x) (hf : x.rf = false) (hP : x.P.length ≤ 100000) (hB : B.size ≤ 1000) (ha : -9223372036854775808 ≤ at_ + x.P.length ∧ at_ + x.P.length ≤ 9223372036854775807)
    (HC : ∀ ka kcap w', Below w.heap.size w w' → KnLies w' ka x.ks → Calls Try.prog 31 #[.int .i64 (at_ + x.P.length), .slice ka x.ks.length kcap, .string s] w' fun e w'' => (∃ v, e = .returned (.tuple #[.string B, v, .int .i64 0]) ∧ Knowns w'' w'.heap.size v ks') ∧ Below w'.heap.size w' w'') :
    Calls Try.prog 30 #[.pointer (some ⟨b, 0, none⟩), .func (.func 31) #[] #[], .string s] w fun e w' => e = .returned (.tuple #[]) ∧ Wr w' b at_ true ⟨x.P ++ bs B, ks', false⟩ ∧ Ink b w w' := by
  have HC' : Hid (_) := HC
  have HT : Hid (∀ w, Wr w b at_ G x → _) := fun w h => text_put b at_ G x B w h hf hP (by omega)
  clear HC hB
  generalize x.P ++ bs B = Q at *
  have H0 : Hid (Wr w b at_ G x) := h
  obtain ⟨c0, c3, ⟨a, cap, ka, kcap, c1, h2, c2, h4, h5, h6⟩, fz, lt⟩ := h
  rw [hf] at c3
  have H4 : Hid (KnLies w ka x.ks) := h4
  obtain ⟨ha1, ha2⟩ := ha
  have hsum : IntKind.i64.wrap (at_ + (x.P.length : Int)) = at_ + x.P.length := IntWalk.i64_in _ ⟨ha1, ha2⟩
  clear h4 fz h5 h6 h2
  go_enter Try.func30, Try.ntmps30
  go_wp2_with fail
  go_region_held3 (fun w' => w'.cell? ⟨b, 0, none⟩ = some (.int .i64 at_) ∧ w'.cell? ⟨b, 1, none⟩ = some (.slice a x.P.length cap) ∧ w'.cell? ⟨b, 2, none⟩ = some (.slice ka x.ks.length kcap)) (first | exact ⟨c0, c1, c2⟩ | exact ⟨g0, g1, g2⟩)
    (first | (go_at_call 31; refine (HC'.out _ _ _ (below_drewN (Below.refl w.heap.size _) 1) ?_).mono ?_; (exact H4.out.below (below_drewN (Below.refl w.heap.size _) 1)); rintro e w1 ⟨⟨v, rfl, hkn⟩, hb1⟩; have hb1' : Below w.heap.size w w1 := bel_trans (below_drewN (Below.refl w.heap.size _) 1) hb1; have g0 := (hb1'.cell (p := ⟨b, 0, none⟩) lt).trans c0; have g1 := (hb1'.cell (p := ⟨b, 1, none⟩) lt).trans c1; have g2 := (hb1'.cell (p := ⟨b, 2, none⟩) lt).trans c2))
  have B1 : Hid (Ink b w w1) := Ink.of_below hb1' lt
  obtain ⟨ka2, kcap2, rfl, _⟩ := hkn.lies
  have HK6 : Hid (Knowns w1 (b + 1) (.slice ka2 ks'.length kcap2) ks') := hkn.base (show b + 1 ≤ w.drew.heap.size from lt)
  have W1 : Hid (_) := H0.out.below hb1'
  clear hkn hb1 hb1' c0 c1 c2 c3 H4 HC' lt H0 g0 g1 g2
  go_wp2_with fail
  refine (HT.out _ W1.out).mono ?_; rintro e w2 ⟨rfl, hW2, hI2⟩
  have K2 := HK6.out.ink hI2
  have W3 : Hid (_) := hW2.knows (K2.lies') (fun y hy hn => K2.apart (show b < b + 1 by omega) _ _ y rfl hy hn) K2
  have B3 : Hid (Ink b w (w2.setCell ⟨b, 2, none⟩ (.slice ka2 ks'.length kcap2))) := B1.out.trans (hI2.trans (Ink.set _ _ _))
  obtain ⟨_, _, ⟨_, _, _, _, _, _, d2, _, _, _⟩, fq, _⟩ := hW2
  have f2 := fq 2
  simp only at d2
  clear fq K2 HK6 hI2 B1 W1 HT
  go_wp2
  go_end0
  exact ⟨rfl, W3.out, B3.out⟩

set_option maxHeartbeats 400000 in
theorem byS_no (b : Nat) (at_ : Int) (G : Bool) (x : Wt) (s : ByteArray) (er : Int) (w : World) (h : Wr w b at_ G x) (hf : x.rf = false) (ha : -9223372036854775808 ≤ at_ + x.P.length ∧ at_ + x.P.length ≤ 9223372036854775807) (her : (er != 0) = true)
    (HC : ∀ ka kcap w', Below w.heap.size w w' → KnLies w' ka x.ks → Calls Try.prog 31 #[.int .i64 (at_ + x.P.length), .slice ka x.ks.length kcap, .string s] w' fun e w'' => e = .returned (.tuple #[.string ⟨#[]⟩, .slice none 0 0, .int .i64 er]) ∧ Below w'.heap.size w' w'') :
    Calls Try.prog 30 #[.pointer (some ⟨b, 0, none⟩), .func (.func 31) #[] #[], .string s] w fun e w' => e = .returned (.tuple #[]) ∧ Wr w' b at_ true { x with rf := true } ∧ Ink b w w' := by
  have HC' : Hid (_) := HC
  clear HC
  have H0 : Hid (Wr w b at_ G x) := h
  obtain ⟨c0, c3, ⟨a, cap, ka, kcap, c1, h2, c2, h4, h5, h6⟩, fz, lt⟩ := h
  rw [hf] at c3
  have H4 : Hid (KnLies w ka x.ks) := h4
  obtain ⟨ha1, ha2⟩ := ha
  have hsum : IntKind.i64.wrap (at_ + (x.P.length : Int)) = at_ + x.P.length := IntWalk.i64_in _ ⟨ha1, ha2⟩
  clear h4 fz h5 h6 h2
  go_enter Try.func30, Try.ntmps30
  go_wp2_with fail
  go_region_held3 (fun w' => w'.cell? ⟨b, 0, none⟩ = some (.int .i64 at_) ∧ w'.cell? ⟨b, 1, none⟩ = some (.slice a x.P.length cap) ∧ w'.cell? ⟨b, 2, none⟩ = some (.slice ka x.ks.length kcap)) (first | exact ⟨c0, c1, c2⟩ | exact ⟨g0, g1, g2⟩)
    (first | (go_at_call 31; refine (HC'.out _ _ _ (below_drewN (Below.refl w.heap.size _) 1) ?_).mono ?_; (exact H4.out.below (below_drewN (Below.refl w.heap.size _) 1)); rintro e w1 ⟨rfl, hb1⟩; have hb1' : Below w.heap.size w w1 := bel_trans (below_drewN (Below.refl w.heap.size _) 1) hb1; have g0 := (hb1'.cell (p := ⟨b, 0, none⟩) lt).trans c0; have g1 := (hb1'.cell (p := ⟨b, 1, none⟩) lt).trans c1; have g2 := (hb1'.cell (p := ⟨b, 2, none⟩) lt).trans c2))
  have B1 : Hid (Ink b w w1) := Ink.of_below hb1' lt
  have W1 := H0.out.below hb1'
  have W2 : Hid (_) := W1.mark true true (fun _ h => by cases h)
  have d3 := W1.c3
  have f3 := W1.fz 3
  rw [hf] at d3
  clear hb1 hb1' c0 c1 c2 c3 H4 HC' lt H0 g0 g1 g2 W1
  go_wp2
  refine bodyPost_ret (v := .tuple #[]) (by simp [results, Try.results30, go_sem]) rfl ⟨rfl, W2.out, B1.out.trans (Ink.set _ _ _)⟩

/-! ### names -/
theorem name_g (b : Nat) (at_ : Int) (G : Bool) (x : Wt) (s : ByteArray) (w : World) (h : Wr w b at_ G x) (hP : x.P.length ≤ 100000) (hq : x.ks.length ≤ 1048576) (hl : ∀ k ∈ x.ks, k.1.length ≤ maxLen) (hs : s.size ≤ maxLen) (ha : x.rf = false → -9223372036854775808 ≤ at_ + x.P.length ∧ at_ + x.P.length ≤ 9223372036854775807) :
    Calls Try.prog 15 #[.pointer (some ⟨b, 0, none⟩), .string s] w fun e w' => e = .returned (.tuple #[]) ∧ Wr w' b at_ true (nameW at_ (bs s) x) ∧ Ink b w w' := by
  have HC0 : Calls Try.prog 30 #[.pointer (some ⟨b, 0, none⟩), .func (.func 31) #[] #[], .string s] w fun e w' => e = .returned (.tuple #[]) ∧ Wr w' b at_ true (nameW at_ (bs s) x) ∧ Ink b w w' := by
    unfold nameW
    cases hf : x.rf with
    | true => exact (byS_skip b at_ G x _ _ w h hf).mono fun e w' ⟨h1, h2⟩ => ⟨h1, by rw [h2]; simpa using h.refused hf, by rw [h2]; exact Ink.refl _ _⟩
    | false =>
      cases hm : mayPutL (at_ + x.P.length) x.ks (bs s) with
      | true =>
        have := byS_ok b at_ G x s (mk (putS x.ks (labsL (bs s)))) _ w h hf hP (by
          have := putS_len x.ks (labsL (bs s)) (fun x hx => labsL_ok hx)
          have := labsL_len (bs s)
          rw [size_mk]; omega) (ha hf) (fun ka kcap w' _ hk => wput_ok _ ka kcap x.ks s w' hs hq hl hk hm)
        rw [bs_mk] at this
        simpa using this
      | false =>
        have := byS_no b at_ G x s 300 w h hf (ha hf) rfl (fun ka kcap w' _ hk => wput_no _ ka kcap x.ks s w' hs (by omega) hl hk hm)
        simpa using this
  generalize nameW at_ (bs s) x = X at *
  clear h hP hq hl hs ha
  go_enter Try.func15, Try.ntmps15
  go_wp2_with fail
  refine HC0.mono ?_; rintro e w1 ⟨rfl, hT, hb⟩
  go_wp2
  go_end0
  exact ⟨rfl, hT, hb⟩

/-! ### what is asked -/
theorem from_g (at_ : Int) (a : Option Addr) (n cap : Nat) (w : World) : Calls Try.prog 13 #[.int .i64 at_, .slice a n cap] w fun e w' => e = .returned (.agg #[.int .i64 at_, .slice none 0 0, .slice a n cap, .bool false]) ∧ Below w.heap.size w w' := by
  go_enter Try.func13, Try.ntmps13
  go_wp2
  refine bodyPost_ret (v := .agg #[.int .i64 at_, .slice none 0 0, .slice a n cap, .bool false]) (by simp [results, Try.results13, go_sem]) rfl ⟨rfl, (Below.refl _ _).alloc (Nat.le_refl _) _⟩
theorem ok_g (b : Nat) (at_ : Int) (G : Bool) (x : Wt) (w : World) (h : Wr w b at_ G x) : Calls Try.prog 17 #[.pointer (some ⟨b, 0, none⟩)] w fun e w' => e = .returned (.bool (!x.rf)) ∧ w' = w := by
  have c3 := h.c3
  clear h
  go_enter Try.func17, Try.ntmps17
  go_wp2
  go_ret
  exact ⟨rfl, rfl⟩
theorem strCells_map (P : List UInt8) : Lib.strCells (mk P) = (P.map fun c => (c.toNat : Int)).map (Value.int .u8) := by simp [Lib.strCells, mk]
theorem given_g (b : Nat) (at_ : Int) (G : Bool) (x : Wt) (w : World) (h : Wr w b at_ G x) : Calls Try.prog 18 #[.pointer (some ⟨b, 0, none⟩)] w fun e w' => e = .returned (.string (mk x.P)) ∧ w' = w := by
  obtain ⟨c0, c3, ⟨a, cap, ka, kcap, c1, h2, c2, h4, h5, h6⟩, fz, lt⟩ := h
  have hcv := conv_owned (P := Try.prog) (w := w) (ns := x.P.map fun c => (c.toNat : Int)) 40 9 Try.underlying40 Try.underlying5 Try.underlying9 (base := b + 1) (v := .slice a x.P.length cap) (n := x.P.length) (by rw [← strCells_map]; exact h2)
  have hstr : str (x.P.map fun c => (c.toNat : Int)) = mk x.P := by simp [str, mk, Function.comp_def]
  rw [hstr] at hcv
  clear h2 h4 h5 h6 fz hstr c2
  go_enter Try.func18, Try.ntmps18
  go_wp2
  go_ret
  exact ⟨rfl, rfl⟩

end Go.Proofs.Yteaediobcjednaa
