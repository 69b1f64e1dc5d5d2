/-
  Contracts of package taker for names and texts, at every text and place.
-/
import Derived.Test.YteaediobcjednaaTaker
import Derived.Test.YteaediobcjednaaWireEnd
import Derived.Test.YteaediobcjednaaShelf2
import Derived.Deep.RegionHeld3
namespace Go.Proofs.Yteaediobcjednaa
open Go.ChangeShapes Go.WideShapes Go.ChangeAt Go.RowKit Go.Pin Go.PlainAid

/-- A name. -/
def nameT (s : ByteArray) (x : Tk) : ByteArray × Tk := if x.f then (⟨#[]⟩, x) else if (getL (bs s) x.at_.toNat).2.2 = 0 then (mk (getL (bs s) x.at_.toNat).1, ⟨(getL (bs s) x.at_.toNat).2.1, false⟩) else (⟨#[]⟩, ⟨x.at_, true⟩)

theorem byStr_failed (b : Nat) (s : ByteArray) (x : Tk) (g : Value) (w : World) (h : TkAt w b s x) (hf : x.f = true) :
    Calls Try.prog 57 #[.pointer (some ⟨b, 0, none⟩), g] w fun e w' => e = .returned (.string ⟨#[]⟩) ∧ w' = w := by
  obtain ⟨c0, c1, c2, fz, lt, _, _⟩ := h
  rw [hf] at c2
  go_enter Try.func57, Try.ntmps57
  go_wp2
  go_ret
  exact ⟨rfl, rfl⟩

set_option maxHeartbeats 1000000 in
theorem byStr_ok (b : Nat) (s : ByteArray) (x : Tk) (w : World) (hs : s.size ≤ 1125899906842624) (h : TkAt w b s x) (hf : x.f = false) (h0 : (getL (bs s) x.at_.toNat).2.2 = 0) :
    Calls Try.prog 57 #[.pointer (some ⟨b, 0, none⟩), .func (.func 58) #[] #[]] w fun e w' => e = .returned (.string (mk (getL (bs s) x.at_.toNat).1)) ∧ TkAt w' b s ⟨(getL (bs s) x.at_.toNat).2.1, false⟩ ∧ Turn b w w' := by
  have hr := h.rg hf
  have hsz : (s.size : Int) ≤ 1125899906842624 := by omega
  have HG : Hid (∀ w, _) := fun w => get_from s x.at_.toNat w hs
  have hat : ((x.at_.toNat : Nat) : Int) = x.at_ := by omega
  rw [hat] at HG
  simp only [told, h0] at HG
  have hle : 0 ≤ (getL (bs s) x.at_.toNat).2.1 ∧ (getL (bs s) x.at_.toNat).2.1 ≤ s.size := by
    have := get_ends (s := bs s) (at_ := x.at_.toNat) (n := (getL (bs s) x.at_.toNat).1) (e := (getL (bs s) x.at_.toNat).2.1) (by rw [← h0])
    rw [length_bs] at this
    omega
  have hh : Hid (TkAt w b s x) := h
  generalize (getL (bs s) x.at_.toNat).1 = y at *
  generalize (getL (bs s) x.at_.toNat).2.1 = z at *
  have hx : Hid (0 ≤ z ∧ z ≤ s.size ∧ (s.size : Int) ≤ 1125899906842624) := ⟨hle.1, hle.2, hsz⟩
  obtain ⟨c0, c1, c2, fz, lt, _, _⟩ := h
  rw [hf] at c2
  clear hr hle h0 fz hs
  go_enter Try.func57, Try.ntmps57
  go_wp2_with fail
  go_region_with (refine (HG.out _).mono ?_; rintro e w1 ⟨rfl, hb1⟩; have hb1' : Below _ w w1 := bel_trans (below_drewN (Below.refl _ _) 1) hb1)
  all_goals
    have hT := hh.out.below hb1' lt
    have B1 : Hid (Turn b w w1) := Turn.of_below hb1' lt
    have hh1 : Hid (TkAt w1 b s x) := hT
    obtain ⟨d0, d1, d2, fz, lt1, _, _⟩ := hT
    rw [hf] at d2
    have f1 := fz 1
    clear c0 c1 c2 hb1 hb1' fz hh HG lt
    go_wp2_with fail
    refine (must_yes b _).mono ?_; rintro e w2 ⟨rfl, rfl⟩
    go_wp2
    go_ret
    obtain ⟨x0, x1, x2⟩ := hx.out
    refine ⟨rfl, ?_, B1.out.trans (Turn.set _ _ _)⟩
    have := hh1.out.set1 z (fun _ => ⟨x0, x1⟩) ⟨by omega, by omega⟩
    rw [show ({ x with at_ := z } : Tk) = ⟨z, false⟩ by rw [← hf]] at this
    exact this

set_option maxHeartbeats 1000000 in
theorem byStr_no (b : Nat) (s : ByteArray) (x : Tk) (w : World) (hs : s.size ≤ 1125899906842624) (h : TkAt w b s x) (hf : x.f = false) (h0 : (getL (bs s) x.at_.toNat).2.2 ≠ 0) :
    Calls Try.prog 57 #[.pointer (some ⟨b, 0, none⟩), .func (.func 58) #[] #[]] w fun e w' => e = .returned (.string ⟨#[]⟩) ∧ TkAt w' b s ⟨x.at_, true⟩ ∧ Turn b w w' := by
  have hr := h.rg hf
  have hsz : (s.size : Int) ≤ 1125899906842624 := by omega
  have HG : Hid (∀ w, _) := fun w => get_from s x.at_.toNat w hs
  have hat : ((x.at_.toNat : Nat) : Int) = x.at_ := by omega
  rw [hat] at HG
  simp only [told] at HG
  have hh : Hid (TkAt w b s x) := h
  generalize (getL (bs s) x.at_.toNat).1 = y at *
  generalize (getL (bs s) x.at_.toNat).2.1 = y2 at *
  generalize (getL (bs s) x.at_.toNat).2.2 = z at *
  have hz : (z == 0) = false := by simpa using h0
  obtain ⟨c0, c1, c2, fz, lt, _, _⟩ := h
  rw [hf] at c2
  clear hr fz hs
  go_enter Try.func57, Try.ntmps57
  go_wp2_with fail
  go_region_with (refine (HG.out _).mono ?_; rintro e w1 ⟨rfl, hb1⟩; have hb1' : Below _ w w1 := bel_trans (below_drewN (Below.refl _ _) 1) hb1)
  all_goals
    have hT := hh.out.below hb1' lt
    have B1 : Hid (Turn b w w1) := Turn.of_below hb1' lt
    have hh1 : Hid (TkAt w1 b s x) := hT
    clear c0 c1 c2 hb1 hb1' hh HG lt
    go_wp2_with fail
    refine (must_no b s x _ hT).mono ?_; rintro e w2 ⟨rfl, rfl⟩
    have hT2 := hT.fail
    have hh2 : Hid (_) := hT2
    obtain ⟨d0, d1, d2, fz, lt1, _, _⟩ := hT2
    simp only at d2
    clear fz hT
    go_wp2
    go_ret
    exact ⟨rfl, hh2.out, B1.out.trans (Turn.set _ _ _)⟩

theorem name_c (b : Nat) (s : ByteArray) (x : Tk) (w : World) (hs : s.size ≤ 1125899906842624) (h : TkAt w b s x) :
    Calls Try.prog 51 #[.pointer (some ⟨b, 0, none⟩)] w fun e w' => e = .returned (.string (nameT s x).1) ∧ TkAt w' b s (nameT s x).2 ∧ Turn b w w' := by
  have HC : Hid (Calls Try.prog 57 #[.pointer (some ⟨b, 0, none⟩), .func (.func 58) #[] #[]] w fun e w' => e = .returned (.string (nameT s x).1) ∧ TkAt w' b s (nameT s x).2 ∧ Turn b w w') := by
    cases hf : x.f with
    | true =>
      have e1 : nameT s x = (⟨#[]⟩, x) := by simp [nameT, hf]
      rw [e1]
      exact (byStr_failed b s x _ _ h hf).mono fun e w' ⟨h1, h2⟩ => ⟨h1, by rw [h2]; exact h, by rw [h2]; exact Turn.refl _ _⟩
    | false =>
      by_cases h0 : (getL (bs s) x.at_.toNat).2.2 = 0
      · have e1 : nameT s x = (mk (getL (bs s) x.at_.toNat).1, ⟨(getL (bs s) x.at_.toNat).2.1, false⟩) := by simp [nameT, hf, h0]
        rw [e1]
        exact byStr_ok b s x _ hs h hf h0
      · have e1 : nameT s x = (⟨#[]⟩, ⟨x.at_, true⟩) := by simp [nameT, hf, h0]
        rw [e1]
        exact byStr_no b s x _ hs h hf h0
  generalize (nameT s x).1 = y at *
  generalize (nameT s x).2 = z at *
  clear hs h
  go_enter Try.func51, Try.ntmps51
  go_wp2_with fail
  refine HC.out.mono ?_; rintro e w1 ⟨rfl, hT, hb⟩
  go_wp2
  go_ret
  exact ⟨rfl, hT, hb⟩

/-! ### texts -/
theorem wrap_in (v : Int) (h0 : -9223372036854775808 ≤ v) (h1 : v ≤ 9223372036854775807) : IntKind.i64.wrap v = v := IntWalk.i64_in v ⟨h0, h1⟩
theorem clone_str (s : ByteArray) (w : World) (hs : s.size ≤ 281474976710656) : Calls Try.prog 50 #[.string s] w fun e w' => e = .returned (.string s) ∧ Below w.heap.size w w' := by
  have H : Hid (∀ w, _) := fun w => Try.stringslite_Clone s w (by omega)
  go_enter Try.func50, Try.ntmps50
  go_wp2_with fail
  refine (H.out _).mono ?_; rintro e w1 ⟨rfl, hb⟩
  go_wp2
  go_ret
  exact ⟨rfl, hb⟩
/-- n bytes. -/
def textT (s : ByteArray) (n : Nat) (x : Tk) : ByteArray × Tk := if x.f then (⟨#[]⟩, x) else if (n : Int) ≤ s.size - x.at_ then (s.extract x.at_.toNat (x.at_.toNat + n), ⟨x.at_ + n, false⟩) else (⟨#[]⟩, ⟨x.at_, true⟩)

set_option maxHeartbeats 1000000 in
theorem text_failed (b : Nat) (s : ByteArray) (x : Tk) (n : Nat) (w : World) (h : TkAt w b s x) (hf : x.f = true) :
    Calls Try.prog 37 #[.pointer (some ⟨b, 0, none⟩), .int .i64 n] w fun e w' => e = .returned (.string ⟨#[]⟩) ∧ TkAt w' b s x ∧ Turn b w w' := by
  have h0 : decide ((0 : Int) ≤ n) = true := by simp
  have HM : Hid (∀ so w, TkAt w b s x → _) := fun so w h => must_c b s x so w h
  have hmx : Hid (∀ so, mustT so x = x) := fun so => by cases x; simp only at hf; subst hf; simp [mustT]
  have hh : Hid (TkAt w b s x) := h
  obtain ⟨c0, c1, c2, fz, lt, _, _⟩ := h
  rw [hf] at c2
  clear fz
  go_enter Try.func37, Try.ntmps37
  go_wp2_with fail
  go_region_held3 (fun w' => w'.cell? ⟨b, 0, none⟩ = some (.string s) ∧ w'.cell? ⟨b, 1, none⟩ = some (.int .i64 x.at_)) (first | exact ⟨c0, c1⟩ | exact ⟨hT1.c0, hT1.c1⟩)
    (first | (go_at_call 36; refine (HM.out _ _ ?_).mono ?_; (exact hh.out.below (below_drewN (Below.refl _ _) 1) lt); rintro e w1 ⟨rfl, hT1, hb1⟩; rw [hmx.out] at hT1; have B1 : Turn b w w1 := (Turn.of_below (below_drewN (Below.refl _ _) 1) lt).trans hb1))
  have d2 := hT1.c2
  rw [hf] at d2
  go_wp2
  go_ret
  exact ⟨rfl, hT1, B1⟩

set_option maxHeartbeats 1000000 in
theorem text_no (b : Nat) (s : ByteArray) (x : Tk) (n : Nat) (w : World) (hs : s.size ≤ 1125899906842624) (h : TkAt w b s x) (hf : x.f = false) (hd : ¬ (n : Int) ≤ s.size - x.at_) :
    Calls Try.prog 37 #[.pointer (some ⟨b, 0, none⟩), .int .i64 n] w fun e w' => e = .returned (.string ⟨#[]⟩) ∧ TkAt w' b s ⟨x.at_, true⟩ ∧ Turn b w w' := by
  have h0 : decide ((0 : Int) ≤ n) = true := by simp
  obtain ⟨r0, r1⟩ := h.rg hf
  have hd' : Hid (decide ((n : Int) ≤ IntKind.i64.wrap (s.size - x.at_)) = false) := by show _ = _; rw [wrap_in _ (by omega) (by omega)]; simpa using hd
  clear hd
  have HM : Hid (∀ w, TkAt w b s x → _) := fun w h => must_c b s x false w h
  have hmx : Hid (mustT false x = ⟨x.at_, true⟩) := by show _ = _; simp [mustT]
  have hh : Hid (TkAt w b s x) := h
  obtain ⟨c0, c1, c2, fz, lt, _, _⟩ := h
  rw [hf] at c2
  clear fz
  go_enter Try.func37, Try.ntmps37
  go_wp2_with fail
  go_region_held3 (fun w' => w'.cell? ⟨b, 0, none⟩ = some (.string s) ∧ w'.cell? ⟨b, 1, none⟩ = some (.int .i64 x.at_)) (first | exact ⟨c0, c1⟩ | exact ⟨hT1.c0, hT1.c1⟩)
    (first | (go_at_call 36; rw [hd'.out]; refine (HM.out _ ?_).mono ?_; (exact hh.out.below (below_drewN (Below.refl _ _) 1) lt); rintro e w1 ⟨rfl, hT1, hb1⟩; rw [hmx.out] at hT1; have B1 : Turn b w w1 := (Turn.of_below (below_drewN (Below.refl _ _) 1) lt).trans hb1))
  have d2 := hT1.c2
  go_wp2
  go_ret
  exact ⟨rfl, hT1, B1⟩

set_option maxHeartbeats 1000000 in
theorem text_ok (b : Nat) (s : ByteArray) (x : Tk) (n : Nat) (w : World) (hs : s.size ≤ 1125899906842624) (hn : n ≤ 281474976710656) (h : TkAt w b s x) (hf : x.f = false) (hd : (n : Int) ≤ s.size - x.at_) :
    Calls Try.prog 37 #[.pointer (some ⟨b, 0, none⟩), .int .i64 n] w fun e w' => e = .returned (.string (s.extract x.at_.toNat (x.at_.toNat + n))) ∧ TkAt w' b s ⟨x.at_ + n, false⟩ ∧ Turn b w w' := by
  have h0 : decide ((0 : Int) ≤ n) = true := by simp
  obtain ⟨r0, r1⟩ := h.rg hf
  have hd' : Hid (decide ((n : Int) ≤ IntKind.i64.wrap (s.size - x.at_)) = true) := by show _ = _; rw [wrap_in _ (by omega) (by omega)]; simpa using hd
  have HM : Hid (∀ w, _) := fun w => must_yes b w
  obtain ⟨a, ha⟩ : ∃ a : Nat, x.at_ = a := ⟨x.at_.toNat, by omega⟩
  obtain ⟨xa, xf⟩ := x
  simp only at ha hf r0 r1 hd hd'
  subst ha hf
  have hh : Hid (TkAt w b s ⟨a, false⟩) := h
  have HS : Hid (TkAt (w.setCell ⟨b, 1, none⟩ (.int .i64 ((a : Int) + n))) b s ⟨(a : Int) + n, false⟩) := h.set1 ((a : Int) + n) (fun _ => ⟨by omega, by omega⟩) ⟨by omega, by omega⟩
  have HC : Hid (∀ w, _) := fun w => clone_str (s.extract a (a + n)) w (by simp; omega)
  obtain ⟨c0, c1, c2, fz, lt, _, _⟩ := h
  have f1 := fz 1
  simp only at c1 c2
  clear fz
  simp only [Int.toNat_natCast]
  go_enter Try.func37, Try.ntmps37
  go_wp2_with fail
  go_region_held3 (fun w' => w'.cell? ⟨b, 0, none⟩ = some (.string s) ∧ w'.cell? ⟨b, 1, none⟩ = some (.int .i64 a)) (first | exact ⟨c0, c1⟩)
    (first | (go_at_call 36; rw [hd'.out]; refine (HM.out _).mono ?_; rintro e w1 ⟨rfl, rfl⟩))
  go_wp2_with fail
  have HS' : Hid (TkAt ((w.setCell ⟨b, 1, none⟩ (.int .i64 ((a : Int) + n))).drew) b s ⟨(a : Int) + n, false⟩) := HS.out.below (below_drewN (Below.refl (w.setCell ⟨b, 1, none⟩ (.int .i64 ((a : Int) + n))).heap.size _) 1) HS.out.lt
  have BS : Hid (Turn b w ((w.setCell ⟨b, 1, none⟩ (.int .i64 ((a : Int) + n))).drew)) := (Turn.set _ _ _).trans (Turn.of_below (below_drewN (Below.refl _ _) 1) HS.out.lt)
  generalize (w.setCell ⟨b, 1, none⟩ (.int .i64 ((a : Int) + n))).drew = w4 at *
  obtain ⟨g0, g1, g2, fz, lt4, _, _⟩ := HS'.out
  simp only at g1
  clear fz c0 c1 c2 f1 HS
  have hnat : Hid (((a : Int) + n).toNat = a + n) := by show _ = _; omega
  have hm1 : (a : Int) ≤ a + n := by omega
  have hm2 : (a : Int) + n ≤ s.size := by omega
  go_region_held3 (fun w' => w'.cell? ⟨b, 0, none⟩ = some (.string s) ∧ w'.cell? ⟨b, 1, none⟩ = some (.int .i64 ((a : Int) + n))) (first | exact ⟨g0, g1⟩ | exact ⟨hT5.c0, hT5.c1⟩)
    (first | (go_at_call 50; rw [hnat.out]; refine (HC.out _).mono ?_; rintro e w5 ⟨rfl, hb5⟩; have hT5 := HS'.out.below (bel_trans (below_drewN (Below.refl w4.heap.size _) 1) hb5) lt4; have B5 : Turn b w w5 := BS.out.trans (Turn.of_below (bel_trans (below_drewN (Below.refl w4.heap.size _) 1) hb5) lt4)))
  go_wp2
  go_ret
  exact ⟨rfl, hT5, B5⟩

theorem text_c (b : Nat) (s : ByteArray) (x : Tk) (n : Nat) (w : World) (hs : s.size ≤ 1125899906842624) (hn : n ≤ 281474976710656) (h : TkAt w b s x) :
    Calls Try.prog 37 #[.pointer (some ⟨b, 0, none⟩), .int .i64 n] w fun e w' => e = .returned (.string (textT s n x).1) ∧ TkAt w' b s (textT s n x).2 ∧ Turn b w w' := by
  cases hf : x.f with
  | true =>
    have e1 : textT s n x = (⟨#[]⟩, x) := by simp [textT, hf]
    rw [e1]
    exact text_failed b s x n w h hf
  | false =>
    by_cases h0 : (n : Int) ≤ s.size - x.at_
    · have e1 : textT s n x = (s.extract x.at_.toNat (x.at_.toNat + n), ⟨x.at_ + n, false⟩) := by simp [textT, hf, h0]
      rw [e1]
      exact text_ok b s x n w hs hn h hf h0
    · have e1 : textT s n x = (⟨#[]⟩, ⟨x.at_, true⟩) := by simp [textT, hf, h0]
      rw [e1]
      exact text_no b s x n w hs h hf h0

end Go.Proofs.Yteaediobcjednaa
