/-
  Plain: what package packet's reader takes is what a text tells.
-/
import Derived.Test.YtkohojifnmklmaaPackTake
namespace Go.Proofs.Ytkohojifnmklmaa
open Go.RowKit Go.Pin Go.PlainAid

theorem numT_go {s : ByteArray} {a k : Nat} (h : a + k ≤ s.size) : numT s k ⟨a, false⟩ = (num s a k, ⟨((a + k : Nat) : Int), false⟩) := by
  have e : getB s a k = (num s a k, 0) := by
    unfold getB
    rw [if_neg (by omega), if_neg (by omega), Int.toNat_natCast]
  unfold numT
  simp [e]
theorem textT_go {s : ByteArray} {a n : Nat} (h : a + n ≤ s.size) : textT s n ⟨a, false⟩ = (s.extract a (a + n), ⟨((a + n : Nat) : Int), false⟩) := by
  unfold textT
  rw [if_neg (by simp), if_pos (by simp only; omega)]
  simp
theorem numT_okp {s : ByteArray} {k : Nat} {x : Tk} {a : Nat} (hx : x.f = false → x = ⟨a, false⟩) (h : (numT s k x).2.f = false) : x = ⟨a, false⟩ ∧ a + k ≤ s.size := by
  cases hf : x.f with
  | true => rw [numT_fp hf] at h; cases h
  | false =>
    refine ⟨hx hf, ?_⟩
    rw [hx hf] at h
    by_cases hk : a + k ≤ s.size
    · exact hk
    · exfalso
      have e : (getB s a k).2 = 101 := by unfold getB; rw [if_neg (by omega), if_pos (by omega)]
      unfold numT at h
      simp [e] at h
theorem textT_okp {s : ByteArray} {n : Nat} {x : Tk} {a : Nat} (hx : x.f = false → x = ⟨a, false⟩) (h : (textT s n x).2.f = false) : x = ⟨a, false⟩ ∧ a + n ≤ s.size := by
  cases hf : x.f with
  | true => rw [textT_fp hf] at h; cases h
  | false =>
    refine ⟨hx hf, ?_⟩
    rw [hx hf] at h
    by_cases hk : a + n ≤ s.size
    · exact hk
    · exfalso
      unfold textT at h
      rw [if_neg (by simp), if_neg (by simp only; omega)] at h
      simp at h
theorem mustT_okp {so : Bool} {x : Tk} (h : (mustT so x).f = false) : x.f = false ∧ so = true ∧ mustT so x = x := by
  cases x with
  | mk a f =>
    simp only [mustT] at h ⊢
    cases f <;> cases so <;> simp_all
theorem numT_step {s : ByteArray} {k a : Nat} {x : Tk} (hx : x.f = false → x = ⟨a, false⟩) : (numT s k x).2.f = false → (numT s k x).2 = ⟨((a + k : Nat) : Int), false⟩ := fun h => by
  obtain ⟨e, hk⟩ := numT_okp hx h
  rw [e, numT_go hk]
theorem textT_step {s : ByteArray} {n a : Nat} {x : Tk} (hx : x.f = false → x = ⟨a, false⟩) : (textT s n x).2.f = false → (textT s n x).2 = ⟨((a + n : Nat) : Int), false⟩ := fun h => by
  obtain ⟨e, hk⟩ := textT_okp hx h
  rw [e, textT_go hk]
/-- The head is as it must be. -/
def HeadOk (s : ByteArray) : Prop := 240 ≤ s.size ∧ num s 2 1 ≤ 16 ∧ num s 236 4 = 1669485411
theorem head_fits {s : ByteArray} (h : HeadOk s) : pk1 s = (num s 0 1, ⟨((1 : Nat) : Int), false⟩) ∧ pk2 s = (num s 1 1, ⟨((2 : Nat) : Int), false⟩) ∧ pk4 s = (num s 3 1, ⟨((4 : Nat) : Int), false⟩) ∧ pk5 s = (num s 4 4, ⟨((8 : Nat) : Int), false⟩) ∧ pk6 s = (num s 8 2, ⟨((10 : Nat) : Int), false⟩) ∧ pk7 s = (num s 10 2, ⟨((12 : Nat) : Int), false⟩) ∧ pk8 s = (num s 12 4, ⟨((16 : Nat) : Int), false⟩) ∧ pk9 s = (num s 16 4, ⟨((20 : Nat) : Int), false⟩) ∧ pk10 s = (num s 20 4, ⟨((24 : Nat) : Int), false⟩) ∧ pk11 s = (num s 24 4, ⟨((28 : Nat) : Int), false⟩) ∧
    pk12 s = (s.extract 28 (28 + (num s 2 1).toNat), ⟨((28 + (num s 2 1).toNat : Nat) : Int), false⟩) ∧ pk14 s = (s.extract 44 108, ⟨((108 : Nat) : Int), false⟩) ∧ pk15 s = (s.extract 108 236, ⟨((236 : Nat) : Int), false⟩) ∧ pk16m s = ⟨((240 : Nat) : Int), false⟩ := by
  obtain ⟨h1, h2, h3⟩ := h
  have hb := num_bd s 2 1
  have e1 : pk1 s = (num s 0 1, ⟨((1 : Nat) : Int), false⟩) := numT_go (s := s) (a := 0) (k := 1) (by omega)
  have e2 : pk2 s = (num s 1 1, ⟨((2 : Nat) : Int), false⟩) := by unfold pk2; rw [e1]; exact numT_go (a := 1) (by omega)
  have e3 : pk3 s = (num s 2 1, ⟨((3 : Nat) : Int), false⟩) := by unfold pk3; rw [e2]; exact numT_go (a := 2) (by omega)
  have e3m : pk3m s = ⟨((3 : Nat) : Int), false⟩ := by unfold pk3m; rw [e3]; simp [mustT, h2]
  have e4 : pk4 s = (num s 3 1, ⟨((4 : Nat) : Int), false⟩) := by unfold pk4; rw [e3m]; exact numT_go (a := 3) (by omega)
  have e5 : pk5 s = (num s 4 4, ⟨((8 : Nat) : Int), false⟩) := by unfold pk5; rw [e4]; exact numT_go (a := 4) (by omega)
  have e6 : pk6 s = (num s 8 2, ⟨((10 : Nat) : Int), false⟩) := by unfold pk6; rw [e5]; exact numT_go (a := 8) (by omega)
  have e7 : pk7 s = (num s 10 2, ⟨((12 : Nat) : Int), false⟩) := by unfold pk7; rw [e6]; exact numT_go (a := 10) (by omega)
  have e8 : pk8 s = (num s 12 4, ⟨((16 : Nat) : Int), false⟩) := by unfold pk8; rw [e7]; exact numT_go (a := 12) (by omega)
  have e9 : pk9 s = (num s 16 4, ⟨((20 : Nat) : Int), false⟩) := by unfold pk9; rw [e8]; exact numT_go (a := 16) (by omega)
  have e10 : pk10 s = (num s 20 4, ⟨((24 : Nat) : Int), false⟩) := by unfold pk10; rw [e9]; exact numT_go (a := 20) (by omega)
  have e11 : pk11 s = (num s 24 4, ⟨((28 : Nat) : Int), false⟩) := by unfold pk11; rw [e10]; exact numT_go (a := 24) (by omega)
  have e12 : pk12 s = (s.extract 28 (28 + (num s 2 1).toNat), ⟨((28 + (num s 2 1).toNat : Nat) : Int), false⟩) := by unfold pk12; rw [e11, e3]; exact textT_go (a := 28) (by omega)
  have e13 : (pk13 s).2 = ⟨((44 : Nat) : Int), false⟩ := by
    unfold pk13; rw [e12, e3]
    have := textT_go (s := s) (a := 28 + (num s 2 1).toNat) (n := (16 - num s 2 1).toNat) (by omega)
    simp only
    rw [this, show 28 + (num s 2 1).toNat + (16 - num s 2 1).toNat = 44 by omega]
  have e14 : pk14 s = (s.extract 44 108, ⟨((108 : Nat) : Int), false⟩) := by unfold pk14; rw [e13]; exact textT_go (a := 44) (by omega)
  have e15 : pk15 s = (s.extract 108 236, ⟨((236 : Nat) : Int), false⟩) := by unfold pk15; rw [e14]; exact textT_go (a := 108) (by omega)
  have e16 : pk16 s = (num s 236 4, ⟨((240 : Nat) : Int), false⟩) := by unfold pk16; rw [e15]; exact numT_go (a := 236) (by omega)
  have e16m : pk16m s = ⟨((240 : Nat) : Int), false⟩ := by unfold pk16m; rw [e16]; simp [mustT, h3]
  exact ⟨e1, e2, e4, e5, e6, e7, e8, e9, e10, e11, e12, e14, e15, e16m⟩
theorem head_needs {s : ByteArray} (h : (pk16m s).f = false) : HeadOk s := by
  obtain ⟨f16, hck, _⟩ := mustT_okp h
  have s1 : (pk1 s).2.f = false → (pk1 s).2 = ⟨((1 : Nat) : Int), false⟩ := numT_step (a := 0) (fun _ => rfl)
  have s2 : (pk2 s).2.f = false → (pk2 s).2 = ⟨((2 : Nat) : Int), false⟩ := numT_step (a := 1) s1
  have s3 : (pk3 s).2.f = false → (pk3 s).2 = ⟨((3 : Nat) : Int), false⟩ := numT_step (a := 2) s2
  have s3m : (pk3m s).f = false → pk3m s = ⟨((3 : Nat) : Int), false⟩ := fun hh => by
    obtain ⟨q1, _, q3⟩ := mustT_okp hh
    exact q3.trans (s3 q1)
  have s4 : (pk4 s).2.f = false → (pk4 s).2 = ⟨((4 : Nat) : Int), false⟩ := numT_step (a := 3) s3m
  have s5 : (pk5 s).2.f = false → (pk5 s).2 = ⟨((8 : Nat) : Int), false⟩ := numT_step (a := 4) s4
  have s6 : (pk6 s).2.f = false → (pk6 s).2 = ⟨((10 : Nat) : Int), false⟩ := numT_step (a := 8) s5
  have s7 : (pk7 s).2.f = false → (pk7 s).2 = ⟨((12 : Nat) : Int), false⟩ := numT_step (a := 10) s6
  have s8 : (pk8 s).2.f = false → (pk8 s).2 = ⟨((16 : Nat) : Int), false⟩ := numT_step (a := 12) s7
  have s9 : (pk9 s).2.f = false → (pk9 s).2 = ⟨((20 : Nat) : Int), false⟩ := numT_step (a := 16) s8
  have s10 : (pk10 s).2.f = false → (pk10 s).2 = ⟨((24 : Nat) : Int), false⟩ := numT_step (a := 20) s9
  have s11 : (pk11 s).2.f = false → (pk11 s).2 = ⟨((28 : Nat) : Int), false⟩ := numT_step (a := 24) s10
  -- back from the end: nothing failed
  have g15 : (pk15 s).2.f = false := by cases hh : (pk15 s).2.f with | false => rfl | true => rw [show (pk16 s).2.f = true from numT_fp hh] at f16; cases f16
  have g14 : (pk14 s).2.f = false := by cases hh : (pk14 s).2.f with | false => rfl | true => rw [show (pk15 s).2.f = true from textT_fp hh] at g15; cases g15
  have g13 : (pk13 s).2.f = false := by cases hh : (pk13 s).2.f with | false => rfl | true => rw [show (pk14 s).2.f = true from textT_fp hh] at g14; cases g14
  have g12 : (pk12 s).2.f = false := by cases hh : (pk12 s).2.f with | false => rfl | true => rw [show (pk13 s).2.f = true from textT_fp hh] at g13; cases g13
  have g11 : (pk11 s).2.f = false := by cases hh : (pk11 s).2.f with | false => rfl | true => rw [show (pk12 s).2.f = true from textT_fp hh] at g12; cases g12
  have h16 : (pk3 s).1 ≤ 16 := by
    cases hh : decide ((pk3 s).1 ≤ 16) with
    | true => simpa using hh
    | false => rw [pk_over (by simpa using hh)] at g12; cases g12
  have back : ∀ {k : Nat} {x : Tk}, (numT s k x).2.f = false → x.f = false := fun {k x} hh => by cases hx : x.f with | false => rfl | true => rw [numT_fp hx] at hh; cases hh
  have g10 := back (x := (pk10 s).2) g11
  have g9 := back (x := (pk9 s).2) g10
  have g8 := back (x := (pk8 s).2) g9
  have g7 := back (x := (pk7 s).2) g8
  have g6 := back (x := (pk6 s).2) g7
  have g5 := back (x := (pk5 s).2) g6
  have g4 := back (x := (pk4 s).2) g5
  have g3m := back (x := pk3m s) g4
  have g3 := (mustT_okp g3m).1
  have e3 : pk3 s = (num s 2 1, ⟨((3 : Nat) : Int), false⟩) := by
    obtain ⟨q1, q2⟩ := numT_okp (a := 2) s2 g3
    show numT s 1 (pk2 s).2 = _
    rw [q1]; exact numT_go (a := 2) (by omega)
  have hv : 0 ≤ (pk3 s).1 := (num_255 s _).1
  have s12 : (pk12 s).2 = ⟨((28 + (pk3 s).1.toNat : Nat) : Int), false⟩ := textT_step (a := 28) s11 g12
  have s13 : (pk13 s).2 = ⟨((44 : Nat) : Int), false⟩ := by
    have := textT_step (s := s) (n := (16 - (pk3 s).1).toNat) (a := 28 + (pk3 s).1.toNat) (fun _ => s12) g13
    rw [show 28 + (pk3 s).1.toNat + (16 - (pk3 s).1).toNat = 44 by omega] at this
    exact this
  have s14 : (pk14 s).2 = ⟨((108 : Nat) : Int), false⟩ := textT_step (a := 44) (fun _ => s13) g14
  have s15 : (pk15 s).2 = ⟨((236 : Nat) : Int), false⟩ := textT_step (a := 108) (fun _ => s14) g15
  obtain ⟨_, q2⟩ := numT_okp (s := s) (k := 4) (x := (pk15 s).2) (a := 236) (fun _ => s15) f16
  refine ⟨q2, by rw [e3] at h16; exact h16, ?_⟩
  have e16 : pk16 s = (num s 236 4, ⟨((240 : Nat) : Int), false⟩) := by
    show numT s 4 (pk15 s).2 = _
    rw [s15]; exact numT_go (a := 236) (by omega)
  rw [e16] at hck
  simpa using hck
theorem mk_is {l : List UInt8} {s : ByteArray} : mk l = s ↔ l = bs s := by
  constructor
  · intro h; rw [← h, bs_mk]
  · intro h; rw [h, mk_bs]
theorem must_f (so : Bool) (x : Tk) : (mustT so x).f = (x.f || !so) := rfl
theorem extract_bs (s : ByteArray) (a n : Nat) : bs (s.extract a (a + n)) = cut s a n := bs_extract s a n
/-- The options of the three parts: taken, told. -/
theorem opts_is (s : ByteArray) (a : Nat) (boot file : ByteArray) (ha : a ≤ s.size) :
    (if (optsT s ⟨a, false⟩ boot file).2.f then none else some (optsT s ⟨a, false⟩ boot file).1) = optsP ((bs s).drop a) (bs boot) (bs file) := by
  have hr : restT s ⟨a, false⟩ = (s.extract a s.size, ⟨(s.size : Int), false⟩) := by
    unfold restT restN
    rw [if_neg (by simp), show ((s.size : Int) - (a : Int)).toNat = s.size - a by omega, textT_go (by omega), show a + (s.size - a) = s.size by omega]
  have hb : bs (s.extract a s.size) = (bs s).drop a := by
    have := bs_extract s a (s.size - a)
    rw [show a + (s.size - a) = s.size by omega] at this
    rw [this, List.take_of_length_le (by rw [List.length_drop, length_bs]; omega)]
  have m1 : ∀ l, mk l = (⟨#[1]⟩ : ByteArray) ↔ l = [1] := fun l => mk_is
  have m2 : ∀ l, mk l = (⟨#[2]⟩ : ByteArray) ↔ l = [2] := fun l => mk_is
  have m3 : ∀ l, mk l = (⟨#[3]⟩ : ByteArray) ↔ l = [3] := fun l => mk_is
  unfold optsT optsP toldO toldK
  rw [hr]
  simp only [hb, m1, m2, m3]
  cases h1 : getO ((bs s).drop a) [] with
  | none => simp [ovr, findO, must_f]
  | some A =>
    simp only [Option.getD_some, Option.isSome_some]
    by_cases d1 : ovr A = [1]
    · rw [if_pos d1, if_pos d1]
      cases hF : getO (bs file) [] with
      | none => simp [must_f]
      | some F => cases hJ : joinP (A ++ F) <;> simp [must_f, hJ]
    · rw [if_neg d1, if_neg d1]
      by_cases d2 : ovr A = [2]
      · rw [if_pos d2, if_pos d2]
        cases hF : getO (bs boot) [] with
        | none => simp [must_f]
        | some F => cases hJ : joinP (A ++ F) <;> simp [must_f, hJ]
      · rw [if_neg d2, if_neg d2]
        by_cases d3 : ovr A = [3]
        · rw [if_pos d3, if_pos d3]
          cases hF : getO (bs file) [] with
          | none => simp [must_f]
          | some F =>
            cases hB : getO (bs boot) [] with
            | none => simp [must_f]
            | some B => cases hJ : joinP (A ++ F ++ B) <;> simp_all [must_f]
        · rw [if_neg d3, if_neg d3]; simp [must_f]
/-- What the reader takes is what the text tells. -/
theorem reads_is (s : ByteArray) : (if (pk17 s).2.f then none else some (pkT s)) = getP s := by
  by_cases h : HeadOk s
  · obtain ⟨e1, e2, e4, e5, e6, e7, e8, e9, e10, e11, e12, e14, e15, e16⟩ := head_fits h
    have hh := h
    obtain ⟨h1, h2, h3⟩ := h
    have ho := opts_is s 240 (s.extract 44 108) (s.extract 108 236) h1
    have b1 : bs (s.extract 44 108) = cut s 44 64 := extract_bs s 44 64
    have b2 : bs (s.extract 108 236) = cut s 108 128 := extract_bs s 108 128
    have b3 : mk (cut s 28 (num s 2 1).toNat) = s.extract 28 (28 + (num s 2 1).toNat) := by rw [← extract_bs, mk_bs]
    have e17 : pk17 s = optsT s ⟨((240 : Nat) : Int), false⟩ (s.extract 44 108) (s.extract 108 236) := by unfold pk17; rw [e16, e14, e15]
    rw [b1, b2] at ho
    unfold getP
    rw [if_pos (show 240 ≤ s.size ∧ num s 2 1 ≤ 16 ∧ num s 236 4 = 1669485411 from hh), ← ho, ← e17, b3]
    cases hf : (pk17 s).2.f with
    | true => simp
    | false => simp [pkT, e1, e2, e4, e5, e6, e7, e8, e9, e10, e11, e12]
  · have hf : (pk17 s).2.f = true := by
      cases hh : (pk16m s).f with
      | false => exact absurd (head_needs hh) h
      | true =>
        have hr : (restT s (pk16m s)).2.f = true := textT_fp hh
        unfold pk17 optsT
        simp only
        split
        · simp [must_f, hr]
        · split
          · simp [must_f, hr]
          · split
            · simp [must_f, hr]
            · simp [must_f, hr]
    rw [hf]
    unfold getP
    rw [if_neg (show ¬ (240 ≤ s.size ∧ num s 2 1 ≤ 16 ∧ num s 236 4 = 1669485411) from h)]; rfl
end Go.Proofs.Ytkohojifnmklmaa
