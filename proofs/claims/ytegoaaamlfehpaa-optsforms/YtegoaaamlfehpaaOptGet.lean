/-
  Contracts of package opts's reader: codes, what is joined.
-/
import Derived.Test.YtegoaaamlfehpaaOptPut2
import Derived.Deep.AppendLies
import Derived.Laws.OwnMore
namespace Go.Proofs.Ytegoaaamlfehpaa
open Go.ChangeShapes Go.WideShapes Go.ChangeAt Go.RowKit Go.Pin Go.PlainAid

theorem left_failed (b : Nat) (s : ByteArray) (x : Tk) (w : World) (h : TkAt w b s x) (hf : x.f = true) : Calls Try.prog 46 #[.pointer (some ⟨b, 0, none⟩)] w fun e w' => e = .returned (.int .i64 0) ∧ w' = w := by
  obtain ⟨c0, c1, c2, fz, lt, _, _⟩ := h
  rw [hf] at c2
  go_enter Try.func46, Try.ntmps46
  go_wp2
  go_ret
  exact ⟨rfl, rfl⟩
theorem left_ok (b : Nat) (s : ByteArray) (x : Tk) (w : World) (h : TkAt w b s x) (hf : x.f = false) (hs : s.size ≤ 1125899906842624) : Calls Try.prog 46 #[.pointer (some ⟨b, 0, none⟩)] w fun e w' => e = .returned (.int .i64 (s.size - x.at_)) ∧ Below w.heap.size w w' := by
  obtain ⟨c0, c1, c2, fz, lt, r, _⟩ := h
  obtain ⟨r0, r1⟩ := r hf
  rw [hf] at c2
  have hsz : (s.size : Int) ≤ 1125899906842624 := by omega
  clear fz
  go_enter Try.func46, Try.ntmps46
  go_wp2
  go_quiet (fail)
  go_wp2
  go_ret
  exact ⟨rfl, below_drewN (Below.refl _ _) _⟩

/-- What is nothing, and the next code: how many bytes, which; 255, if there is no more. -/
def codeL : List UInt8 → Nat × UInt8
  | [] => (0, 255)
  | c :: r => if c = 0 then ((codeL r).1 + 1, (codeL r).2) else (1, c)
theorem codeL_le (r : List UInt8) : (codeL r).1 ≤ r.length := by
  induction r with
  | nil => simp [codeL]
  | cons c r ih => unfold codeL; split <;> simp <;> omega
theorem codeL_ne (r : List UInt8) : (codeL r).2 ≠ 0 := by
  induction r with
  | nil => simp [codeL]
  | cons c r ih => unfold codeL; split <;> simp_all
theorem getO_code (r : List UInt8) (acc : List Opn) : getO r acc = if (codeL r).2 = 255 then some acc else getO ((codeL r).2 :: r.drop (codeL r).1) acc := by
  induction r with
  | nil => simp [codeL, getO_nil]
  | cons c r ih =>
    unfold codeL
    by_cases h : c = 0
    · subst h
      rw [if_pos rfl, getO_pad, ih]
      simp
    · rw [if_neg h]
      by_cases h1 : c = 255
      · subst h1
        simp [getO_end]
      · simp [h1]
theorem codeL_drop {l : List UInt8} {a : Nat} (h : a < l.length) : codeL (l.drop a) = if l[a] = 0 then ((codeL (l.drop (a + 1))).1 + 1, (codeL (l.drop (a + 1))).2) else (1, l[a]) := by
  rw [List.drop_eq_getElem_cons h]; rfl
theorem num_one {s : ByteArray} {a : Nat} (h : a < (bs s).length) : num s a 1 = (((bs s)[a]).toNat : Int) := by
  have h2 : a < s.size := by rw [← length_bs]; exact h
  have : num s a 1 = bt s a := by simp [num]
  rw [this]
  unfold bt
  rw [dif_pos h2]
  rfl
theorem numT_one {s : ByteArray} {a : Nat} (h : a < (bs s).length) : numT s 1 ⟨a, false⟩ = ((((bs s)[a]).toNat : Int), ⟨(a : Int) + 1, false⟩) := by
  have h2 : a < s.size := by rw [← length_bs]; exact h
  have : getB s a 1 = (num s a 1, 0) := by unfold getB; rw [if_neg (by omega), if_neg (by simp; omega)]; rfl
  unfold numT
  simp only [this, num_one h]
  simp

theorem code_failed (b : Nat) (s : ByteArray) (x : Tk) (w : World) (h : TkAt w b s x) (hf : x.f = true) : Calls Try.prog 27 #[.pointer (some ⟨b, 0, none⟩)] w fun e w' => e = .returned (.int .i64 255) ∧ w' = w := by
  have HL := left_failed b s x w h hf
  clear h
  go_enter Try.func27, Try.ntmps27
  go_wp2
  refine wp_loop_rounds 1 ?_
  rw [rounds_succ]
  go_wp2_with fail
  refine HL.mono ?_; rintro e w1 ⟨rfl, rfl⟩
  go_wp2
  go_ret
  exact ⟨rfl, rfl⟩

theorem code_ok (b : Nat) (s : ByteArray) (a : Nat) (w : World) (h : TkAt w b s ⟨a, false⟩) (hs : s.size ≤ 1125899906842624) : Calls Try.prog 27 #[.pointer (some ⟨b, 0, none⟩)] w fun e w' => e = .returned (.int .i64 ((codeL ((bs s).drop a)).2.toNat : Int)) ∧ TkAt w' b s ⟨(a + (codeL ((bs s).drop a)).1 : Nat), false⟩ ∧ Turn b w w' := by
  have hle : a ≤ (bs s).length := by have := (h.rg rfl).2; rw [length_bs]; simp at this; omega
  have HL : Hid (∀ (a : Nat) w, TkAt w b s ⟨a, false⟩ → _) := fun a w h => left_ok b s ⟨a, false⟩ w h rfl hs
  have HN : Hid (∀ (a : Nat) w, TkAt w b s ⟨a, false⟩ → _) := fun a w h => number_c b s ⟨a, false⟩ 1 w (.inl rfl) hs h
  obtain ⟨R, hR⟩ : ∃ R, (codeL ((bs s).drop a)).2 = R := ⟨_, rfl⟩
  obtain ⟨Z, hZ⟩ : ∃ Z, a + (codeL ((bs s).drop a)).1 = Z := ⟨_, rfl⟩
  rw [hR, hZ]
  have H0 : Hid (_) := h
  have HZ : Hid ((codeL ((bs s).drop a)).2 = R ∧ a + (codeL ((bs s).drop a)).1 = Z ∧ a ≤ (bs s).length) := ⟨hR, hZ, hle⟩
  clear h hR hZ hle
  go_enter Try.func27, Try.ntmps27
  go_wp2
  go_loopg [3] ((bs s).length - a + 1) (fun k (_ : Value) wr => ∃ a' : Nat, Hid (TkAt wr b s ⟨a', false⟩) ∧ Hid (Turn b w wr) ∧ Hid ((codeL ((bs s).drop a')).2 = R ∧ a' + (codeL ((bs s).drop a')).1 = Z ∧ a' ≤ (bs s).length) ∧ k = (bs s).length - a' + 1)
  case atStart => exact ⟨a, H0, Turn.refl _ _, HZ, rfl⟩
  case round =>
    obtain ⟨a', hT, hU, hC, hk⟩ := hrel
    go_wp2_with fail
    refine (HL.out a' _ hT.out).mono ?_; rintro e w1 ⟨rfl, hb1⟩
    have T1 : Hid (TkAt w1 b s ⟨a', false⟩) := hT.out.below hb1 hT.out.lt
    have U1 : Hid (Turn b w w1) := hU.out.trans (Turn.of_below hb1 hT.out.lt)
    have HN' := HN.out a' _ T1.out
    clear hb1 hT hU
    by_cases hlt : a' < (bs s).length
    · have hpos : (0 : Int) < (s.size : Int) - (a' : Int) := by rw [length_bs] at hlt; omega
      rw [numT_one hlt] at HN'
      obtain ⟨C1, C2, C3⟩ := hC.out
      rw [codeL_drop hlt] at C1 C2
      generalize (bs s)[a'] = bv at *
      by_cases hz : bv = 0
      · subst hz
        rw [if_pos rfl] at C1 C2
        have hC2 : Hid ((codeL ((bs s).drop (a' + 1))).2 = R ∧ (a' + 1) + (codeL ((bs s).drop (a' + 1))).1 = Z ∧ a' + 1 ≤ (bs s).length) := ⟨C1, by simp only at C2; omega, by omega⟩
        have hk2 : Hid ((bs s).length - (a' + 1) + 1 < gk) := by show _ < _; omega
        clear hC C1 C2 C3 hk hlt
        go_wp2_with fail
        refine HN'.mono ?_; rintro e w2 ⟨rfl, hT2, hU2⟩
        have T2 : Hid (TkAt w2 b s ⟨((a' + 1 : Nat) : Int), false⟩) := hT2
        have U2 : Hid (Turn b w w2) := U1.out.trans hU2
        clear hT2 hU2 HN' T1 U1
        go_wp2
        go_roundg ((bs s).length - (a' + 1) + 1)
        case measure => exact hk2.out
        case rel => exact ⟨a' + 1, T2, U2, hC2, rfl⟩
      · rw [if_neg hz] at C1 C2
        have hz2 : (((bv.toNat : Nat) : Int) != 0) = true := by
          simp only [bne_iff_ne, ne_eq]; intro e; apply hz; apply UInt8.toNat_inj.1; simpa using e
        simp only at C1 C2
        subst C1
        have hZ : Hid (a' + 1 = Z) := C2
        clear hC C2 C3 hz hk hlt
        go_wp2_with fail
        refine HN'.mono ?_; rintro e w2 ⟨rfl, hT2, hU2⟩
        have T2 : Hid (TkAt w2 b s ⟨((a' + 1 : Nat) : Int), false⟩) := hT2
        have U2 : Hid (Turn b w w2) := U1.out.trans hU2
        clear hT2 hU2 HN' T1 U1
        go_wp2
        go_ret
        rw [hZ.out] at T2
        exact ⟨rfl, T2.out, U2.out⟩
    · have hd : (bs s).drop a' = [] := List.drop_eq_nil_of_le (by omega)
      obtain ⟨C1, C2, C3⟩ := hC.out
      rw [hd] at C1 C2
      have hsz := length_bs s
      have hpos : ¬ (0 : Int) < (s.size : Int) - (a' : Int) := by omega
      simp only [codeL] at C1 C2
      subst C1
      have hZ : Hid (a' = Z) := C2
      clear hC C2 C3 hk hlt hd hsz HN'
      go_wp2
      go_ret
      rw [hZ.out] at T1
      exact ⟨rfl, T1.out, U1.out⟩
end Go.Proofs.Ytegoaaamlfehpaa
