/-
  Contract of package wire's Get, at every text and place.
-/
import Derived.Test.YteaediobcjednaaWireStep
namespace Go.Proofs.Yteaediobcjednaa
open Go.ChangeShapes Go.WideShapes Go.ChangeAt Go.RowKit Go.Pin Go.PlainAid

/-- What a call of Get answers. -/
def told (r : List UInt8 × Int × Int) : Ending := .returned (.tuple #[.string (mk r.1), .int .i64 r.2.1, .int .i64 r.2.2])

theorem get_below (s : ByteArray) (a : Int) (w : World) (h : a < 0) : Calls Try.prog 58 #[.string s, .int .i64 a] w fun e w' => e = told ([], 0, 300) ∧ w' = w := by
  go_enter Try.func58, Try.ntmps58
  go_wp2
  go_ret3
  exact ⟨rfl, rfl⟩

theorem wstep_ok {s : List UInt8} {x y : St} {d : Bool} (h : stepWire s x = .inr (d, y)) (h8 : x.labs.length ≤ 8) (hok : ∀ l ∈ x.labs, okL l = true) : y.labs.length ≤ 8 ∧ ∀ l ∈ y.labs, okL l = true := by
  unfold stepWire at h
  split at h
  · cases h
  · simp only at h
    split at h
    · simp only [Sum.inr.injEq, Prod.mk.injEq] at h
      obtain ⟨_, rfl⟩ := h
      exact ⟨h8, hok⟩
    · split at h
      · split at h
        · cases h
        · split at h
          · rename_i hh
            simp only [Sum.inr.injEq, Prod.mk.injEq] at h
            obtain ⟨_, rfl⟩ := h
            refine ⟨by simp; omega, fun l hl => ?_⟩
            rcases List.mem_append.1 hl with hl | hl
            · exact hok l hl
            · simp at hl; subst hl; exact hh.1
          · cases h
      · split at h
        · split at h
          · cases h
          · split at h
            · cases h
            · simp only [Sum.inr.injEq, Prod.mk.injEq] at h
              obtain ⟨_, rfl⟩ := h
              exact ⟨h8, hok⟩
        · cases h

theorem wstep_err {s : List UInt8} {x : St} {e : Int} (h : stepWire s x = .inl e) : e = 300 ∨ e = 301 := by
  unfold stepWire at h
  split at h
  · cases h; simp
  · simp only at h
    split at h
    · cases h
    · split at h
      · split at h
        · cases h; simp
        · split at h
          · cases h
          · cases h; simp
      · split at h
        · split at h
          · cases h; simp
          · split at h
            · cases h; simp
            · cases h
        · cases h; simp

theorem get_from (s : ByteArray) (a : Nat) (w : World) (hs : s.size ≤ 1125899906842624) : Calls Try.prog 58 #[.string s, .int .i64 a] w fun e w' => e = told (getL (bs s) a) ∧ Below w.heap.size w w' := by
  have HR : Hid (getL (bs s) a = endWire (allWire (bs s) ⟨a, a, 0, []⟩)) := rfl
  generalize getL (bs s) a = R at *
  have hpos : 0 ≤ (a : Int) := by omega
  go_enter Try.func58, Try.ntmps58
  go_wp2_with fail
  go_loopg [8] (muWire (bs s) ⟨a, a, 0, []⟩ + 1) (fun k (d : Value) wr => ∃ (x : St) (v : Value), Way wr w.heap.size s x v ∧ Texts wr (w.heap.size + 1) v x.labs ∧ Below w.heap.size w wr ∧ x.labs.length ≤ 8 ∧ (∀ l ∈ x.labs, okL l = true) ∧ R = endWire (allWire (bs s) x) ∧ k = muWire (bs s) x + 1)
  case atStart =>
    refine ⟨⟨a, a, 0, []⟩, .slice none 0 0, ⟨?_, ?_, ?_, ?_, ?_, ?_, by simp⟩, World.ownsRow_nil _ _ _ _, (Below.refl _ _).alloc (Nat.le_refl _) _, by simp, by simp, HR.out, rfl⟩
    · exact new_cell _ _ _ _ _ rfl
    · exact new_cell _ _ _ _ _ rfl
    · exact new_cell _ _ _ _ _ rfl
    · exact new_cell _ _ _ _ _ rfl
    · exact new_cell _ _ _ _ _ rfl
    · exact fun j => new_frozen _ _ _ _
  case round =>
    obtain ⟨x, v, hw, ho, hb, h8, hok, hR, hk⟩ := hrel
    have lt := hw.lt
    have HC := step_c w.heap.size s x v wr hw ho hs h8
    have HK : Hid (gk = muWire (bs s) x + 1 ∧ R = endWire (allWire (bs s) x)) := ⟨hk, hR⟩
    have HO : Hid (x.labs.length ≤ 8 ∧ ∀ l ∈ x.labs, okL l = true) := ⟨h8, hok⟩
    have HB : Hid (Below w.heap.size w wr) := hb
    clear hR hk hw ho h8 hok HR hb
    cases hst : stepWire (bs s) x with
    | inl er =>
      rw [hst] at HC
      have H1 : Hid (R = ([], 0, er)) := by rw [HK.out.2, allWire_err hst]; rfl
      have her : (er != 0) = true := by rcases wstep_err hst with h | h <;> simp [h]
      clear hst
      go_wp2_with fail
      refine HC.mono ?_; rintro e w1 ⟨rfl, hb1⟩
      go_wp2
      go_ret3
      rw [H1.out]
      exact ⟨rfl, HB.out.trans hb1⟩
    | inr dy =>
      obtain ⟨d, y⟩ := dy
      rw [hst] at HC
      have Hy : Hid (y.labs.length ≤ 8 ∧ ∀ l ∈ y.labs, okL l = true) := wstep_ok hst HO.out.1 HO.out.2
      cases d with
      | false =>
        have H1 : Hid (R = endWire (allWire (bs s) y)) := by rw [HK.out.2, allWire_on hst]; rfl
        have H2 : Hid (muWire (bs s) y < muWire (bs s) x) := wstep_mu hst
        clear hst
        go_wp2_with fail
        refine HC.mono ?_; rintro e w1 ⟨rfl, hb1, v1, hw1, ht1⟩
        have H3 : Hid (Way w1 w.heap.size s y v1 ∧ Texts w1 (w.heap.size + 1) v1 y.labs ∧ Below w.heap.size w w1) := ⟨hw1, ht1, HB.out.trans hb1⟩
        clear hb1 hw1 ht1
        go_wp2
        go_roundg (muWire (bs s) y + 1)
        case measure => have := HK.out.1; have := H2.out; omega
        case rel => exact ⟨y, v1, H3.out.1, H3.out.2.1, H3.out.2.2, Hy.out.1, Hy.out.2, H1.out, rfl⟩
      | true =>
        have H1 : Hid (R = (join y.labs, (y.en : Int), 0)) := by rw [HK.out.2, allWire_end hst]; rfl
        clear hst
        go_wp2_with fail
        refine HC.mono ?_; rintro e w1 ⟨rfl, hb1, v1, hw1, ht1⟩
        have HJ : Hid (∀ w2, Below w1.heap.size w1 w2 → Calls Try.prog 63 #[v1, .string ⟨#[46]⟩] w2 fun e w' => e = .returned (.string (mk (join y.labs))) ∧ Below w2.heap.size w2 w') := fun w2 h2 => join_c v1 y.labs _ w2 (ht1.below h2) Hy.out.1 Hy.out.2
        have H3 : Hid (Below w.heap.size w w1) := HB.out.trans hb1
        have d4 := hw1.c4
        have d3 := hw1.c3
        have lt1 := hw1.lt
        clear hb1 hw1 ht1
        go_wp2_with fail
        go_region_with (refine (HJ.out _ (by first | exact Below.refl _ _ | exact (Below.refl _ _).drew)).mono ?_; rintro e w2 ⟨rfl, hb2⟩; have d3' := (hb2.cell (p := ⟨w.heap.size, 3, none⟩) (by simpa using lt1)).trans d3)
        all_goals
          go_wp2
          go_ret3
          rw [H1.out]
          exact ⟨rfl, H3.out.trans (Below.mono (bel_trans ((Below.refl _ w1).drew) hb2) H3.out.size)⟩

/-- Get, at every text and place. -/
def getI (s : List UInt8) (a : Int) : List UInt8 × Int × Int := if a < 0 then ([], 0, 300) else getL s a.toNat
theorem get_c (s : ByteArray) (a : Int) (w : World) (hs : s.size ≤ 1125899906842624) : Calls Try.prog 58 #[.string s, .int .i64 a] w fun e w' => e = told (getI (bs s) a) ∧ Below w.heap.size w w' := by
  by_cases h : a < 0
  · rw [getI, if_pos h]
    exact (get_below s a w h).mono fun e w' ⟨h1, h2⟩ => ⟨h1, by rw [h2]; exact Below.refl _ _⟩
  · rw [getI, if_neg h]
    have := get_from s a.toNat w hs
    rwa [show ((a.toNat : Nat) : Int) = a by omega] at this
/-- .. its answer named. -/
theorem get_is (s : ByteArray) (a : Int) (n : ByteArray) (t e0 : Int) (w : World) (hs : s.size ≤ 1125899906842624) (h : getI (bs s) a = (bs n, t, e0)) : Calls Try.prog 58 #[.string s, .int .i64 a] w fun e w' => e = .returned (.tuple #[.string n, .int .i64 t, .int .i64 e0]) ∧ Below w.heap.size w w' := by
  have := get_c s a w hs
  rw [h, told, mk_bs] at this
  exact this

end Go.Proofs.Yteaediobcjednaa
