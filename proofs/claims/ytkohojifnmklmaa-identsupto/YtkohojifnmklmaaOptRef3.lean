/-
  Contracts of the document's own answers of layer 6: FindOpt, join, GetOpts.
-/
import Derived.Test.YtkohojifnmklmaaOptRef2
import Derived.Test.YtkohojifnmklmaaOptRead
namespace Go.Proofs.Ytkohojifnmklmaa
open Go.ChangeShapes Go.WideShapes Go.ChangeAt Go.RowKit Go.Pin Go.PlainAid

theorem rFind_from (x : Addr) (cap : Nat) (os : List Opn) (c : Int) (w : World) (hl : os.length ≤ 10000000000000) (h : OpFrom w x os) :
    Calls Try.prog 19 #[.slice (some x) os.length cap, .int .i64 c] w fun e w' => e = .returned (.tuple #[.string (mk (findA os c).1), .bool (findA os c).2]) ∧ w' = w := by
  have HF : Hid (_) := find_at os c
  have HA : Hid (findA os c = ((findO os c).getD [], (findO os c).isSome)) := rfl
  generalize findA os c = V at *
  generalize findO os c = U at *
  have H : Hid (OpFrom w x os) := h
  clear h
  go_enter Try.func19, Try.ntmps19
  go_wp2
  go_loop [6] (fun i => ∃ j : Nat, j ≤ os.length ∧ i = .int .i64 j ∧ Hid (∀ i, i < j → (opAt os i).1 ≠ c)) (fun i => os.length - (intOf i).toNat)
  case atStart => exact ⟨0, Nat.zero_le _, rfl, fun i hi => by omega⟩
  case round =>
    obtain ⟨j, hj, rfl, hall⟩ := hrel
    by_cases hlt : j < os.length
    · obtain ⟨h0, h1⟩ := H.out j hlt
      by_cases he : (opAt os j).1 = c
      · have HV : Hid (V = ((opAt os j).2, true)) := by
          show _ = _
          rcases HF.out with ⟨i, hi, h1, h2, h3⟩ | ⟨h1, h2⟩
          · have : i = j := by
              rcases Nat.lt_trichotomy i j with hh | hh | hh
              · exact absurd h1 (hall.out i hh)
              · exact hh
              · exact absurd he (h3 j hh)
            subst this; rw [HA.out, h2]; rfl
          · exact absurd he (h2 j hlt)
        have heq : ((opAt os j).1 == c) = true := by simpa using he
        generalize (opAt os j).1 = cj at *
        generalize (opAt os j).2 = dj at *
        subst he
        clear HF hall HA
        go_wp2
        go_ret2
        refine ⟨?_, rfl⟩
        rw [HV.out]
        rfl
      · have heq : ((opAt os j).1 == c) = false := by simpa using he
        have Hne : Hid ((opAt os j).1 ≠ c) := he
        clear he
        go_wp2
        go_round
        case rel => exact ⟨j + 1, by omega, by go_num, fun i hi => by by_cases e : i = j; (subst e; exact Hne.out); exact hall.out i (by omega)⟩
        case measure => simp [intOf]; omega
    · obtain rfl : j = os.length := by omega
      have HV : Hid (V = ([], false)) := by
        show _ = _
        rcases HF.out with ⟨i, hi, h1, h2, h3⟩ | ⟨h1, h2⟩
        · exact absurd h1 (hall.out i hi)
        · rw [HA.out, h1]; rfl
      go_wp2
      go_ret2
      refine ⟨?_, rfl⟩
      rw [HV.out]
      rfl
theorem rFind_nil (a : Option Addr) (cap : Nat) (c : Int) (w : World) :
    Calls Try.prog 19 #[.slice a 0 cap, .int .i64 c] w fun e w' => e = .returned (.tuple #[.string ⟨#[]⟩, .bool false]) ∧ w' = w := by
  go_enter Try.func19, Try.ntmps19
  go_wp2
  go_rounds 1
  go_ret2
  exact ⟨rfl, rfl⟩
theorem rFind_c (a : Option Addr) (cap : Nat) (os : List Opn) (c : Int) (w : World) (hl : os.length ≤ 10000000000000) (h : OpLies w a os) :
    Calls Try.prog 19 #[.slice a os.length cap, .int .i64 c] w fun e w' => e = .returned (.tuple #[.string (mk (findA os c).1), .bool (findA os c).2]) ∧ w' = w := by
  rcases h with rfl | ⟨x, rfl, h⟩
  · exact rFind_nil a cap c w
  · exact rFind_from x cap os c w hl h

theorem ownsO_empty (w : World) : (w.alloc (.cells #[] 39)).ownsRow w.heap.size 39 2 (.slice (some ⟨w.heap.size, 0, none⟩) 0 0) 0 [] :=
  World.ownsRow_lit w #[] 0 (Nat.le_refl _) (by decide) rfl
theorem place_first {os : List Opn} {c : Int} {j : Nat} (hj : j < os.length) (he : (opAt os j).1 = c) (hall : ∀ i, i < j → (opAt os i).1 ≠ c) : placeO os c = some j := by
  induction os generalizing j with
  | nil => simp at hj
  | cons k r ih =>
    cases j with
    | zero => have : k.1 = c := he; simp [placeO, this]
    | succ j =>
      have h0 : k.1 ≠ c := hall 0 (by omega)
      have := ih (j := j) (by simp at hj; omega) he (fun i hi => hall (i + 1) (by omega))
      simp [placeO, h0, this]
theorem opCells_set2 {os : List Opn} {j : Nat} {o : Opn} (hj : j < os.length) : opCells (os.set j o) = ((opCells os).set (j * 2) (.int .i64 o.1)).set (j * 2 + 1) (.string (mk o.2)) := by
  induction os generalizing j with
  | nil => simp at hj
  | cons k r ih =>
    have e1 : opCells (k :: r) = .int .i64 k.1 :: .string (mk k.2) :: opCells r := rfl
    cases j with
    | zero => rfl
    | succ j =>
      have := ih (j := j) (by simp at hj; omega)
      have e2 : opCells ((k :: r).set (j + 1) o) = .int .i64 k.1 :: .string (mk k.2) :: opCells (r.set j o) := rfl
      rw [e1, e2, this, show (j + 1) * 2 = j * 2 + 1 + 1 by omega, show j * 2 + 1 + 1 + 1 = (j * 2 + 1) + 1 + 1 by omega]
      rfl
theorem opts_form {w : World} {base : Nat} {a : Option Addr} {n cap : Nat} {os : List Opn} (h : Opts w base (.slice a n cap) os) (hn : 0 < os.length) : ∃ g, a = some ⟨g, 0, none⟩ ∧ base ≤ g ∧ n = os.length := by
  rcases h.2 with ⟨_, h⟩ | ⟨g, cap', cur, hv, hg, _⟩
  · omega
  · simp only [Value.slice.injEq] at hv; exact ⟨g, hv.1, hg, hv.2.1⟩
end Go.Proofs.Ytkohojifnmklmaa
