/-
  Contracts of the laws' CopyOptions, LendOptions, KeptOptions and SpoilOptions.
-/
import Derived.Test.YtegoaaamlfehpaaOptRef4
namespace Go.Proofs.Ytegoaaamlfehpaa
open Go.ChangeShapes Go.WideShapes Go.ChangeAt Go.RowKit Go.Pin Go.PlainAid

theorem op_from {w : World} {base g n c : Nat} {ks : List Opn} (h : Opts w base (.slice (some ⟨g, 0, none⟩) n c) ks) : OpFrom w ⟨g, 0, none⟩ ks ∧ n ≤ c ∧ base ≤ g ∧ g < w.heap.size := by
  obtain ⟨a, cap, hv, hl⟩ := h.lies
  rcases h.2 with ⟨hh, _⟩ | ⟨g', c', cur, hv', hg, hb, hn, _⟩
  · cases hh
  · simp only [Value.slice.injEq, Option.some.injEq, Addr.mk.injEq, and_true] at hv'
    obtain ⟨rfl, rfl, rfl⟩ := hv'
    simp only [Value.slice.injEq] at hv
    obtain ⟨rfl, _, rfl⟩ := hv
    refine ⟨?_, hn, hg, (Array.getElem?_eq_some_iff.1 hb).1⟩
    rcases hl with rfl | ⟨x, hx, hl⟩
    · intro j hj; simp at hj
    · cases hx; exact hl

theorem spoilOp_nil (c : Nat) (w : World) : Calls Try.prog 18 #[.slice none 0 c] w fun e w' => e = .returned (.tuple #[]) ∧ w' = w := by
  go_enter Try.func18, Try.ntmps18
  go_wp2
  go_rounds 1
  go_end0
  exact ⟨rfl, rfl⟩

theorem spoilOp_some (g c base : Nat) (ks : List Opn) (w : World) (hl : ks.length ≤ 1000000000) (hg : base ≤ g) (h : OpFrom w ⟨g, 0, none⟩ ks) (hf : ∀ j, w.frozen? ⟨g, j, none⟩ = false) :
    Calls Try.prog 18 #[.slice (some ⟨g, 0, none⟩) ks.length c] w fun e w' => e = .returned (.tuple #[]) ∧ Below base w w' := by
  have Hc : Hid (∀ j, j < ks.length → w.cell? ⟨g, j * 2, none⟩ = some (.int .i64 (opAt ks j).1)) := fun j hj => by
    have := (h j hj).1
    rw [addr_add, Nat.zero_add] at this
    exact this
  have Hf : Hid (∀ j, w.frozen? ⟨g, j, none⟩ = false) := hf
  clear h hf
  go_enter Try.func18, Try.ntmps18
  go_wp2
  go_loopw [2] (fun i wr => ∃ j : Nat, j ≤ ks.length ∧ i = .int .i64 j ∧ Hid (∀ k, j ≤ k → k < ks.length → wr.cell? ⟨g, k * 2, none⟩ = some (.int .i64 (opAt ks k).1)) ∧ Hid (∀ k, wr.frozen? ⟨g, k, none⟩ = false) ∧ Below base w wr) (fun i _ => ks.length - (intOf i).toNat)
  case atStart => exact ⟨0, Nat.zero_le _, rfl, fun k _ hk => Hc.out k hk, Hf, Below.refl _ _⟩
  case round =>
    obtain ⟨j, hj, rfl, hc, hf, hnx⟩ := hrel
    by_cases hlt : j < ks.length
    · have hce := hc.out j (Nat.le_refl _) hlt
      have hfr := hf.out (j * 2)
      generalize (opAt ks j).1 = z at hce
      go_wp2
      refine ⟨⟨j + 1, by omega, by go_num, fun k h1 h2 => ?_, fun k => ?_, hnx.setCell hg _⟩, by simp [intOf]; omega⟩
      · rw [World.cell?_setCell_other _ _ _ _ (by intro e; injection e with _ e; omega)]
        exact hc.out k (by omega) h2
      · rw [World.frozen?_setCell]
        exact hf.out k
    · obtain rfl : j = ks.length := by omega
      go_wp2
      go_end0
      exact ⟨rfl, hnx⟩

theorem spoilOp_c (v : Value) (base : Nat) (ks : List Opn) (w : World) (hl : ks.length ≤ 1000000000) (h : Opts w base v ks) :
    Calls Try.prog 18 #[v] w fun e w' => e = .returned (.tuple #[]) ∧ Below base w w' := by
  have hh := h
  rcases h.2 with ⟨rfl, _⟩ | ⟨g, c, cur, rfl, hg, hb, _⟩
  · exact (spoilOp_nil 0 w).mono fun e w' ⟨h1, h2⟩ => ⟨h1, by rw [h2]; exact Below.refl _ _⟩
  · exact spoilOp_some g c base ks w hl hg (op_from hh).1 (fun j => World.ownsRow.frozenAt hh j)

end Go.Proofs.Ytegoaaamlfehpaa
