/-
  Lists of options: how they lie in memory; contract of the laws' SameOptions.
-/
import Derived.Test.YtkohojifnmklmaaOptPure
import Derived.Test.YtkohojifnmklmaaOBase
namespace Go.Proofs.Ytkohojifnmklmaa
open Go.ChangeShapes Go.WideShapes Go.ChangeAt Go.RowKit Go.Pin Go.PlainAid

/-- The j-th of them. -/
def opAt (ks : List Opn) (j : Nat) : Opn := ks.getD j (0, [])
/-- The two cells of one of them. -/
def OpCell (w : World) (y : Addr) (k : Opn) : Prop := w.cell? y = some (.int .i64 k.1) ∧ w.cell? ⟨y.block, y.off + 1, none⟩ = some (.string (mk k.2))
/-- The options ks lie from x on. -/
def OpFrom (w : World) (x : Addr) (ks : List Opn) : Prop := ∀ j, j < ks.length → OpCell w (x.add (j * 2)) (opAt ks j)
/-- The options ks lie behind the address a. -/
def OpLies (w : World) (a : Option Addr) (ks : List Opn) : Prop := ks = [] ∨ ∃ x, a = some x ∧ OpFrom w x ks
theorem opAt_mem {ks : List Opn} {j : Nat} (hj : j < ks.length) : opAt ks j ∈ ks := by
  unfold opAt
  rw [List.getD_eq_getElem?_getD, List.getElem?_eq_getElem hj]
  exact List.getElem_mem hj
theorem OpCell.below {w w' : World} {y : Addr} {k : Opn} (h : OpCell w y k) (hb : Below w.heap.size w w') : OpCell w' y k := by
  obtain ⟨h0, h1⟩ := h
  exact ⟨(hb.cell (World.block_lt_of_cell? w _ h0)).trans h0, (hb.cell (World.block_lt_of_cell? w _ h1)).trans h1⟩
theorem OpFrom.below {w w' : World} {x : Addr} {ks : List Opn} (h : OpFrom w x ks) (hb : Below w.heap.size w w') : OpFrom w' x ks := fun j hj => (h j hj).below hb
theorem OpLies.below {w w' : World} {a : Option Addr} {ks : List Opn} (h : OpLies w a ks) (hb : Below w.heap.size w w') : OpLies w' a ks := by
  rcases h with h | ⟨x, rfl, h⟩
  · exact .inl h
  · exact .inr ⟨x, rfl, h.below hb⟩


theorem sameOp_lens (a b : Option Addr) (n m c d : Nat) (w : World) (h : n ≠ m) :
    Calls Try.prog 28 #[.slice a n c, .slice b m d] w fun e w' => e = .returned (.bool false) ∧ w' = w := by
  have h' : ((n : Int) != m) = true := by simp; omega
  go_enter Try.func28, Try.ntmps28
  go_wp2
  go_ret
  exact ⟨rfl, rfl⟩

theorem sameOp_none (a b : Option Addr) (c d : Nat) (w : World) :
    Calls Try.prog 28 #[.slice a 0 c, .slice b 0 d] w fun e w' => e = .returned (.bool true) ∧ w' = w := by
  go_enter Try.func28, Try.ntmps28
  go_wp2
  go_rounds 1
  go_ret
  exact ⟨rfl, rfl⟩

theorem sameOp_from (x y : Addr) (c d : Nat) (ks : List Opn) (w : World) (hl : ks.length ≤ 10000000000000) (hx : OpFrom w x ks) (hy : OpFrom w y ks) :
    Calls Try.prog 28 #[.slice (some x) ks.length c, .slice (some y) ks.length d] w fun e w' => e = .returned (.bool true) ∧ Below w.heap.size w w' := by
  have HX : Hid (OpFrom w x ks) := hx
  have HY : Hid (OpFrom w y ks) := hy
  clear hx hy
  go_enter Try.func28, Try.ntmps28
  go_wp2
  go_loopw [5] (fun i wr => ∃ j : Nat, j ≤ ks.length ∧ i = .int .i64 j ∧ Below w.heap.size w wr) (fun i _ => ks.length - (intOf i).toNat)
  case atStart => exact ⟨0, Nat.zero_le _, rfl, Below.refl _ _⟩
  case round =>
    obtain ⟨j, hj, rfl, B⟩ := hrel
    by_cases hlt : j < ks.length
    · obtain ⟨h0, h1⟩ := (HX.out j hlt).below B
      obtain ⟨g0, g1⟩ := (HY.out j hlt).below B
      have hlt' : (j : Int) < (ks.length : Int) := by omega
      generalize opAt ks j = k at *
      obtain ⟨n, a⟩ := k
      simp only at h0 h1 g0 g1
      go_wp2
      go_quiet (fail)
      go_wp2
      exact ⟨⟨j + 1, by omega, by go_num, below_drewN B _⟩, by simp [intOf]; omega⟩
    · obtain rfl : j = ks.length := by omega
      go_wp2
      go_ret
      exact ⟨rfl, B⟩

theorem sameOp_c (a b : Option Addr) (n m c d : Nat) (ks : List Opn) (w : World) (hn : n = ks.length) (hm : m = ks.length) (hl : ks.length ≤ 10000000000000) (ha : OpLies w a ks) (hb : OpLies w b ks) :
    Calls Try.prog 28 #[.slice a n c, .slice b m d] w fun e w' => e = .returned (.bool true) ∧ Below w.heap.size w w' := by
  subst hn hm
  rcases ha with rfl | ⟨x, rfl, ha⟩
  · exact (sameOp_none a b c d w).mono fun e w' ⟨h1, h2⟩ => ⟨h1, by rw [h2]; exact Below.refl _ _⟩
  · rcases hb with rfl | ⟨y, rfl, hb⟩
    · exact (sameOp_none _ b c d w).mono fun e w' ⟨h1, h2⟩ => ⟨h1, by rw [h2]; exact Below.refl _ _⟩
    · exact sameOp_from x y c d ks w hl ha hb

/-! ### lists of options that a call made -/
def opCells (ks : List Opn) : List Value := ks.flatMap fun k => [.int .i64 k.1, .string (mk k.2)]
theorem opCells_len (ks : List Opn) : (opCells ks).length = ks.length * 2 := by
  induction ks with
  | nil => rfl
  | cons k r ih =>
    have hc : opCells (k :: r) = .int .i64 k.1 :: .string (mk k.2) :: opCells r := rfl
    rw [hc, List.length_cons, List.length_cons, List.length_cons, ih]; omega
theorem opCells_append (a b : List Opn) : opCells (a ++ b) = opCells a ++ opCells b := by simp [opCells]
theorem opCells_at (ks : List Opn) : ∀ j, j < ks.length → (opCells ks)[j * 2]? = some (.int .i64 (opAt ks j).1) ∧ (opCells ks)[j * 2 + 1]? = some (.string (mk (opAt ks j).2)) := by
  induction ks with
  | nil => intro j hj; simp at hj
  | cons k r ih =>
    intro j hj
    have hc : opCells (k :: r) = .int .i64 k.1 :: .string (mk k.2) :: opCells r := rfl
    cases j with
    | zero => exact ⟨rfl, rfl⟩
    | succ j =>
      obtain ⟨h1, h2⟩ := ih j (by simp at hj; omega)
      rw [hc, show (j + 1) * 2 = j * 2 + 1 + 1 by omega, show j * 2 + 1 + 1 + 1 = (j * 2 + 1) + 1 + 1 by omega]
      exact ⟨h1, h2⟩
theorem opCells_one (ks : List Opn) : ∀ u ∈ opCells ks, u.oneCell' = true := by
  intro u hu
  simp only [opCells, List.mem_flatMap] at hu
  obtain ⟨k, _, hu⟩ := hu
  simp at hu
  rcases hu with rfl | rfl <;> rfl
/-- A list of options that the call itself made. -/
def Opts (w : World) (base : Nat) (v : Value) (ks : List Opn) : Prop := w.ownsRow base 39 2 v ks.length (opCells ks)

theorem opcells_of_from {w : World} {x : Addr} {ks : List Opn} (h : OpFrom w x ks) : ∀ j u, (opCells ks)[j]? = some u → w.cell? (x.add j) = some u := by
  intro j u hj
  have hjl : j < (opCells ks).length := (List.getElem?_eq_some_iff.1 hj).1
  rw [opCells_len] at hjl
  obtain ⟨h1, h2⟩ := opCells_at ks (j / 2) (by omega)
  obtain ⟨g1, g2⟩ := h (j / 2) (by omega)
  rcases Nat.mod_two_eq_zero_or_one j with hm | hm
  · rw [show j = j / 2 * 2 by omega] at hj ⊢
    rw [h1] at hj
    rw [g1, hj]
  · rw [show j = j / 2 * 2 + 1 by omega] at hj ⊢
    rw [h2] at hj
    rw [← hj, ← g2]
    congr 1
    unfold Addr.add
    rw [if_neg (by omega)]
    by_cases hz : j / 2 * 2 = 0
    · rw [if_pos hz, hz]
    · rw [if_neg hz]; simp only [Addr.mk.injEq, and_true, true_and]; omega

theorem Opts.lies {w : World} {base : Nat} {v : Value} {ks : List Opn} (h : Opts w base v ks) : ∃ a cap, v = .slice a ks.length cap ∧ OpLies w a ks := by
  have hh := h
  obtain ⟨_, h | ⟨g, cap, cur, hv, hg, hb, hn, hm, hz, ht⟩⟩ := h
  · exact ⟨none, 0, by rw [h.1, h.2], .inl (List.eq_nil_of_length_eq_zero h.2)⟩
  · refine ⟨_, cap, hv, .inr ⟨_, rfl, fun j hj => ?_⟩⟩
    subst hv
    have key : ∀ i, i < ks.length * 2 → w.cell? ⟨g, i, none⟩ = (opCells ks)[i]? := by
      intro i hi
      simp only [World.cell?, hb]
      rw [← ht, List.getElem?_take, if_pos hi]
      simp
    obtain ⟨h1, h2⟩ := opCells_at ks j hj
    refine ⟨?_, ?_⟩
    · rw [addr_add, Nat.zero_add, key _ (by omega), h1]
    · rw [addr_add]
      simp only [Nat.zero_add]
      rw [key _ (by omega), h2]
theorem Opts.below {w w' : World} {base : Nat} {v : Value} {ks : List Opn} (h : Opts w base v ks) (hb : Below w.heap.size w w') : Opts w' base v ks := by
  obtain ⟨h1, h2⟩ := h
  refine ⟨h1, ?_⟩
  rcases h2 with h2 | ⟨g, cap, cur, hv, hg, hh, r⟩
  · exact .inl h2
  · exact .inr ⟨g, cap, cur, hv, hg, (hb.block g (Array.getElem?_eq_some_iff.1 hh).1).trans hh, r⟩
theorem Opts.base {w : World} {b b' : Nat} {v : Value} {ks : List Opn} (h : Opts w b v ks) (hb : b' ≤ b) : Opts w b' v ks := by
  obtain ⟨h1, h2⟩ := h
  refine ⟨h1, ?_⟩
  rcases h2 with h2 | ⟨g, cap, cur, hv, hg, r⟩
  · exact .inl h2
  · exact .inr ⟨g, cap, cur, hv, Nat.le_trans hb hg, r⟩
theorem Try.infoOp : (Try.prog.info? 39).map (fun i => (i.zero, i.size, i.bytes)) = some (some (.agg #[.int .i64 0, .string ByteArray.empty]), 2, 24) := by kernel_rfl

end Go.Proofs.Ytkohojifnmklmaa
