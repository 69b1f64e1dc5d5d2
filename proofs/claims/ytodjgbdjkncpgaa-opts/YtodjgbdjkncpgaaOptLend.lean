/-
  Contracts of the laws' CopyOptions, LendOptions, KeptOptions and SpoilOptions.
-/
import Derived.Test.YtodjgbdjkncpgaaOptRef4
namespace Go.Proofs.Ytodjgbdjkncpgaa
open Go.ChangeShapes Go.WideShapes Go.ChangeAt Go.RowKit Go.Pin Go.PlainAid

theorem copyOp_nil (cap : Nat) (w : World) : Calls Try.prog 20 #[.slice none 0 cap] w fun e w' => (∃ v, e = .returned v ∧ Opts w' w.heap.size v []) ∧ Below w.heap.size w w' := by
  go_enter Try.func20, Try.ntmps20
  go_wp2
  go_ret
  exact ⟨⟨_, rfl, owns_empty w⟩, (Below.refl _ _).alloc (Nat.le_refl _) _⟩

set_option maxRecDepth 100000 in
theorem copyOp_some (x : Addr) (cap : Nat) (ks : List Opn) (w : World) (hl : ks.length * 24 ≤ 140737488351232) (h : ∀ j u, (opCells ks)[j]? = some u → w.cell? (x.add j) = some u) :
    Calls Try.prog 20 #[.slice (some x) ks.length cap] w fun e w' => (∃ v, e = .returned v ∧ Opts w' w.heap.size v ks) ∧ Below w.heap.size w w' := by
  obtain ⟨i0, hi, hz0, hz1, hz2⟩ := info_parts Try.infoOp
  have H : Hid (∀ o j u, (opCells ks)[j]? = some u → (w.alloc o).cell? (x.add j) = some u) := by
    intro o j u hj
    have := h j u hj
    rw [← this]
    exact ((Below.refl w.heap.size w).alloc (Nat.le_refl _) o).cell (World.block_lt_of_cell? w _ this)
  clear h
  go_enter Try.func20, Try.ntmps20
  go_wp2_with (first
    | (at_builtin; refine wpList_append_own _ rfl _ _ 22 rfl w.heap.size 42 i0 (.agg #[.int .i64 0, .string ByteArray.empty]) 2 24 Try.underlying22 hi hz0 hz1 hz2 rfl (by decide) _ 0 [] rfl (owns_empty w) x ks.length cap (opCells ks) rfl (opCells_len ks) (H.out _) (opCells_one ks) ?c3 ?c4 ?c5 ?_)
    | go_in)
  case c3 => unfold maxLen; omega
  case c4 => omega
  case c5 => simp
  · intro v' w3 hown' hgrow _
    have R : Hid (Opts w3 w.heap.size v' ks) := by
      show w3.ownsRow _ _ _ _ _ _
      simpa using hown'
    have B : Below w.heap.size w w3 := ((Below.refl _ _).alloc (Nat.le_refl _) _).grown hgrow (by simp) (fun k hk => by cases hk; exact Nat.le_refl _)
    clear hown' hgrow
    go_wp2
    go_ret
    exact ⟨⟨_, rfl, R.out⟩, B⟩

theorem copyOp_c (a : Option Addr) (cap : Nat) (ks : List Opn) (w : World) (hl : ks.length * 24 ≤ 140737488351232) (h : OpLies w a ks) :
    Calls Try.prog 20 #[.slice a ks.length cap] w fun e w' => (∃ v, e = .returned v ∧ Opts w' w.heap.size v ks) ∧ Below w.heap.size w w' := by
  rcases h with rfl | ⟨x, rfl, h⟩
  · cases a with
    | none => exact copyOp_nil cap w
    | some x => exact copyOp_some x cap [] w hl (fun j u hj => by simp [opCells] at hj)
  · exact copyOp_some x cap ks w hl (opcells_of_from h)

/-- The marked room behind what is lent. -/
def marks : List Opn := [(77777, []), (77777, [])]

set_option maxRecDepth 100000 in
theorem lendOp_c (a : Option Addr) (cap : Nat) (ks : List Opn) (w : World) (hl : ks.length * 24 ≤ 140737488351232) (h : OpLies w a ks) :
    Calls Try.prog 8 #[.slice a ks.length cap] w fun e w' => (∃ g c, e = .returned (.slice (some ⟨g, 0, none⟩) ks.length c) ∧ Opts w' w.heap.size (.slice (some ⟨g, 0, none⟩) (ks.length + 2) c) (ks ++ marks)) ∧ Below w.heap.size w w' := by
  obtain ⟨i0, hi, hz0, hz1, hz2⟩ := info_parts Try.infoOp
  have HC := copyOp_c a cap ks w (by omega) h
  clear h
  go_enter Try.func8, Try.ntmps8
  go_wp2_with fail
  refine HC.mono ?_; rintro e w1 ⟨⟨v1, rfl, hk1⟩, hb1⟩
  clear HC
  have hown : Hid (w1.ownsRow w.heap.size 42 2 v1 ks.length (opCells ks)) := hk1
  have hle := hb1.size
  clear hk1
  go_wp2_with (first
    | (at_builtin; refine wpList_append_own _ rfl _ _ 22 rfl w.heap.size 42 i0 (.agg #[.int .i64 0, .string ByteArray.empty]) 2 24 Try.underlying22 hi hz0 hz1 hz2 rfl (by decide) _ ks.length (opCells ks) rfl (World.ownsRow.alloc hown.out _) ⟨w1.heap.size, 0, none⟩ 2 2 [.int .i64 77777, .string ⟨#[]⟩, .int .i64 77777, .string ⟨#[]⟩] rfl rfl ?c1 ?c2 ?c3 ?c4 ?c5 ?_)
    | go_in)
  case c1 =>
    intro j u hj
    match j, hj with
    | 0, hj => simp at hj; subst hj; exact new_at _ _ _ 0 _ _ rfl rfl
    | 1, hj => simp at hj; subst hj; exact new_at _ _ _ 1 _ _ rfl rfl
    | 2, hj => simp at hj; subst hj; exact new_at _ _ _ 2 _ _ rfl rfl
    | 3, hj => simp at hj; subst hj; exact new_at _ _ _ 3 _ _ rfl rfl
  case c2 => intro u hu; simp only [List.mem_cons, List.not_mem_nil, or_false] at hu; rcases hu with rfl | rfl | rfl | rfl <;> rfl
  case c3 => unfold maxLen; omega
  case c4 => omega
  case c5 => simp; omega
  · intro v' w3 hown' hgrow _
    have R : Opts w3 w.heap.size v' (ks ++ marks) := by
      show w3.ownsRow _ _ _ _ _ _
      have e : (ks ++ marks).length = ks.length + 2 := by simp [marks]
      rw [e, opCells_append]
      exact hown'
    have B : Below w.heap.size w w3 := (hb1.alloc hle _).grown hgrow (by simp; omega) (fun k hk => (World.ownsRow.lt hown.out k hk).1)
    obtain ⟨g, c, rfl, hc2⟩ : ∃ g c, v' = .slice (some ⟨g, 0, none⟩) (ks.length + 2) c ∧ ks.length + 2 ≤ c := by
      rcases R.2 with ⟨_, h⟩ | ⟨g, c, cur, hv, _, _, hn, _⟩
      · simp [marks] at h
      · have e : (ks ++ marks).length = ks.length + 2 := by simp [marks]
        exact ⟨g, c, by rw [hv, e], by omega⟩
    have HR : Hid (_) := R
    clear hown' hgrow R
    go_wp2
    go_ret
    exact ⟨⟨g, c, rfl, HR.out⟩, B⟩

theorem op_from {w : World} {base g n c : Nat} {ks : List Opn} (h : Opts w base (.slice (some ⟨g, 0, none⟩) n c) ks) : OpFrom w ⟨g, 0, none⟩ ks ∧ n ≤ c ∧ base ≤ g ∧ g < w.heap.size := by
  obtain ⟨a, cap, hv, hl⟩ := h.lies
  rcases h.2 with ⟨hh, _⟩ | ⟨g', c', cur, hv', hg, hb, hn, _⟩
  · cases hh
  · simp only [Value.slice.injEq, Option.some.injEq, Addr.mk.injEq, and_true] at hv'
    obtain ⟨rfl, rfl, rfl⟩ := hv'
    simp only [Value.slice.injEq] at hv
    obtain ⟨rfl, _, rfl⟩ := hv
    refine ⟨?_, hn, hg, (Array.getElem?_eq_some_iff.1 hb).1⟩
    rcases hl with rfl | ⟨x, hx, hl⟩
    · intro j hj; simp at hj
    · cases hx; exact hl

theorem keptOp_c (g c cap : Nat) (a : Option Addr) (ks : List Opn) (w : World) (hl : ks.length * 24 ≤ 140737488351232) (hc : ks.length + 2 ≤ c) (h : OpFrom w ⟨g, 0, none⟩ (ks ++ marks)) (hk : OpLies w a ks) :
    Calls Try.prog 18 #[.slice (some ⟨g, 0, none⟩) ks.length c, .slice a ks.length cap] w fun e w' => e = .returned (.bool true) ∧ Below w.heap.size w w' := by
  have hpre : OpLies w (some ⟨g, 0, none⟩) ks := .inr ⟨_, rfl, fun j hj => by
    have := h j (by simp; omega)
    have e : opAt (ks ++ marks) j = opAt ks j := by
      unfold opAt; rw [List.getD_eq_getElem?_getD, List.getElem?_append_left hj, ← List.getD_eq_getElem?_getD]
    rwa [e] at this⟩
  have HS := sameOp_c (some ⟨g, 0, none⟩) a ks.length ks.length c cap ks w rfl rfl (by omega) hpre hk
  have m0 := h ks.length (by simp [marks])
  have m1 := h (ks.length + 1) (by simp [marks])
  have e0 : opAt (ks ++ marks) ks.length = (77777, []) := by
    unfold opAt; rw [List.getD_eq_getElem?_getD, List.getElem?_append_right (Nat.le_refl _)]; simp [marks]
  have e1 : opAt (ks ++ marks) (ks.length + 1) = (77777, []) := by
    unfold opAt; rw [List.getD_eq_getElem?_getD, List.getElem?_append_right (by omega)]; simp [marks]
  rw [e0, addr_add, Nat.zero_add] at m0
  rw [e1, addr_add, Nat.zero_add] at m1
  have M : Hid (∀ w', Below w.heap.size w w' → (w'.cell? ⟨g, ks.length * 2, none⟩ = some (.int .i64 77777) ∧ w'.cell? ⟨g, ks.length * 2 + 1, none⟩ = some (.string ⟨#[]⟩)) ∧ w'.cell? ⟨g, (ks.length + 1) * 2, none⟩ = some (.int .i64 77777) ∧ w'.cell? ⟨g, (ks.length + 1) * 2 + 1, none⟩ = some (.string ⟨#[]⟩)) :=
    fun w' hb => ⟨m0.below hb, m1.below hb⟩
  generalize ks.length = n at *
  clear h hk hpre m0 m1 e0 e1
  go_enter Try.func18, Try.ntmps18
  go_wp2_with fail
  refine HS.mono ?_; rintro e w1 ⟨rfl, hb1⟩
  obtain ⟨⟨c0, c1⟩, c2, c3⟩ := M.out w1 hb1
  go_wp2
  go_ret
  exact ⟨rfl, hb1⟩

theorem spoilOp_nil (c : Nat) (w : World) : Calls Try.prog 17 #[.slice none 0 c] w fun e w' => e = .returned (.tuple #[]) ∧ w' = w := by
  go_enter Try.func17, Try.ntmps17
  go_wp2
  go_rounds 1
  go_end0
  exact ⟨rfl, rfl⟩

theorem spoilOp_some (g c base : Nat) (ks : List Opn) (w : World) (hl : ks.length ≤ 1000000000) (hg : base ≤ g) (h : OpFrom w ⟨g, 0, none⟩ ks) (hf : ∀ j, w.frozen? ⟨g, j, none⟩ = false) :
    Calls Try.prog 17 #[.slice (some ⟨g, 0, none⟩) ks.length c] w fun e w' => e = .returned (.tuple #[]) ∧ Below base w w' := by
  have Hc : Hid (∀ j, j < ks.length → w.cell? ⟨g, j * 2, none⟩ = some (.int .i64 (opAt ks j).1)) := fun j hj => by
    have := (h j hj).1
    rw [addr_add, Nat.zero_add] at this
    exact this
  have Hf : Hid (∀ j, w.frozen? ⟨g, j, none⟩ = false) := hf
  clear h hf
  go_enter Try.func17, Try.ntmps17
  go_wp2
  go_loopw [2] (fun i wr => ∃ j : Nat, j ≤ ks.length ∧ i = .int .i64 j ∧ Hid (∀ k, j ≤ k → k < ks.length → wr.cell? ⟨g, k * 2, none⟩ = some (.int .i64 (opAt ks k).1)) ∧ Hid (∀ k, wr.frozen? ⟨g, k, none⟩ = false) ∧ Below base w wr) (fun i _ => ks.length - (intOf i).toNat)
  case atStart => exact ⟨0, Nat.zero_le _, rfl, fun k _ hk => Hc.out k hk, Hf, Below.refl _ _⟩
  case round =>
    obtain ⟨j, hj, rfl, hc, hf, hnx⟩ := hrel
    by_cases hlt : j < ks.length
    · have hce := hc.out j (Nat.le_refl _) hlt
      have hfr := hf.out (j * 2)
      generalize (opAt ks j).1 = z at hce
      go_wp2
      refine ⟨⟨j + 1, by omega, by go_num, fun k h1 h2 => ?_, fun k => ?_, hnx.setCell hg _⟩, by simp [intOf]; omega⟩
      · rw [World.cell?_setCell_other _ _ _ _ (by intro e; injection e with _ e; omega)]
        exact hc.out k (by omega) h2
      · rw [World.frozen?_setCell]
        exact hf.out k
    · obtain rfl : j = ks.length := by omega
      go_wp2
      go_end0
      exact ⟨rfl, hnx⟩

theorem spoilOp_c (v : Value) (base : Nat) (ks : List Opn) (w : World) (hl : ks.length ≤ 1000000000) (h : Opts w base v ks) :
    Calls Try.prog 17 #[v] w fun e w' => e = .returned (.tuple #[]) ∧ Below base w w' := by
  have hh := h
  rcases h.2 with ⟨rfl, _⟩ | ⟨g, c, cur, rfl, hg, hb, _⟩
  · exact (spoilOp_nil 0 w).mono fun e w' ⟨h1, h2⟩ => ⟨h1, by rw [h2]; exact Below.refl _ _⟩
  · exact spoilOp_some g c base ks w hl hg (op_from hh).1 (fun j => World.ownsRow.frozenAt hh j)

end Go.Proofs.Ytodjgbdjkncpgaa
