/-
  Contracts of slices.Grow and slices.Concat over lists of options.
-/
import Derived.Test.YtegoaaamlfehpaaPackPure
import Derived.Test.YtegoaaamlfehpaaOptGot
import Derived.Lib.AppendZerosOnto
import Derived.Laws.AppendOwnNone
import Derived.Lib.SliceRun
namespace Go.Proofs.Ytegoaaamlfehpaa
open Go.ChangeShapes Go.WideShapes Go.ChangeAt Go.RowKit Go.Pin Go.PlainAid

theorem zero_size (z : Array Value) (n : Nat) : (Builtin.zeroCells z n).size = n * z.size := by simp [Builtin.zeroCells]
set_option maxRecDepth 100000 in
set_option maxHeartbeats 1000000 in
theorem grow_nil (n : Nat) (w : World) (hn : n ≤ 1000) :
    Calls Try.prog 80 #[.slice none 0 0, .int .i64 n] w fun e w' => (∃ v, e = .returned v ∧ Opts w' w.heap.size v []) ∧ Below w.heap.size w w' := by
  by_cases h0 : n = 0
  · subst h0
    go_enter Try.func80, Try.ntmps80
    go_wp2
    go_ret
    exact ⟨⟨_, rfl, World.ownsRow_nil _ _ _ _⟩, Below.refl _ _⟩
  · obtain ⟨i0, hi, hz0, hz1, hz2⟩ := info_parts Try.infoOp
    have hold : (Builtin.firstCells i0.size 0 (.slice none 0 0)).run Try.prog w.drew = .ok ([] : List Value).toArray w.drew := by simp [Builtin.firstCells]
    have hrz : ∀ ty, (Builtin.append_ #[23, 3] ty #[.slice none 0 0, .int .i64 (n : Int)]).run Try.prog w = .ok (.slice (some ⟨w.heap.size, 0, none⟩) (0 + n) (grownCap w (0 + n) 0 25)) _ := fun ty =>
      Lib.run_append_grow_zeros w 23 3 ty 25 i0 _ .i64 .i64 Try.underlying23 Try.underlying3 hi hz0 none 0 0 [] hold n (by omega) (by omega) (by omega) (by omega) (by rw [hz2]; omega) (growslice_fits (by omega) (by rw [hz2]; omega))
    have hG : 0 + n ≤ grownCap w (0 + n) 0 25 := grownCap_ge w _ _ _
    have hG2 : grownCap w (0 + n) 0 25 ≤ maxLen := grownCap_le_maxLen w (0 + n) 0 25 (by unfold maxLen; omega)
    generalize grownCap w (0 + n) 0 25 = G at *
    have hO : Hid (Opts (w.drew.alloc (.cells ([].toArray ++ Builtin.zeroCells (Value.agg #[.int .i64 0, .string ByteArray.empty]).cells n ++ Builtin.zeroCells (Value.agg #[.int .i64 0, .string ByteArray.empty]).cells (G - (0 + n))) 25)) w.heap.size (.slice (some ⟨w.heap.size, 0, none⟩) 0 G) []) := by
      have h2 : (Value.agg #[.int .i64 0, .string ByteArray.empty]).cells.size = 2 := rfl
      have := World.ownsRow_made (base := w.heap.size) (e := 25) (size := 2) w.drew ([].toArray ++ Builtin.zeroCells (Value.agg #[.int .i64 0, .string ByteArray.empty]).cells n ++ Builtin.zeroCells (Value.agg #[.int .i64 0, .string ByteArray.empty]).cells (G - (0 + n))) G (by simp) hG2 (by
        simp only [Array.size_append, zero_size, h2, List.size_toArray, List.length_nil]; omega)
      exact this
    have hB : Hid (Below w.heap.size w (w.drew.alloc (.cells ([].toArray ++ Builtin.zeroCells (Value.agg #[.int .i64 0, .string ByteArray.empty]).cells n ++ Builtin.zeroCells (Value.agg #[.int .i64 0, .string ByteArray.empty]).cells (G - (0 + n))) 25))) := (below_drewN (Below.refl _ _) 1).alloc (by simp) _
    generalize (w.drew.alloc (.cells ([].toArray ++ Builtin.zeroCells (Value.agg #[.int .i64 0, .string ByteArray.empty]).cells n ++ Builtin.zeroCells (Value.agg #[.int .i64 0, .string ByteArray.empty]).cells (G - (0 + n))) 25)) = w1 at *
    have h1 : ¬ ((n : Int) < 0) := by omega
    have h4 : (n : Int) > 0 := by omega
    have hG63 : G ≤ 9223372036854775807 := by unfold maxLen at hG2; omega
    clear hG2 hold
    go_enter Try.func80, Try.ntmps80
    go_wp2_with (at_builtin; refine Lib.wpList_append_run _ rfl _ _ _ _ rfl _ _ rfl rfl _ _ (hrz _) ?_)
    go_ret
    exact ⟨⟨_, rfl, hO.out⟩, hB.out⟩

/-! ### several lists -/
/-- Where a list lies, its room, its options. -/
abbrev RowV := Option Addr × Nat × List Opn
def rowV (r : RowV) : Value := .slice r.1 r.2.2.length r.2.1
def RowLies (w : World) (r : RowV) : Prop := (r.1 = none ∧ r.2.1 = 0 ∧ r.2.2 = []) ∨ ∃ x, r.1 = some x ∧ OpFrom w x r.2.2
theorem RowLies.below {w w' : World} {r : RowV} (h : RowLies w r) (hb : Below w.heap.size w w') : RowLies w' r := by
  rcases h with h | ⟨x, h1, h2⟩
  · exact .inl h
  · exact .inr ⟨x, h1, h2.below hb⟩
theorem Opts.row {w : World} {base : Nat} {v : Value} {ks : List Opn} (h : Opts w base v ks) : ∃ a c, v = rowV (a, c, ks) ∧ RowLies w (a, c, ks) := by
  have hh := h
  obtain ⟨a, c, hv, hl⟩ := h.lies
  obtain ⟨_, h | ⟨g, cap, cur, hv2, _⟩⟩ := hh
  · have : ks = [] := List.eq_nil_of_length_eq_zero h.2
    subst this
    exact ⟨none, 0, by rw [h.1]; rfl, .inl ⟨rfl, rfl, rfl⟩⟩
  · refine ⟨some ⟨g, 0, none⟩, cap, hv2, .inr ⟨_, rfl, ?_⟩⟩
    rw [hv2] at hv
    simp only [Value.slice.injEq] at hv
    rcases hl with h | ⟨x, h1, h2⟩
    · subst h; intro j hj; simp at hj
    · rw [h1] at hv
      obtain ⟨e, _, _⟩ := hv
      cases e
      exact h2
/-- Lists that lie behind one another. -/
def RowsAt (w : World) (x : Addr) (rs : List RowV) : Prop := ∀ j r, rs[j]? = some r → w.cell? (x.add j) = some (rowV r) ∧ RowLies w r
theorem RowsAt.below {w w' : World} {x : Addr} {rs : List RowV} (h : RowsAt w x rs) (hb : Below w.heap.size w w') : RowsAt w' x rs := fun j r hj => by
  obtain ⟨h1, h2⟩ := h j r hj
  exact ⟨(hb.cell (World.block_lt_of_cell? w _ h1)).trans h1, h2.below hb⟩
def catO (rs : List RowV) : List Opn := rs.flatMap (·.2.2)
theorem catO_take {rs : List RowV} {j : Nat} {r : RowV} (h : rs[j]? = some r) : catO (rs.take (j + 1)) = catO (rs.take j) ++ r.2.2 := by
  rw [List.take_add_one, h]
  simp [catO]
theorem catO_len {rs : List RowV} (h : ∀ r ∈ rs, r.2.2.length ≤ 32) : (catO rs).length ≤ 32 * rs.length := by
  induction rs with
  | nil => simp [catO]
  | cons r rs ih =>
    have h1 := ih (fun x hx => h x (List.mem_cons_of_mem _ hx))
    have h2 := h r (by simp)
    simp only [catO, List.flatMap_cons, List.length_append, List.length_cons] at *
    omega
theorem catO_take_len {rs : List RowV} (h : ∀ r ∈ rs, r.2.2.length ≤ 32) (h3 : rs.length ≤ 3) (j : Nat) : (catO (rs.take j)).length ≤ 96 := by
  have := catO_len (rs := rs.take j) (fun r hr => h r (List.mem_of_mem_take hr))
  rw [List.length_take] at this
  omega
set_option maxRecDepth 100000 in
set_option maxHeartbeats 2000000 in
theorem concat_c (x : Addr) (cap : Nat) (rs : List RowV) (w : World) (h3 : rs.length ≤ 3) (hs : ∀ r ∈ rs, r.2.2.length ≤ 32) (h : RowsAt w x rs) :
    Calls Try.prog 76 #[.slice (some x) rs.length cap] w fun e w' => (∃ v, e = .returned v ∧ Opts w' w.heap.size v (catO rs)) ∧ Below w.heap.size w w' := by
  obtain ⟨i0, hi, hz0, hz1, hz2⟩ := info_parts Try.infoOp
  have H : Hid (RowsAt w x rs) := h
  have HL : Hid (∀ j, (catO (rs.take j)).length ≤ 96) := catO_take_len hs h3
  have HS : Hid (∀ r ∈ rs, r.2.2.length ≤ 32) := hs
  have HE : Hid (rs.take rs.length = rs) := List.take_length
  have HG : Hid (∀ (n : Nat) w, n ≤ 1000 → _) := fun n w hn => grow_nil n w hn
  clear h hs
  go_enter Try.func76, Try.ntmps76
  go_wp2_with fail
  go_loopw [3, 11] (fun sz i wr => ∃ j : Nat, j ≤ rs.length ∧ i = .int .i64 j ∧ sz = .int .i64 ((catO (rs.take j)).length : Nat) ∧ w = wr) (fun _ i _ => rs.length - (intOf i).toNat)
  case atStart => exact ⟨0, Nat.zero_le _, rfl, rfl, rfl⟩
  case round =>
    obtain ⟨j, hj, rfl, rfl, rfl⟩ := hrel
    by_cases hlt : j < rs.length
    · obtain ⟨r, hr⟩ : ∃ r, rs[j]? = some r := ⟨_, List.getElem?_eq_getElem hlt⟩
      obtain ⟨c, _⟩ := H.out j r hr
      have l1 := HL.out (j + 1)
      have e1 := catO_take hr
      rw [e1, List.length_append] at l1
      have e2 : (catO (rs.take (j + 1))).length = (catO (rs.take j)).length + r.2.2.length := by rw [e1, List.length_append]
      have E2 : Hid (_) := e2
      obtain ⟨ra, rc, ro⟩ := r
      simp only [rowV] at c l1 E2
      have hs1 : wrap64 (((catO (rs.take j)).length : Int) + (ro.length : Int)) = (((catO (rs.take j)).length + ro.length : Nat) : Int) := by unfold wrap64; omega
      clear hr e1 e2
      generalize (catO (rs.take j)).length = sj at *
      have hneg : ¬ ((sj + ro.length : Nat) : Int) < 0 := by omega
      go_wp2
      exact ⟨⟨j + 1, by omega, by go_num, congrArg (Value.int .i64) (by have := E2.out; omega), trivial⟩, by simp [intOf]; omega⟩
    · obtain rfl : j = rs.length := by omega
      rw [HE.out]
      have l0 : (catO rs).length ≤ 96 := by have := HL.out rs.length; rw [HE.out] at this; exact this
      have HG' := HG.out (catO rs).length w (by omega)
      have HC : Hid (catO rs = catO (rs.take rs.length)) := by show _ = _; rw [HE.out]
      generalize (catO rs).length = sn at *
      clear HG
      go_wp2_with fail
      refine HG'.mono ?_; rintro e w1 ⟨⟨v1, rfl, hO⟩, hb⟩
      have O1 : Hid (Opts w1 w.heap.size v1 (catO (rs.take 0))) := hO
      have B1 : Hid (Below w.heap.size w w1) := hb
      clear hO hb HG'
      go_wp2_with fail
      go_loopw [6, 27] (fun v i wr => ∃ j : Nat, j ≤ rs.length ∧ i = .int .i64 j ∧ Hid (Opts wr w.heap.size v (catO (rs.take j))) ∧ Hid (Below w.heap.size w wr)) (fun _ i _ => rs.length - (intOf i).toNat)
      case atStart => exact ⟨0, Nat.zero_le _, rfl, O1, B1⟩
      case round =>
        obtain ⟨j, hj, rfl, hO, hB⟩ := hrel
        by_cases hlt : j < rs.length
        · obtain ⟨r, hr⟩ : ∃ r, rs[j]? = some r := ⟨_, List.getElem?_eq_getElem hlt⟩
          obtain ⟨c, hl⟩ := (H.out.below hB.out) j r hr
          have l1 := HL.out (j + 1)
          have E1 : Hid (_) := catO_take hr
          rw [E1.out, List.length_append] at l1
          obtain ⟨ra, rc, ro⟩ := r
          simp only [rowV] at c l1
          have hle := hB.out.size
          clear hr O1 B1
          rcases hl with ⟨h1, h2, h4⟩ | ⟨y, h1, hf⟩
          · simp only at h1 h2 h4
            subst h1 h2 h4
            simp only [List.append_nil] at E1
            go_wp2_with (first
              | (at_builtin; refine wpList_append_own_none rfl _ _ 23 rfl w.heap.size 25 i0 2 Try.underlying23 hi _ _ _ rfl hO.out rfl ?_)
              | fail)
            exact ⟨⟨j + 1, by omega, by go_num, by rw [E1.out]; exact hO, hB⟩, by simp [intOf]; omega⟩
          · simp only at h1 hf
            subst h1
            go_wp2_with (first
              | (at_builtin; refine wpList_append_own _ rfl _ _ 23 rfl w.heap.size 25 i0 (.agg #[.int .i64 0, .string ByteArray.empty]) 2 24 Try.underlying23 hi hz0 hz1 hz2 rfl (by decide) _ (catO (rs.take j)).length (opCells (catO (rs.take j))) rfl hO.out y ro.length rc (opCells ro) rfl (opCells_len ro) (opcells_of_from hf) (opCells_one ro) ?c3 ?c4 hle ?_)
              | fail)
            case c3 => unfold maxLen; omega
            case c4 => omega
            intro v' w3 hown' hgrow _
            have R : Hid (Opts w3 w.heap.size v' (catO (rs.take (j + 1)))) := by
              show w3.ownsRow _ _ _ _ _ _
              rw [E1.out, List.length_append, opCells_append]
              exact hown'
            have B3 : Hid (Below w.heap.size w w3) := hB.out.grown hgrow hle (fun k hk => (hO.out.lt k hk).1)
            clear hown' hgrow hO hB hf
            go_wp2
            exact ⟨⟨j + 1, by omega, by go_num, R, B3⟩, by simp [intOf]; omega⟩
        · obtain rfl : j = rs.length := by omega
          rw [HE.out] at hO
          go_wp2
          go_ret
          exact ⟨⟨_, rfl, hO.out⟩, hB.out⟩
end Go.Proofs.Ytegoaaamlfehpaa
