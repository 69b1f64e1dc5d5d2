/-
  Contracts of the document's own answers of layer 6: FindOpt, join, GetOpts.
-/
import Derived.Test.YtegoaaamlfehpaaOptRef2
import Derived.Test.YtegoaaamlfehpaaOptRead
namespace Go.Proofs.Ytegoaaamlfehpaa
open Go.ChangeShapes Go.WideShapes Go.ChangeAt Go.RowKit Go.Pin Go.PlainAid

theorem rFind_from (x : Addr) (cap : Nat) (os : List Opn) (c : Int) (w : World) (hl : os.length ≤ 10000000000000) (h : OpFrom w x os) :
    Calls Try.prog 39 #[.slice (some x) os.length cap, .int .i64 c] w fun e w' => e = .returned (.tuple #[.string (mk (findA os c).1), .bool (findA os c).2]) ∧ w' = w := by
  have HF : Hid (_) := find_at os c
  have HA : Hid (findA os c = ((findO os c).getD [], (findO os c).isSome)) := rfl
  generalize findA os c = V at *
  generalize findO os c = U at *
  have H : Hid (OpFrom w x os) := h
  clear h
  go_enter Try.func39, Try.ntmps39
  go_wp2
  go_loop [6] (fun i => ∃ j : Nat, j ≤ os.length ∧ i = .int .i64 j ∧ Hid (∀ i, i < j → (opAt os i).1 ≠ c)) (fun i => os.length - (intOf i).toNat)
  case atStart => exact ⟨0, Nat.zero_le _, rfl, fun i hi => by omega⟩
  case round =>
    obtain ⟨j, hj, rfl, hall⟩ := hrel
    by_cases hlt : j < os.length
    · obtain ⟨h0, h1⟩ := H.out j hlt
      by_cases he : (opAt os j).1 = c
      · have HV : Hid (V = ((opAt os j).2, true)) := by
          show _ = _
          rcases HF.out with ⟨i, hi, h1, h2, h3⟩ | ⟨h1, h2⟩
          · have : i = j := by
              rcases Nat.lt_trichotomy i j with hh | hh | hh
              · exact absurd h1 (hall.out i hh)
              · exact hh
              · exact absurd he (h3 j hh)
            subst this; rw [HA.out, h2]; rfl
          · exact absurd he (h2 j hlt)
        have heq : ((opAt os j).1 == c) = true := by simpa using he
        generalize (opAt os j).1 = cj at *
        generalize (opAt os j).2 = dj at *
        subst he
        clear HF hall HA
        go_wp2
        go_ret2
        refine ⟨?_, rfl⟩
        rw [HV.out]
        rfl
      · have heq : ((opAt os j).1 == c) = false := by simpa using he
        have Hne : Hid ((opAt os j).1 ≠ c) := he
        clear he
        go_wp2
        go_round
        case rel => exact ⟨j + 1, by omega, by go_num, fun i hi => by by_cases e : i = j; (subst e; exact Hne.out); exact hall.out i (by omega)⟩
        case measure => simp [intOf]; omega
    · obtain rfl : j = os.length := by omega
      have HV : Hid (V = ([], false)) := by
        show _ = _
        rcases HF.out with ⟨i, hi, h1, h2, h3⟩ | ⟨h1, h2⟩
        · exact absurd h1 (hall.out i hi)
        · rw [HA.out, h1]; rfl
      go_wp2
      go_ret2
      refine ⟨?_, rfl⟩
      rw [HV.out]
      rfl
theorem rFind_nil (a : Option Addr) (cap : Nat) (c : Int) (w : World) :
    Calls Try.prog 39 #[.slice a 0 cap, .int .i64 c] w fun e w' => e = .returned (.tuple #[.string ⟨#[]⟩, .bool false]) ∧ w' = w := by
  go_enter Try.func39, Try.ntmps39
  go_wp2
  go_rounds 1
  go_ret2
  exact ⟨rfl, rfl⟩
theorem rFind_c (a : Option Addr) (cap : Nat) (os : List Opn) (c : Int) (w : World) (hl : os.length ≤ 10000000000000) (h : OpLies w a os) :
    Calls Try.prog 39 #[.slice a os.length cap, .int .i64 c] w fun e w' => e = .returned (.tuple #[.string (mk (findA os c).1), .bool (findA os c).2]) ∧ w' = w := by
  rcases h with rfl | ⟨x, rfl, h⟩
  · exact rFind_nil a cap c w
  · exact rFind_from x cap os c w hl h

theorem owns_empty (w : World) : (w.alloc (.cells #[] 25)).ownsRow w.heap.size 25 2 (.slice (some ⟨w.heap.size, 0, none⟩) 0 0) 0 [] :=
  World.ownsRow_lit w #[] 0 (Nat.le_refl _) (by decide) rfl
theorem place_first {os : List Opn} {c : Int} {j : Nat} (hj : j < os.length) (he : (opAt os j).1 = c) (hall : ∀ i, i < j → (opAt os i).1 ≠ c) : placeO os c = some j := by
  induction os generalizing j with
  | nil => simp at hj
  | cons k r ih =>
    cases j with
    | zero => have : k.1 = c := he; simp [placeO, this]
    | succ j =>
      have h0 : k.1 ≠ c := hall 0 (by omega)
      have := ih (j := j) (by simp at hj; omega) he (fun i hi => hall (i + 1) (by omega))
      simp [placeO, h0, this]
theorem opCells_set2 {os : List Opn} {j : Nat} {o : Opn} (hj : j < os.length) : opCells (os.set j o) = ((opCells os).set (j * 2) (.int .i64 o.1)).set (j * 2 + 1) (.string (mk o.2)) := by
  induction os generalizing j with
  | nil => simp at hj
  | cons k r ih =>
    have e1 : opCells (k :: r) = .int .i64 k.1 :: .string (mk k.2) :: opCells r := rfl
    cases j with
    | zero => rfl
    | succ j =>
      have := ih (j := j) (by simp at hj; omega)
      have e2 : opCells ((k :: r).set (j + 1) o) = .int .i64 k.1 :: .string (mk k.2) :: opCells (r.set j o) := rfl
      rw [e1, e2, this, show (j + 1) * 2 = j * 2 + 1 + 1 by omega, show j * 2 + 1 + 1 + 1 = (j * 2 + 1) + 1 + 1 by omega]
      rfl
theorem opts_form {w : World} {base : Nat} {a : Option Addr} {n cap : Nat} {os : List Opn} (h : Opts w base (.slice a n cap) os) (hn : 0 < os.length) : ∃ g, a = some ⟨g, 0, none⟩ ∧ base ≤ g ∧ n = os.length := by
  rcases h.2 with ⟨_, h⟩ | ⟨g, cap', cur, hv, hg, _⟩
  · omega
  · simp only [Value.slice.injEq] at hv; exact ⟨g, hv.1, hg, hv.2.1⟩
set_option maxHeartbeats 400000 in
theorem rJoin_from (x : Addr) (cap : Nat) (os : List Opn) (c : Int) (d : ByteArray) (w : World) (hl : os.length ≤ 1000) (hd : d.size ≤ 1125899906842624) (hs : ∀ o ∈ os, o.2.length ≤ 1125899906842624) (h : OpFrom w x os) :
    Calls Try.prog 56 #[.slice (some x) os.length cap, .int .i64 c, .string d] w fun e w' => (∃ v, e = .returned v ∧ Opts w' w.heap.size v (joinO os c (bs d))) ∧ Below w.heap.size w w' := by
  obtain ⟨i0, hi, hz0, hz1, hz2⟩ := info_parts Try.infoOp
  have H : Hid (∀ o j u, (opCells os)[j]? = some u → (w.alloc o).cell? (x.add j) = some u) := by
    intro o j u hj
    have := opcells_of_from h j u hj
    rw [← this]
    exact ((Below.refl w.heap.size w).alloc (Nat.le_refl _) o).cell (World.block_lt_of_cell? w _ this)
  clear h
  go_enter Try.func56, Try.ntmps56
  go_wp2_with (first
    | (at_builtin; refine wpList_append_own _ rfl _ _ 23 rfl w.heap.size 25 i0 (.agg #[.int .i64 0, .string ByteArray.empty]) 2 24 Try.underlying23 hi hz0 hz1 hz2 rfl (by decide) _ 0 [] rfl (owns_empty w) x os.length cap (opCells os) rfl (opCells_len os) (H.out _) (opCells_one os) ?c3 ?c4 ?c5 ?_)
    | go_in)
  case c3 => unfold maxLen; omega
  case c4 => omega
  case c5 => simp
  intro v' w3 hown' hgrow _
  have R : Hid (Opts w3 w.heap.size v' os) := by
    show w3.ownsRow _ _ _ _ _ _
    simpa using hown'
  have B : Hid (Below w.heap.size w w3) := ((Below.refl _ _).alloc (Nat.le_refl _) _).grown hgrow (by simp) (fun k hk => by cases hk; exact Nat.le_refl _)
  clear hown' hgrow
  obtain ⟨a3, c3, rfl, l3⟩ := R.out.lies
  have Hcat : Hid (∀ j, j < os.length → (mk (opAt os j).2).size ≤ 1125899906842624) := fun j hj => by rw [size_mk]; exact hs _ (opAt_mem hj)
  have HF : Hid (_) := find_at os c
  have HJ1 : Hid (∀ j, placeO os c = some j → joinO os c (bs d) = os.set j (c, (opAt os j).2 ++ bs d)) := fun j hp => join_old hp _
  have HJ0 : Hid (placeO os c = none → joinO os c (bs d) = os ++ [(c, bs d)]) := fun hp => join_new hp _
  clear hs H
  go_wp2
  go_loop [8] (fun i => ∃ j : Nat, j ≤ os.length ∧ i = .int .i64 j ∧ Hid (∀ i, i < j → (opAt os i).1 ≠ c)) (fun i => os.length - (intOf i).toNat)
  case atStart => exact ⟨0, Nat.zero_le _, rfl, fun i hi => by omega⟩
  case round =>
    obtain ⟨j, hj, rfl, hall⟩ := hrel
    by_cases hlt : j < os.length
    · obtain ⟨g, rfl, hgb, _⟩ := opts_form R.out (by omega)
      obtain ⟨k0, k1⟩ := opCells_at os j hlt
      have h0 := (World.ownsRow.cellAt R.out (j * 2) (by omega)).trans k0
      have h1 := (World.ownsRow.cellAt R.out (j * 2 + 1) (by omega)).trans k1
      have f0 := World.ownsRow.frozenAt R.out (j * 2)
      have f1 := World.ownsRow.frozenAt R.out (j * 2 + 1)
      have hjl : (j : Int) < (os.length : Int) := by omega
      clear k0 k1
      by_cases he : (opAt os j).1 = c
      · have heq : ((opAt os j).1 == c) = true := by simpa using he
        have hp : placeO os c = some j := place_first hlt he hall.out
        have Hj : Hid (_) := HJ1.out j hp
        have R5 : Hid (Opts ((w3.setCell ⟨g, j * 2, none⟩ (.int .i64 c)).setCell ⟨g, j * 2 + 1, none⟩ (.string (mk (opAt os j).2 ++ d))) w.heap.size (.slice (some ⟨g, 0, none⟩) os.length c3) (joinO os c (bs d))) := by
          show Opts _ _ _ _
          rw [Hj.out]
          have s1 := (World.ownsRow.stored R.out (j * 2) (.int .i64 c)).1
          have s2 := (World.ownsRow.stored s1 (j * 2 + 1) (.string (mk (opAt os j).2 ++ d))).1
          unfold Opts
          rw [opCells_set2 hlt, List.length_set]
          have e : mk ((opAt os j).2 ++ bs d) = mk (opAt os j).2 ++ d := by rw [← mk_append, mk_bs]
          simp only [e]
          exact s2
        have B5 : Hid (Below w.heap.size w ((w3.setCell ⟨g, j * 2, none⟩ (.int .i64 c)).setCell ⟨g, j * 2 + 1, none⟩ (.string (mk (opAt os j).2 ++ d)))) := (B.out.setCell (show w.heap.size ≤ (⟨g, j * 2, none⟩ : Addr).block from hgb) _).setCell (show w.heap.size ≤ (⟨g, j * 2 + 1, none⟩ : Addr).block from hgb) _
        have hc1 := Hcat.out j hlt
        have hcat : ¬ 9223372036854775807 < (mk (opAt os j).2).size + d.size := by omega
        generalize mk (opAt os j).2 = dj at *
        generalize (opAt os j).1 = cj at *
        subst he
        clear hall HF HJ0 HJ1 Hj hp
        go_wp2
        go_ret
        exact ⟨⟨_, rfl, R5.out⟩, B5.out⟩
      · have heq : ((opAt os j).1 == c) = false := by simpa using he
        have Hne : Hid ((opAt os j).1 ≠ c) := he
        clear he
        go_wp2
        go_round
        case rel => exact ⟨j + 1, by omega, by go_num, fun i hi => by by_cases e : i = j; (subst e; exact Hne.out); exact hall.out i (by omega)⟩
        case measure => simp [intOf]; omega
    · obtain rfl : j = os.length := by omega
      have hp : placeO os c = none := place_none.2 (fun o ho e => by
        obtain ⟨i, hi, rfl⟩ := List.getElem_of_mem ho
        refine hall.out i hi ?_
        unfold opAt
        rw [List.getD_eq_getElem?_getD, List.getElem?_eq_getElem hi]
        exact e)
      have Hj : Hid (_) := HJ0.out hp
      have hown : Hid (w3.ownsRow w.heap.size 25 2 (.slice a3 os.length c3) os.length (opCells os)) := R.out
      have hle := B.out.size
      clear hp HJ0 HJ1 HF hall
      go_wp2_with (first
        | (at_builtin; refine wpList_append_own _ rfl _ _ 23 rfl w.heap.size 25 i0 (.agg #[.int .i64 0, .string ByteArray.empty]) 2 24 Try.underlying23 hi hz0 hz1 hz2 rfl (by decide) _ os.length (opCells os) rfl (World.ownsRow.alloc hown.out _) ⟨w3.heap.size, 0, none⟩ 1 1 [.int .i64 c, .string d] rfl rfl ?c1 ?c2 ?c3 ?c4 ?c5 ?_)
        | fail)
      case c2 => first | exact ⟨rfl, rfl⟩ | (intro u hu; simp at hu; rcases hu with rfl | rfl <;> rfl)
      case c3 => unfold maxLen; omega
      case c4 => omega
      case c5 => first | omega | (simp; omega)
      intro v6 w6 hown6 hgrow6 _
      have R6 : Hid (Opts w6 w.heap.size v6 (joinO os c (bs d))) := by
        show Opts _ _ _ _
        rw [Hj.out]
        unfold Opts
        rw [opCells_append]
        have e : (os ++ [(c, bs d)]).length = os.length + 1 := by simp
        rw [e]
        have e2 : opCells [(c, bs d)] = [.int .i64 c, .string d] := by simp [opCells, mk_bs]
        rw [e2]
        exact hown6
      have B6 : Hid (Below w.heap.size w w6) := (B.out.alloc hle _).grown hgrow6 (by simp; omega) (fun k hk => (World.ownsRow.lt hown.out k hk).1)
      obtain ⟨a6, c6, rfl, _⟩ := R6.out.lies
      clear hown6 hgrow6 hown
      go_wp2
      go_ret
      exact ⟨⟨_, rfl, R6.out⟩, B6.out⟩

theorem rJoin_nil (a : Option Addr) (cap : Nat) (c : Int) (d : ByteArray) (w : World) (ha : a = none) :
    Calls Try.prog 56 #[.slice a 0 cap, .int .i64 c, .string d] w fun e w' => (∃ v, e = .returned v ∧ Opts w' w.heap.size v (joinO [] c (bs d))) ∧ Below w.heap.size w w' := by
  subst ha
  obtain ⟨i0, hi, hz0, hz1, hz2⟩ := info_parts Try.infoOp
  have hown : Hid ((w.alloc (.cells #[] 25)).ownsRow w.heap.size 25 2 (.slice (some ⟨w.heap.size, 0, none⟩) 0 0) 0 []) := owns_empty w
  go_enter Try.func56, Try.ntmps56
  go_wp2
  refine wp_loop_rounds 1 ?_
  rw [rounds_succ]
  go_wp2_with (first
        | (at_builtin; refine wpList_append_own _ rfl _ _ 23 rfl w.heap.size 25 i0 (.agg #[.int .i64 0, .string ByteArray.empty]) 2 24 Try.underlying23 hi hz0 hz1 hz2 rfl (by decide) _ 0 [] rfl (World.ownsRow.alloc hown.out _) ⟨w.heap.size + 1, 0, none⟩ 1 1 [.int .i64 c, .string d] rfl rfl ?c1 ?c2 ?c3 ?c4 ?c5 ?_)
        | fail)
  case c1 =>
    intro j u hj
    match j, hj with
    | 0, hj => simp at hj; subst hj; exact new_at _ _ _ 0 _ _ (World.size_alloc _ _) rfl
    | 1, hj => simp at hj; subst hj; exact new_at _ _ _ 1 _ _ (World.size_alloc _ _) rfl
  case c2 => intro u hu; simp at hu; rcases hu with rfl | rfl <;> rfl
  case c3 => unfold maxLen; omega
  case c4 => omega
  case c5 => simp; omega
  intro v6 w6 hown6 hgrow6 _
  have R6 : Hid (Opts w6 w.heap.size v6 (joinO [] c (bs d))) := by
    show Opts _ _ _ _
    unfold Opts
    have e2 : opCells (joinO [] c (bs d)) = [.int .i64 c, .string d] := by simp [joinO, opCells, mk_bs]
    rw [e2]
    exact hown6
  have B6 : Hid (Below w.heap.size w w6) := (((Below.refl w.heap.size w).alloc (Nat.le_refl _) _).alloc (by simp) _).grown hgrow6 (by simp; omega) (fun k hk => (World.ownsRow.lt hown.out k hk).1)
  obtain ⟨a6, c6, rfl, _⟩ := R6.out.lies
  clear hown6 hgrow6 hown
  go_wp2
  go_ret
  exact ⟨⟨_, rfl, R6.out⟩, B6.out⟩
theorem rJoin_c (a : Option Addr) (cap : Nat) (os : List Opn) (c : Int) (d : ByteArray) (w : World) (hl : os.length ≤ 1000) (hd : d.size ≤ 1125899906842624) (hs : ∀ o ∈ os, o.2.length ≤ 1125899906842624) (h : (os = [] ∧ a = none) ∨ ∃ x, a = some x ∧ OpFrom w x os) :
    Calls Try.prog 56 #[.slice a os.length cap, .int .i64 c, .string d] w fun e w' => (∃ v, e = .returned v ∧ Opts w' w.heap.size v (joinO os c (bs d))) ∧ Below w.heap.size w w' := by
  rcases h with ⟨rfl, rfl⟩ | ⟨x, rfl, h⟩
  · exact rJoin_nil none cap c d w rfl
  · exact rJoin_from x cap os c d w hl hd hs h
end Go.Proofs.Ytegoaaamlfehpaa
