/-
  Contracts of the references labelMay, parts, NameMay, Labels and Under: what each call returns.
-/
import Derived.Test.YtlnkpgmflaekoaaNameMore
namespace Go.Proofs.Ytlnkpgmflaekoaa
open Go.ChangeShapes Go.WideShapes Go.ChangeAt Go.RowKit Go.Pin Go.PlainAid

theorem okL_all {s : ByteArray} (h : ∀ i, i < s.size → okByte (bt s i) = true) : okL (bs s) = (decide (1 ≤ s.size) && decide (s.size ≤ 8)) := by
  simp only [okL, length_bs]
  have : (bs s).all okC = true := by
    rw [List.all_eq_true]
    intro c hc
    obtain ⟨i, hi, hic⟩ := List.getElem_of_mem hc
    have hi' : i < s.size := by rw [← length_bs]; exact hi
    obtain ⟨c', hc', hb⟩ := bt_bs s i hi'
    rw [List.getElem?_eq_getElem hi, hic] at hc'
    cases hc'
    have := h i hi'
    rwa [hb] at this
  rw [this, Bool.and_true]
theorem okL_bad {s : ByteArray} {i : Nat} (hi : i < s.size) (h : okByte (bt s i) = false) : okL (bs s) = false := by
  obtain ⟨c, hc, hb⟩ := bt_bs s i hi
  have hm := List.mem_of_getElem? hc
  have : (bs s).all okC = false := by
    rw [List.all_eq_false]
    refine ⟨c, hm, ?_⟩
    rw [okC, ← hb, h]; simp
  simp [okL, this]

theorem okByte_cases (x : Int) : (okByte x = true ∧ (97 ≤ x ∧ x ≤ 122 ∨ 48 ≤ x ∧ x ≤ 57 ∨ x = 45)) ∨ (okByte x = false ∧ (x < 45 ∨ 45 < x ∧ x < 48 ∨ 57 < x ∧ x < 97 ∨ 122 < x)) := by
  unfold okByte
  by_cases h : 97 ≤ x ∧ x ≤ 122 ∨ 48 ≤ x ∧ x ≤ 57 ∨ x = 45
  · left; refine ⟨?_, h⟩; simp; omega
  · right; refine ⟨?_, by omega⟩; simp; omega

theorem labelMay_c (s : ByteArray) (w : World) (hs : s.size ≤ maxLen) : Calls Try.prog 20 #[.string s] w fun e w' => e = .returned (.bool (okL (bs s))) ∧ w' = w := by
  unfold maxLen at hs
  have hyes : Hid ((∀ i, i < s.size → okByte (bt s i) = true) → okL (bs s) = (decide (1 ≤ s.size) && decide (s.size ≤ 8))) := okL_all
  have hno : Hid (∀ i, i < s.size → okByte (bt s i) = false → okL (bs s) = false) := fun i h1 h2 => okL_bad h1 h2
  generalize hV : okL (bs s) = V at hyes hno ⊢
  clear hV
  have hb := get_bt s
  go_enter Try.func20, Try.ntmps20
  go_wp2
  go_loop [3] (fun i => ∃ j : Nat, j ≤ s.size ∧ i = .int .i64 j ∧ Hid (∀ i, i < j → okByte (bt s i) = true)) (fun i => s.size - (intOf i).toNat)
  case atStart => exact ⟨0, Nat.zero_le _, rfl, fun i hi => by omega⟩
  case round =>
    obtain ⟨j, hj, rfl, hall⟩ := hrel
    by_cases hlt : j < s.size
    · rcases okByte_cases (bt s j) with ⟨hok, hc⟩ | ⟨hok, hc⟩
      · have H : Hid (okByte (bt s j) = true) := hok
        clear hok
        generalize hx : bt s j = x at *
        have Hx : Hid (bt s j = x) := hx
        rcases hc with ⟨c1, c2⟩ | ⟨c1, c2⟩ | c1
        · go_wp2
          go_round
          case rel => exact ⟨j + 1, by omega, by go_num, fun i hi => by by_cases e : i = j; (subst e; rw [Hx.out]; exact H.out); exact hall.out i (by omega)⟩
          case measure => simp [intOf]; omega
        · go_wp2
          go_round
          case rel => exact ⟨j + 1, by omega, by go_num, fun i hi => by by_cases e : i = j; (subst e; rw [Hx.out]; exact H.out); exact hall.out i (by omega)⟩
          case measure => simp [intOf]; omega
        · subst c1
          go_wp2
          go_round
          case rel => exact ⟨j + 1, by omega, by go_num, fun i hi => by by_cases e : i = j; (subst e; rw [Hx.out]; exact H.out); exact hall.out i (by omega)⟩
          case measure => simp [intOf]; omega
      · have H : Hid (okByte (bt s j) = false) := hok
        clear hok
        generalize hx : bt s j = x at *
        have Hx : Hid (bt s j = x) := hx
        have e45 : (x != 45) = true := by simp; omega
        rcases hc with c1 | ⟨c1, c2⟩ | ⟨c1, c2⟩ | c1
        all_goals
          go_wp2
          go_ret
          refine ⟨ret_bool ?_, rfl⟩
          exact (hno.out j hlt (by rw [Hx.out]; exact H.out)).symm
    · obtain rfl : j = s.size := by omega
      have E : Hid (V = (decide (1 ≤ s.size) && decide (s.size ≤ 8))) := hyes.out hall.out
      by_cases h1 : 1 ≤ s.size
      all_goals
        go_wp2
        go_ret
        refine ⟨ret_bool ?_, rfl⟩
        rw [E.out, Bool.eq_iff_iff]
        simp
        omega

theorem extract_mk (s : ByteArray) (f j : Nat) : s.extract f j = mk (((bs s).drop f).take (j - f)) := Lib.extract_eq s f j

/-- The loop of parts: what has been cut off, from where, up to where it has been looked. -/
structure Parting (L : List UInt8) (done : List (List UInt8)) (f j : Nat) : Prop where
  le : f ≤ j
  len : done.length ≤ j
  eq : j ≤ L.length → split L = done ++ split (L.drop f) ∧ (46 : UInt8) ∉ (L.drop f).take (j - f)
  fin : L.length < j → done = split L

theorem parting_start (L : List UInt8) : Parting L [] 0 0 := ⟨Nat.le_refl _, Nat.le_refl _, fun _ => ⟨by simp, by simp⟩, fun h => by omega⟩

theorem take_more (L : List UInt8) (f j : Nat) (h : f ≤ j) (hj : j < L.length) : (L.drop f).take (j + 1 - f) = (L.drop f).take (j - f) ++ [L[j]] := by
  rw [show j + 1 - f = (j - f) + 1 by omega, List.take_add_one, List.getElem?_drop, show f + (j - f) = j by omega, List.getElem?_eq_getElem hj]
  rfl
theorem drop_split (L : List UInt8) (f j : Nat) (h : f ≤ j) (hj : j < L.length) : L.drop f = (L.drop f).take (j - f) ++ L[j] :: L.drop (j + 1) := by
  have h1 : L.drop j = L[j] :: L.drop (j + 1) := List.drop_eq_getElem_cons hj
  have h2 : L.drop j = (L.drop f).drop (j - f) := by rw [List.drop_drop, show f + (j - f) = j by omega]
  rw [← h1, h2, List.take_append_drop]

theorem Parting.skip {L : List UInt8} {done : List (List UInt8)} {f j : Nat} (h : Parting L done f j) (hj : j < L.length) (hc : L[j] ≠ 46) : Parting L done f (j + 1) := by
  refine ⟨by have := h.le; omega, by have := h.len; omega, fun _ => ⟨(h.eq (by omega)).1, ?_⟩, fun h1 => by omega⟩
  rw [take_more L f j h.le hj, List.mem_append]
  rintro (h1 | h1)
  · exact (h.eq (by omega)).2 h1
  · simp at h1; exact hc h1.symm

theorem Parting.dot {L : List UInt8} {done : List (List UInt8)} {f j : Nat} (h : Parting L done f j) (hj : j < L.length) (hc : L[j] = 46) : Parting L (done ++ [(L.drop f).take (j - f)]) (j + 1) (j + 1) := by
  refine ⟨Nat.le_refl _, by have := h.len; simp; omega, fun _ => ⟨?_, by simp⟩, fun h1 => by omega⟩
  rw [(h.eq (by omega)).1]
  have h2 := drop_split L f j h.le hj
  rw [hc] at h2
  rw [h2, split_append, split_nodot _ (h.eq (by omega)).2, List.append_assoc, ← h2]

theorem Parting.last {L : List UInt8} {done : List (List UInt8)} {f : Nat} (h : Parting L done f L.length) : Parting L (done ++ [(L.drop f).take (L.length - f)]) (L.length + 1) (L.length + 1) := by
  refine ⟨Nat.le_refl _, by have := h.len; simp; omega, fun h1 => by omega, fun _ => ?_⟩
  obtain ⟨h1, h2⟩ := h.eq (Nat.le_refl _)
  have e : (L.drop f).take (L.length - f) = L.drop f := List.take_of_length_le (by simp)
  rw [e] at h2 ⊢
  rw [h1, split_nodot _ h2]

theorem bt_is (s : ByteArray) (j : Nat) (h : j < s.size) (hl : j < (bs s).length) : bt s j = ((bs s)[j]).toNat := by
  obtain ⟨c, hc, hb⟩ := bt_bs s j h
  rw [List.getElem?_eq_getElem hl] at hc
  rw [hb, Option.some.inj hc]
theorem dot_iff (c : UInt8) : c = 46 ↔ (c.toNat : Int) = 46 := by
  constructor
  · intro h; subst h; rfl
  · intro h; apply UInt8.toNat_inj.1; have : (46 : UInt8).toNat = 46 := rfl; omega

set_option maxHeartbeats 800000 in
set_option maxRecDepth 100000 in
theorem parts_c (s : ByteArray) (w : World) (hs : s.size ≤ 1048576) : Calls Try.prog 19 #[.string s] w fun e w' => (∃ v, e = .returned v ∧ Texts w' w.heap.size v (split (bs s))) ∧ Below w.heap.size w w' := by
  obtain ⟨i0, hi, hz0, hz1, hz2⟩ := info_parts Try.infoStr
  have hb := get_bt s
  have HL : Hid ((bs s).length = s.size) := length_bs s
  go_enter Try.func19, Try.ntmps19
  go_wp2
  go_loopw [3, 4, 5] (fun v m i wr => ∃ (done : List (List UInt8)) (f j : Nat), i = .int .i64 j ∧ m = .int .i64 f ∧ j ≤ s.size + 1 ∧ f ≤ j ∧ done.length ≤ j ∧ Texts wr w.heap.size v done ∧ Below w.heap.size w wr ∧ Parting (bs s) done f j) (fun _ _ i _ => s.size + 1 - (intOf i).toNat)
  case atStart => exact ⟨[], 0, 0, rfl, rfl, by omega, Nat.le_refl _, Nat.le_refl _, World.ownsRow_nil _ _ _ _, Below.refl _ _, parting_start _⟩
  case round =>
    obtain ⟨done, f, j, rfl, rfl, hj, hfj, hdl, hown, hnx, hP⟩ := hrel
    have hsz := hnx.size
    obtain ⟨a, cap, rfl⟩ := hown.form
    by_cases hend : j = s.size + 1
    · have e1 : done = split (bs s) := hP.fin (by rw [HL.out]; omega)
      have hlt : (s.size : Int) < (j : Int) := by omega
      clear hend
      go_wp2
      go_ret
      rw [← e1]
      exact ⟨⟨_, rfl, hown⟩, hnx⟩
    · by_cases hlast : j = s.size
      · have Hx : Hid (s.extract f j = mk (((bs s).drop f).take (j - f))) := extract_mk s f j
        have hP2 : Parting (bs s) (done ++ [((bs s).drop f).take (j - f)]) (j + 1) (j + 1) := by
          have hj' : j = (bs s).length := by rw [HL.out]; exact hlast
          rw [hj'] at hP ⊢
          exact hP.last
        generalize ((bs s).drop f).take (j - f) = x at *
        have h1 : ((j : Int) == (s.size : Int)) = true := by simp; omega
        have h2 : (j : Int) ≤ (s.size : Int) := by omega
        have h3 : j ≤ s.size := by omega
        clear hlast hend hP
        go_wp2_with (first
          | (at_builtin; refine wpList_append_own _ rfl _ _ 35 rfl w.heap.size 9 i0 (.string ByteArray.empty) 1 16 Try.underlying35 hi hz0 hz1 hz2 rfl (by decide) _ _ _ rfl (World.ownsRow.alloc hown _) ⟨wr.heap.size, 0, none⟩ 1 1 [.string (s.extract f j)] rfl rfl ?c1 ?c2 ?c3 ?c4 ?c5 ?_)
          | go_in)
        case c1 =>
          intro j u hj
          match j, hj with
          | 0, hj => simp at hj; subst hj; simp [Addr.add]
        case c2 => intro u hu; simp at hu; subst hu; rfl
        case c3 => unfold maxLen; omega
        case c4 => omega
        case c5 => simp; omega
        · intro v' w3 hown' hgrow _
          rw [Hx.out] at hown'
          have R : Texts w3 w.heap.size v' (done ++ [x]) := texts_snoc hown'
          have B : Below w.heap.size w w3 := (hnx.alloc hsz _).grown hgrow (by simp; omega) (fun k hk => (World.ownsRow.lt hown k hk).1)
          clear hown' hgrow hown
          go_wp2
          go_roundw
          case rel => exact ⟨done ++ [x], j + 1, j + 1, by go_num, by go_num, by omega, Nat.le_refl _, hP2.len, R, B, hP2⟩
          case measure => simp [intOf]; omega
      · have hlt : j < s.size := by omega
        have hlt2 : j < (bs s).length := by rw [HL.out]; exact hlt
        have hbj := bt_is s j hlt hlt2
        have h1 : ((j : Int) == (s.size : Int)) = false := by simp; omega
        by_cases hc : (bs s)[j] = 46
        · have Hx : Hid (s.extract f j = mk (((bs s).drop f).take (j - f))) := extract_mk s f j
          have hP2 : Parting (bs s) (done ++ [((bs s).drop f).take (j - f)]) (j + 1) (j + 1) := hP.dot hlt2 hc
          generalize ((bs s).drop f).take (j - f) = x at *
          rw [(dot_iff _).1 hc] at hbj
          have h3 : j ≤ s.size := by omega
          clear hc hP hlt2 hlast hend
          go_wp2_with (first
            | (at_builtin; refine wpList_append_own _ rfl _ _ 35 rfl w.heap.size 9 i0 (.string ByteArray.empty) 1 16 Try.underlying35 hi hz0 hz1 hz2 rfl (by decide) _ _ _ rfl (World.ownsRow.alloc hown _) ⟨wr.heap.size, 0, none⟩ 1 1 [.string (s.extract f j)] rfl rfl ?c1 ?c2 ?c3 ?c4 ?c5 ?_)
            | go_in)
          case c1 =>
            intro j u hj
            match j, hj with
            | 0, hj => simp at hj; subst hj; simp [Addr.add]
          case c2 => intro u hu; simp at hu; subst hu; rfl
          case c3 => unfold maxLen; omega
          case c4 => omega
          case c5 => simp; omega
          · intro v' w3 hown' hgrow _
            rw [Hx.out] at hown'
            have R : Texts w3 w.heap.size v' (done ++ [x]) := texts_snoc hown'
            have B : Below w.heap.size w w3 := (hnx.alloc hsz _).grown hgrow (by simp; omega) (fun k hk => (World.ownsRow.lt hown k hk).1)
            clear hown' hgrow hown
            go_wp2
            go_roundw
            case rel => exact ⟨done ++ [x], j + 1, j + 1, by go_num, by go_num, by omega, Nat.le_refl _, hP2.len, R, B, hP2⟩
            case measure => simp [intOf]; omega
        · have hP2 := hP.skip hlt2 hc
          have hbj2 : (bt s j == 46) = false := by
            rw [hbj, beq_eq_false_iff_ne]
            intro e
            exact hc ((dot_iff _).2 e)
          clear hc hP hlt2 hbj hlast hend
          go_wp2
          go_roundw
          case rel => exact ⟨done, f, j + 1, by go_num, rfl, by omega, by omega, by omega, hown, hnx, hP2⟩
          case measure => simp [intOf]; omega
end Go.Proofs.Ytlnkpgmflaekoaa
