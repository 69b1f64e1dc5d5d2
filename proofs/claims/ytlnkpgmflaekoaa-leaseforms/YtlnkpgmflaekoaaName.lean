/-
  Contracts of package name: what each call returns, for every text; and what it calls of package strings.
-/
import Derived.Test.YtlnkpgmflaekoaaRows
import Derived.Test.YtlnkpgmflaekoaaNamePlain
import Derived.WalkKit
import Derived.ProofKit
import Derived.WalkSpells
import Derived.PlainAid
import Derived.Handy
import Derived.Lib.Bytealg
namespace Go.Proofs.Ytlnkpgmflaekoaa
open Go.ChangeShapes Go.WideShapes Go.ChangeAt Go.RowKit Go.Pin Go.PlainAid

theorem ret_bool {a b : Bool} (h : a = b) : Ending.returned (Value.bool a) = .returned (.bool b) := by rw [h]

theorem isLabelByte_c (x : Int) (w : World) (h0 : 0 ≤ x) (h1 : x ≤ 255) : Calls Try.prog 24 #[.int .u8 x] w fun e w' => e = .returned (.bool (okByte x)) ∧ w' = w := by
  go_enter Try.func24, Try.ntmps24
  go_wp2
  all_goals
    go_ret
    refine ⟨ret_bool ?_, rfl⟩
    unfold okByte
    rw [Bool.eq_iff_iff]
    simp
    omega

theorem indexByte_hit (a b : List UInt8) (h : (46 : UInt8) ∉ a) : Lib.indexByte (a ++ 46 :: b) 46 = a.length := by
  induction a with
  | nil => simp [Lib.indexByte]
  | cons c a ih =>
    simp only [List.mem_cons, not_or] at h
    have hc : (c == 46) = false := by simp; exact fun e => h.1 e.symm
    have := ih h.2
    rw [List.cons_append, Lib.indexByte, hc, this]
    simp
theorem indexByte_miss (a : List UInt8) (h : (46 : UInt8) ∉ a) : Lib.indexByte a 46 = -1 := by
  induction a with
  | nil => simp [Lib.indexByte]
  | cons c a ih =>
    simp only [List.mem_cons, not_or] at h
    have hc : (c == 46) = false := by simp; exact fun e => h.1 e.symm
    rw [Lib.indexByte, hc, ih h.2]
    simp

theorem indexByte_c (s : ByteArray) (c : Int) (w : World) : Calls Try.prog 26 #[.string s, .int .u8 c] w fun e w' => e = .returned (.int .i64 (Lib.indexByte (bs s) c.toNat.toUInt8)) ∧ w' = w := by
  go_enter Try.func26, Try.ntmps26
  go_wp2
  rw [run_callFunc_extern Try.func30 (by kernel_rfl) (by kernel_rfl) (by kernel_rfl) (e := Extern.BytealgIndexByte.indexByte) (by kernel_rfl), Lib.run_indexByteString]
  simp only [Result.andThen]
  rw [Oper.upon_value]
  go_wp2
  go_ret
  exact ⟨rfl, rfl⟩

set_option maxRecDepth 100000 in
theorem index_c (s : ByteArray) (w : World) : Calls Try.prog 25 #[.string s, .string ⟨#[46]⟩] w fun e w' => e = .returned (.int .i64 (Lib.indexByte (bs s) 46)) ∧ w' = w := by
  by_cases hs : s = ⟨#[46]⟩
  · subst hs
    have h0 : Lib.indexByte (bs ⟨#[46]⟩) 46 = 0 := rfl
    rw [h0]
    clear h0
    go_enter Try.func25, Try.ntmps25
    go_wp2
    go_ret
    exact ⟨rfl, rfl⟩
  · have hb : ([46] == s.toList) = false := by
      rw [beq_eq_false_iff_ne]
      intro e
      apply hs
      rw [ByteArray.toList_eq] at e
      exact bs_inj (by rw [bs, ← e]; rfl)
    clear hs
    go_enter Try.func25, Try.ntmps25
    go_wp2_with fail
    refine (indexByte_c _ _ _).mono ?_; rintro e w' ⟨rfl, rfl⟩
    go_wp2
    go_ret
    exact ⟨rfl, rfl⟩

theorem slCut_miss (s : ByteArray) (w : World) (h : (46 : UInt8) ∉ bs s) : Calls Try.prog 23 #[.string s, .string ⟨#[46]⟩] w fun e w' => e = .returned (.tuple #[.string s, .string ⟨#[]⟩, .bool false]) ∧ w' = w := by
  have hi := indexByte_miss _ h
  have H : Hid (Lib.indexByte (bs s) 46 = -1) := hi
  clear hi h
  go_enter Try.func23, Try.ntmps23
  go_wp2_with fail
  refine (index_c _ _).mono ?_; rintro e w' ⟨rfl, rfl⟩
  rw [H.out]
  go_wp2
  go_ret3
  exact ⟨rfl, rfl⟩

theorem slCut_hit (s : ByteArray) (i : Nat) (w : World) (hi : Lib.indexByte (bs s) 46 = i) (hl : i + 1 ≤ s.size) (hs : s.size ≤ maxLen) : Calls Try.prog 23 #[.string s, .string ⟨#[46]⟩] w fun e w' => e = .returned (.tuple #[.string (s.extract 0 i), .string (s.extract (i + 1) s.size), .bool true]) ∧ Below w.heap.size w w' := by
  unfold maxLen at hs
  have H : Hid (Lib.indexByte (bs s) 46 = i) := hi
  clear hi
  have c1 : (i : Int) ≤ (s.size : Int) := by omega
  have c2 : (i : Int) + 1 ≤ (s.size : Int) := by omega
  go_enter Try.func23, Try.ntmps23
  go_wp2_with fail
  refine (index_c _ _).mono ?_; rintro e w' ⟨rfl, rfl⟩
  rw [H.out]
  go_wp2
  go_region
  go_wp2
  go_ret3
  exact ⟨rfl, (Below.refl _ _).drew⟩

theorem cut_miss (s : ByteArray) (w : World) (h : (46 : UInt8) ∉ bs s) : Calls Try.prog 21 #[.string s, .string ⟨#[46]⟩] w fun e w' => e = .returned (.tuple #[.string s, .string ⟨#[]⟩, .bool false]) ∧ w' = w := by
  go_enter Try.func21, Try.ntmps21
  go_wp2_with fail
  refine (slCut_miss _ _ h).mono ?_; rintro e w' ⟨rfl, rfl⟩
  go_wp2
  go_ret3
  exact ⟨rfl, rfl⟩

theorem extract_front (a b : List UInt8) (s : ByteArray) (h : bs s = a ++ 46 :: b) : s.extract 0 a.length = mk a ∧ s.extract (a.length + 1) s.size = mk b := by
  have h' : s.data.toList = a ++ 46 :: b := h
  have hz : s.size = a.length + 1 + b.length := by rw [← length_bs, h]; simp; omega
  rw [Lib.extract_eq, Lib.extract_eq, h', hz]
  refine ⟨congrArg mk ?_, congrArg mk ?_⟩
  · simp
  · rw [show a.length + 1 + b.length - (a.length + 1) = b.length by omega, ← List.drop_drop]
    simp

theorem cut_hit (s : ByteArray) (a b : List UInt8) (w : World) (hab : bs s = a ++ 46 :: b) (ha : (46 : UInt8) ∉ a) (hs : s.size ≤ maxLen) : Calls Try.prog 21 #[.string s, .string ⟨#[46]⟩] w fun e w' => e = .returned (.tuple #[.string (mk a), .string (mk b), .bool true]) ∧ Below w.heap.size w w' := by
  have hi : Lib.indexByte (bs s) 46 = a.length := by rw [hab]; exact indexByte_hit a b ha
  have hl : a.length + 1 ≤ s.size := by rw [← length_bs, hab]; simp
  have hx := extract_front a b s hab
  have H : Hid (s.extract 0 a.length = mk a ∧ s.extract (a.length + 1) s.size = mk b) := hx
  clear hx hab ha
  go_enter Try.func21, Try.ntmps21
  go_wp2_with fail
  refine (slCut_hit _ a.length _ hi hl hs).mono ?_; rintro e w' ⟨rfl, hb⟩
  rw [H.out.1, H.out.2]
  clear hi
  go_wp2
  go_ret3
  exact ⟨rfl, hb⟩


theorem empty_yes {s : ByteArray} (h : s.size = 0) : s.toList.isEmpty = true := by
  rw [ByteArray.toList_eq, List.isEmpty_iff_length_eq_zero]; exact (length_bs s).trans h
theorem empty_no {s : ByteArray} (h : s.size ≠ 0) : s.toList.isEmpty = false := by
  rw [ByteArray.toList_eq, List.isEmpty_eq_false_iff]; intro e; apply h; rw [← length_bs, bs, e]; rfl

theorem bt_bs (s : ByteArray) (i : Nat) (h : i < s.size) : ∃ c, (bs s)[i]? = some c ∧ bt s i = c.toNat := by
  refine ⟨s[i], ?_, by unfold bt; rw [dif_pos h]⟩
  unfold bs
  rw [List.getElem?_eq_getElem (by rw [Array.length_toList]; exact h)]
  simp
  rfl

theorem okL_size {s : ByteArray} (h : s.size = 0 ∨ 8 < s.size) : okL (bs s) = false := by
  simp only [okL, length_bs]
  rcases h with h | h
  · simp [h]
  · have : ¬ s.size ≤ 8 := by omega
    simp [this]
theorem okL_bytes {s : ByteArray} (h1 : s.size ≠ 0) (h2 : s.size ≤ 8) : okL (bs s) = true ↔ ∀ i, i < s.size → okByte (bt s i) = true := by
  have h3 : 1 ≤ s.size := by omega
  simp only [okL, length_bs, h2, h3, decide_true, Bool.true_and, List.all_eq_true]
  constructor
  · intro h i hi
    obtain ⟨c, hc, hb⟩ := bt_bs s i hi
    have := h c (List.mem_of_getElem? hc)
    rwa [okC, ← hb] at this
  · intro h c hc
    obtain ⟨i, hi, hic⟩ := List.getElem_of_mem hc
    have hi' : i < s.size := by rw [← length_bs]; exact hi
    obtain ⟨c', hc', hb⟩ := bt_bs s i hi'
    rw [List.getElem?_eq_getElem hi, hic] at hc'
    cases hc'
    have := h i hi'
    rwa [hb] at this

theorem isLabel_c (s : ByteArray) (w : World) : Calls Try.prog 22 #[.string s] w fun e w' => e = .returned (.bool (okL (bs s))) ∧ w' = w := by
  by_cases h : s.size = 0 ∨ 8 < s.size
  · rw [okL_size h]
    by_cases h0 : s.size = 0
    · have he := empty_yes h0
      clear h h0
      go_enter Try.func22, Try.ntmps22
      go_wp2
      go_ret
      exact ⟨rfl, rfl⟩
    · have he := empty_no h0
      have h8 : 8 < (s.size : Int) := by omega
      clear h h0
      go_enter Try.func22, Try.ntmps22
      go_wp2
      go_ret
      exact ⟨rfl, rfl⟩
  · have h0 : s.size ≠ 0 := by omega
    have h8 : s.size ≤ 8 := by omega
    have he := empty_no h0
    have hiff : Hid (okL (bs s) = true ↔ ∀ i, i < s.size → okByte (bt s i) = true) := okL_bytes h0 h8
    generalize hV : okL (bs s) = V at hiff ⊢
    clear hV h h0
    have hb := get_bt s
    go_enter Try.func22, Try.ntmps22
    go_wp2
    go_loop [13] (fun i => ∃ j : Nat, j ≤ s.size ∧ i = .int .i64 j ∧ Hid (∀ i, i < j → okByte (bt s i) = true)) (fun i => s.size - (intOf i).toNat)
    case atStart => exact ⟨0, Nat.zero_le _, rfl, fun i hi => by omega⟩
    case round =>
      obtain ⟨j, hj, rfl, hall⟩ := hrel
      by_cases hlt : j < s.size
      · cases hok : okByte (bt s j) with
        | true =>
          have H : Hid (okByte (bt s j) = true) := hok
          clear hok
          go_wp2_with fail
          refine (isLabelByte_c _ _ (bt_nonneg _ _) (bt_le _ _)).mono ?_; rintro e w' ⟨rfl, rfl⟩
          rw [H.out]
          go_wp2
          go_round
          case rel => exact ⟨j + 1, by omega, by go_num, fun i hi => by by_cases e : i = j; (subst e; exact H.out); exact hall.out i (by omega)⟩
          case measure => simp [intOf]; omega
        | false =>
          have H : Hid (okByte (bt s j) = false) := hok
          clear hok
          go_wp2_with fail
          refine (isLabelByte_c _ _ (bt_nonneg _ _) (bt_le _ _)).mono ?_; rintro e w' ⟨rfl, rfl⟩
          rw [H.out]
          go_wp2
          go_ret
          refine ⟨ret_bool ?_, rfl⟩
          cases V with
          | false => rfl
          | true => have := hiff.out.1 rfl j hlt; rw [H.out] at this; exact this
      · obtain rfl : j = s.size := by omega
        go_wp2
        go_ret
        refine ⟨ret_bool ?_, rfl⟩
        exact (hiff.out.2 hall.out).symm


theorem Try.infoStr : (Try.prog.info? 9).map (fun i => (i.zero, i.size, i.bytes)) = some (some (.string ByteArray.empty), 1, 16) := by kernel_rfl

/-- A list of texts that the call itself made. -/
def Texts (w : World) (base : Nat) (v : Value) (ls : List (List UInt8)) : Prop := w.ownsRow base 9 1 v ls.length (ls.map fun l => .string (mk l))

/-- What is left to be cut. -/
def rest (more : Bool) (l : List UInt8) : List (List UInt8) := if more then split l else []

theorem cut_step (l : List UInt8) : (∃ a b, l = a ++ 46 :: b ∧ (46 : UInt8) ∉ a) ∨ (46 : UInt8) ∉ l := by
  induction l with
  | nil => right; simp
  | cons c l ih =>
    by_cases hc : c = 46
    · subst hc; exact .inl ⟨[], l, rfl, by simp⟩
    · rcases ih with ⟨a, b, rfl, ha⟩ | h
      · exact .inl ⟨c :: a, b, rfl, by simp only [List.mem_cons, not_or]; exact ⟨fun e => hc e.symm, ha⟩⟩
      · exact .inr (by simp only [List.mem_cons, not_or]; exact ⟨fun e => hc e.symm, h⟩)

theorem not_may {done r : List (List UInt8)} {s x : List UInt8} (hs : s ≠ []) (h : split s = done ++ x :: r) (hx : done.length = 8 ∨ okL x = false) : mayL s = false := by
  cases hm : mayL s with
  | false => rfl
  | true =>
    simp only [mayL, hs, decide_false, Bool.false_or, Bool.and_eq_true, decide_eq_true_eq, List.all_eq_true, h] at hm
    rcases hx with hx | hx
    · have := hm.1; simp at this; omega
    · have := hm.2 x (by simp); rw [hx] at this; exact absurd this (by simp)

def strOf : Value → ByteArray | .string s => s | _ => ⟨#[]⟩
def boolOf : Value → Bool | .bool b => b | _ => false

theorem cut_empty (s : ByteArray) (w : World) (h : s.size = 0) : Calls Try.prog 17 #[.string s] w fun e w' => e = .returned (.tuple #[.slice none 0 0, .bool true]) ∧ w' = w := by
  have he := empty_yes h
  clear h
  go_enter Try.func17, Try.ntmps17
  go_wp2
  go_ret2
  exact ⟨rfl, rfl⟩


theorem Texts.form {w : World} {base : Nat} {v : Value} {ls : List (List UInt8)} (h : Texts w base v ls) : ∃ a cap, v = .slice a ls.length cap := by
  obtain ⟨_, h | ⟨g, cap, cur, hv, _⟩⟩ := h
  · exact ⟨none, 0, by rw [h.1, h.2]⟩
  · exact ⟨_, cap, hv⟩

theorem texts_snoc {w : World} {base : Nat} {v : Value} {ls : List (List UInt8)} {x : List UInt8} (h : w.ownsRow base 9 1 v (ls.length + 1) ((ls.map fun l => Value.string (mk l)) ++ [.string (mk x)])) : Texts w base v (ls ++ [x]) := by
  unfold Texts; simpa using h

/-- The loop's relation: what has been cut, what is left. -/
structure Cutting (L : List UInt8) (done : List (List UInt8)) (r : List UInt8) (more : Bool) : Prop where
  len : done.length ≤ 8
  eq : split L = done ++ rest more r
  ok : ∀ x ∈ done, okL x = true
  room : r.length ≤ L.length

theorem rest_hit (a b : List UInt8) (ha : (46 : UInt8) ∉ a) : rest true (a ++ 46 :: b) = a :: rest true b := by
  simp [rest, split_append, split_nodot a ha]
theorem rest_miss (a : List UInt8) (ha : (46 : UInt8) ∉ a) : rest true a = a :: rest false [] := by
  simp [rest, split_nodot a ha]


theorem Texts.below {w w' : World} {base : Nat} {v : Value} {ls : List (List UInt8)} (h : Texts w base v ls) (hb : Below w.heap.size w w') : Texts w' base v ls := by
  obtain ⟨h1, h2⟩ := h
  refine ⟨h1, ?_⟩
  rcases h2 with h2 | ⟨g, cap, cur, hv, hg, hh, r⟩
  · exact .inl h2
  · exact .inr ⟨g, cap, cur, hv, hg, (hb.block g (Array.getElem?_eq_some_iff.1 hh).1).trans hh, r⟩

theorem cut_any (r : List UInt8) (hs : r.length ≤ maxLen) : ∃ x b m, rest true r = x :: rest m b ∧ b.length ≤ r.length ∧ (m = true → b.length < r.length) ∧
    ∀ w, Calls Try.prog 21 #[.string (mk r), .string ⟨#[46]⟩] w fun e w' => e = .returned (.tuple #[.string (mk x), .string (mk b), .bool m]) ∧ Below w.heap.size w w' := by
  rcases cut_step r with ⟨x, b, rfl, hx⟩ | hx
  · exact ⟨x, b, true, rest_hit x b hx, by simp; omega, fun _ => by simp; omega, fun w => cut_hit _ x b w rfl hx (by rw [size_mk]; exact hs)⟩
  · exact ⟨r, [], false, rest_miss r hx, by simp, fun h => by simp at h, fun w => (cut_miss (mk r) w hx).mono fun e w' ⟨h1, h2⟩ => ⟨h1, by rw [h2]; exact Below.refl _ _⟩⟩

set_option maxHeartbeats 800000 in
theorem cut_c1 (L : List UInt8) (w : World) (hne : L ≠ []) (hs : L.length ≤ maxLen) : Calls Try.prog 17 #[.string (mk L)] w fun e w' => (∃ v, e = .returned (.tuple #[v, .bool (mayL L)]) ∧ Texts w' w.heap.size v (labsL L)) ∧ Below w.heap.size w w' := by
  have he : (mk L).toList.isEmpty = false := empty_no (by rw [size_mk]; intro e; exact hne (List.eq_nil_of_length_eq_zero e))
  obtain ⟨i0, hi, hz0, hz1, hz2⟩ := info_parts Try.infoStr
  have Hne : Hid (L ≠ []) := hne
  have Hs : Hid (L.length ≤ maxLen) := hs
  clear hne hs
  go_enter Try.func17, Try.ntmps17
  go_wp2
  go_loopw [0, 4, 5] (fun s0 v m wr => ∃ (done : List (List UInt8)) (r : List UInt8) (more : Bool), s0 = .string (mk r) ∧ m = .bool more ∧ Texts wr w.heap.size v done ∧ Below w.heap.size w wr ∧ Cutting L done r more) (fun s0 _ m _ => if boolOf m then (strOf s0).size + 1 else 0)
  case atStart => exact ⟨[], L, true, rfl, rfl, World.ownsRow_nil _ _ _ _, Below.refl _ _, ⟨by simp, by simp [rest], by simp, Nat.le_refl _⟩⟩
  case round =>
    clear he
    obtain ⟨done, r, more, rfl, rfl, hown, hnx, hcut⟩ := hrel
    have hsz := hnx.size
    cases more with
    | false =>
      go_wp2
      go_ret2
      have e1 : split L = done := by rw [hcut.eq]; simp [rest]
      have hm : mayL L = true := by
        simp only [mayL, Hne.out, decide_false, Bool.false_or, Bool.and_eq_true, decide_eq_true_eq, List.all_eq_true, e1]
        exact ⟨hcut.len, hcut.ok⟩
      rw [hm, labsL_yes hm Hne.out, e1]
      exact ⟨⟨_, rfl, hown⟩, hnx⟩
    | true =>
      obtain ⟨a, cap, rfl⟩ := hown.form
      obtain ⟨x, b, m, hx, hb, hm, hC⟩ := cut_any r (Nat.le_trans hcut.room Hs.out)
      have HC : Hid (∀ w, Calls Try.prog 21 #[.string (mk r), .string ⟨#[46]⟩] w fun e w' => e = .returned (.tuple #[.string (mk x), .string (mk b), .bool m]) ∧ Below w.heap.size w w') := hC
      have Hx : Hid (rest true r = x :: rest m b) := hx
      have Hb : Hid (b.length ≤ r.length ∧ (m = true → b.length < r.length)) := ⟨hb, hm⟩
      clear hC hx hb hm
      by_cases h8 : done.length = 8
      · have hno : Hid (mayL L = false) := not_may Hne.out (by rw [hcut.eq, Hx.out]) (.inl h8)
        have h8' : ((done.length : Int) == 8) = true := by simp; omega
        clear h8
        go_wp2_with fail
        refine (HC.out _).mono ?_; rintro e w1 ⟨rfl, hb1⟩
        go_wp2
        go_ret2
        rw [hno.out, labsL_no hno.out]
        exact ⟨⟨_, rfl, World.ownsRow_nil _ _ _ _⟩, hnx.trans (hb1.mono hsz)⟩
      · have h8' : ((done.length : Int) == 8) = false := by simp; omega
        have h7 : done.length < 8 := by have := hcut.len; omega
        clear h8
        go_wp2_with fail
        refine (HC.out _).mono ?_; rintro e w1 ⟨rfl, hb1⟩
        go_wp2_with fail
        refine (isLabel_c _ _).mono ?_; rintro e w2 ⟨rfl, rfl⟩
        rw [bs_mk]
        cases hok : okL x with
        | false =>
          have hno : Hid (mayL L = false) := not_may Hne.out (by rw [hcut.eq, Hx.out]) (.inr hok)
          clear hok
          go_wp2
          go_ret2
          rw [hno.out, labsL_no hno.out]
          exact ⟨⟨_, rfl, World.ownsRow_nil _ _ _ _⟩, hnx.trans (hb1.mono hsz)⟩
        | true =>
          have Hok : Hid (okL x = true) := hok
          have hown1 := hown.below hb1
          have hnx1 : Below w.heap.size w w2 := hnx.trans (hb1.mono hsz)
          have hsz1 := hnx1.size
          clear hok hown hb1
          go_wp2_with (first
            | (at_builtin; refine wpList_append_own _ rfl _ _ 35 rfl w.heap.size 9 i0 (.string ByteArray.empty) 1 16 Try.underlying35 hi hz0 hz1 hz2 rfl (by decide) _ _ _ rfl (World.ownsRow.alloc hown1 _) ⟨w2.heap.size, 0, none⟩ 1 1 [.string (mk x)] rfl rfl ?c1 ?c2 ?c3 ?c4 ?c5 ?_)
            | go_in)
          case c1 =>
            intro j u hj
            match j, hj with
            | 0, hj => simp at hj; subst hj; simp [Addr.add]
          case c2 => intro u hu; simp at hu; subst hu; rfl
          case c3 => unfold maxLen; omega
          case c4 => omega
          case c5 => simp; omega
          · intro v' w3 hown' hgrow _
            have R : Texts w3 w.heap.size v' (done ++ [x]) := texts_snoc hown'
            have B : Below w.heap.size w w3 := (hnx1.alloc hsz1 _).grown hgrow (by simp; omega) (fun k hk => (World.ownsRow.lt hown1 k hk).1)
            clear hown' hgrow hown1
            go_wp2
            go_roundw
            case rel =>
              refine ⟨done ++ [x], b, m, rfl, rfl, R, B, ⟨by simp; omega, by rw [hcut.eq, Hx.out]; simp, ?_, Nat.le_trans Hb.out.1 hcut.room⟩⟩
              intro y hy
              rcases List.mem_append.1 hy with hy | hy
              · exact hcut.ok y hy
              · simp at hy; subst hy; exact Hok.out
            case measure =>
              simp only [boolOf, strOf, size_mk]
              have := Hb.out
              cases m with
              | false => simp
              | true => have := this.2 rfl; simp; omega

/-- name.cut, at whatever text. -/
theorem cut_c (s : ByteArray) (w : World) (hs : s.size ≤ maxLen) : Calls Try.prog 17 #[.string s] w fun e w' => (∃ v, e = .returned (.tuple #[v, .bool (mayL (bs s))]) ∧ Texts w' w.heap.size v (labsL (bs s))) ∧ Below w.heap.size w w' := by
  by_cases h : s.size = 0
  · have hb : bs s = [] := List.eq_nil_of_length_eq_zero (by rw [length_bs]; exact h)
    rw [hb, mayL_nil, labsL_nil]
    exact (cut_empty s w h).mono fun e w' ⟨h1, h2⟩ => by subst h2; exact ⟨⟨_, h1, World.ownsRow_nil _ _ _ _⟩, Below.refl _ _⟩
  · have := cut_c1 (bs s) w (by intro e; apply h; rw [← length_bs, e]; rfl) (by rw [length_bs]; exact hs)
    rwa [mk_bs] at this

theorem may_c (s : ByteArray) (w : World) (hs : s.size ≤ maxLen) : Calls Try.prog 14 #[.string s] w fun e w' => e = .returned (.bool (mayL (bs s))) ∧ Below w.heap.size w w' := by
  go_enter Try.func14, Try.ntmps14
  go_wp2_with fail
  refine (cut_c _ _ hs).mono ?_; rintro e w1 ⟨⟨v, rfl, ho⟩, hb⟩
  go_wp2
  go_ret
  exact ⟨rfl, hb⟩


end Go.Proofs.Ytlnkpgmflaekoaa
