/-
  Lists of known names: how they lie in memory; contracts of the laws' SameKnowns and of the references knownMay and where.
-/
import Derived.Test.YteaediobcjednaaNameRef
import Derived.Test.YteaediobcjednaaWirePure
import Derived.Deep.QuietTactic
import Derived.BigQuiet
import Derived.WalkSmall
namespace Go.Proofs.Yteaediobcjednaa
open Go.ChangeShapes Go.WideShapes Go.ChangeAt Go.RowKit Go.Pin Go.PlainAid

/-- The j-th of them. -/
def knAt (ks : List Kn) (j : Nat) : Kn := ks.getD j ([], 0)
/-- The two cells of one of them. -/
def KnCell (w : World) (y : Addr) (k : Kn) : Prop := w.cell? y = some (.string (mk k.1)) ∧ w.cell? ⟨y.block, y.off + 1, none⟩ = some (.int .i64 k.2)
/-- The known names ks lie from x on. -/
def KnFrom (w : World) (x : Addr) (ks : List Kn) : Prop := ∀ j, j < ks.length → KnCell w (x.add (j * 2)) (knAt ks j)
/-- The known names ks lie behind the address a. -/
def KnLies (w : World) (a : Option Addr) (ks : List Kn) : Prop := ks = [] ∨ ∃ x, a = some x ∧ KnFrom w x ks

theorem findK_at (ks : List Kn) (x : List UInt8) : (∃ j, j < ks.length ∧ (knAt ks j).1 = x ∧ findK ks x = some (knAt ks j).2 ∧ ∀ i, i < j → (knAt ks i).1 ≠ x) ∨ (findK ks x = none ∧ ∀ i, i < ks.length → (knAt ks i).1 ≠ x) := by
  induction ks with
  | nil => exact .inr ⟨rfl, fun i hi => by simp at hi⟩
  | cons k r ih =>
    by_cases h : k.1 = x
    · exact .inl ⟨0, by simp, h, by simp [findK, h, knAt], fun i hi => by omega⟩
    · rcases ih with ⟨j, hj, h1, h2, h3⟩ | ⟨h1, h2⟩
      · refine .inl ⟨j + 1, by simp; omega, h1, by simp [findK, h, h2, knAt], fun i hi => ?_⟩
        cases i with
        | zero => exact h
        | succ i => exact h3 i (by omega)
      · refine .inr ⟨by simp [findK, h, h1], fun i hi => ?_⟩
        cases i with
        | zero => exact h
        | succ i => exact h2 i (by simp at hi; omega)

theorem retn_int {k : IntKind} {a b : Int} (h : a = b) : Ending.returned (Value.int k a) = .returned (.int k b) := by rw [h]

theorem where_from (x : Addr) (cap : Nat) (ks : List Kn) (n : List UInt8) (w : World) (hl : ks.length ≤ 1000000000) (h : KnFrom w x ks) :
    Calls Try.prog 34 #[.slice (some x) ks.length cap, .string (mk n)] w fun e w' => e = .returned (.int .i64 ((findK ks n).getD (-1))) ∧ w' = w := by
  have HF : Hid (_) := findK_at ks n
  generalize findK ks n = V at *
  have H : Hid (KnFrom w x ks) := h
  clear h
  go_enter Try.func34, Try.ntmps34
  go_wp2
  go_loop [5] (fun i => ∃ j : Nat, j ≤ ks.length ∧ i = .int .i64 j ∧ Hid (∀ i, i < j → (knAt ks i).1 ≠ n)) (fun i => ks.length - (intOf i).toNat)
  case atStart => exact ⟨0, Nat.zero_le _, rfl, fun i hi => by omega⟩
  case round =>
    obtain ⟨j, hj, rfl, hall⟩ := hrel
    by_cases hlt : j < ks.length
    · obtain ⟨h0, h1⟩ := H.out j hlt
      by_cases he : (knAt ks j).1 = n
      · have heq := eq_yes (congrArg mk he)
        have HV : Hid (V.getD (-1) = (knAt ks j).2) := by
          rcases HF.out with ⟨i, hi, h1, h2, h3⟩ | ⟨h1, h2⟩
          · have : i = j := by
              rcases Nat.lt_trichotomy i j with hh | hh | hh
              · exact absurd h1 (hall.out i hh)
              · exact hh
              · exact absurd he (h3 j hh)
            subst this; rw [h2]; rfl
          · exact absurd he (h2 j hlt)
        clear he HF hall
        go_wp2
        go_ret
        exact ⟨retn_int HV.out.symm, rfl⟩
      · have heq := eq_no (fun e => he (mk_inj e))
        have Hne : Hid ((knAt ks j).1 ≠ n) := he
        clear he
        go_wp2
        go_round
        case rel => exact ⟨j + 1, by omega, by go_num, fun i hi => by by_cases e : i = j; (subst e; exact Hne.out); exact hall.out i (by omega)⟩
        case measure => simp [intOf]; omega
    · obtain rfl : j = ks.length := by omega
      have HV : Hid (V = none) := by
        rcases HF.out with ⟨i, hi, h1, h2, h3⟩ | ⟨h1, h2⟩
        · exact absurd h1 (hall.out i hi)
        · exact h1
      go_wp2
      go_ret
      exact ⟨by rw [HV.out]; rfl, rfl⟩

theorem where_none (a : Option Addr) (cap : Nat) (n : List UInt8) (w : World) :
    Calls Try.prog 34 #[.slice a 0 cap, .string (mk n)] w fun e w' => e = .returned (.int .i64 (-1)) ∧ w' = w := by
  go_enter Try.func34, Try.ntmps34
  go_wp2
  go_rounds 1
  go_ret
  exact ⟨rfl, rfl⟩

theorem where_c (a : Option Addr) (cap : Nat) (ks : List Kn) (n : List UInt8) (w : World) (hl : ks.length ≤ 1000000000) (h : KnLies w a ks) :
    Calls Try.prog 34 #[.slice a ks.length cap, .string (mk n)] w fun e w' => e = .returned (.int .i64 ((findK ks n).getD (-1))) ∧ w' = w := by
  rcases h with rfl | ⟨x, rfl, h⟩
  · exact where_none a cap n w
  · exact where_from x cap ks n w hl h

theorem knownMay_none (a : Option Addr) (cap : Nat) (w : World) :
    Calls Try.prog 33 #[.slice a 0 cap] w fun e w' => e = .returned (.bool true) ∧ w' = w := by
  go_enter Try.func33, Try.ntmps33
  go_wp2
  go_rounds 1
  go_ret
  exact ⟨rfl, rfl⟩

theorem known_cases (k : Kn) : (knownL k = false ∧ k.1 = []) ∨ (knownL k = false ∧ k.1 ≠ [] ∧ mayL k.1 = false) ∨ (knownL k = false ∧ k.1 ≠ [] ∧ mayL k.1 = true ∧ k.2 < 0) ∨ (knownL k = false ∧ k.1 ≠ [] ∧ mayL k.1 = true ∧ 16384 ≤ k.2) ∨ (knownL k = true ∧ k.1 ≠ [] ∧ mayL k.1 = true ∧ 0 ≤ k.2 ∧ k.2 < 16384) := by
  by_cases h0 : k.1 = []
  · exact .inl ⟨by simp [knownL, h0], h0⟩
  · cases h1 : mayL k.1 with
    | false => exact .inr (.inl ⟨by simp [knownL, h1], h0, rfl⟩)
    | true =>
      by_cases h2 : k.2 < 0
      · exact .inr (.inr (.inl ⟨by simp [knownL]; omega, h0, rfl, h2⟩))
      · by_cases h3 : 16384 ≤ k.2
        · exact .inr (.inr (.inr (.inl ⟨by simp [knownL]; omega, h0, rfl, h3⟩)))
        · exact .inr (.inr (.inr (.inr ⟨by simp [knownL, h0, h1]; omega, h0, rfl, by omega, by omega⟩)))

theorem empty_mk_yes {l : List UInt8} (h : l = []) : (mk l).toList.isEmpty = true := empty_yes (by rw [h]; rfl)
theorem empty_mk_no {l : List UInt8} (h : l ≠ []) : (mk l).toList.isEmpty = false := empty_no (by rw [size_mk]; intro e; exact h (List.eq_nil_of_length_eq_zero e))
theorem all_no {ks : List Kn} {j : Nat} (hj : j < ks.length) (h : knownL (knAt ks j) = false) : ks.all knownL = false := by
  rw [List.all_eq_false]
  refine ⟨knAt ks j, ?_, by simp [h]⟩
  unfold knAt
  rw [List.getD_eq_getElem?_getD, List.getElem?_eq_getElem hj]
  exact List.getElem_mem hj
theorem all_yes {ks : List Kn} (h : ∀ j, j < ks.length → knownL (knAt ks j) = true) : ks.all knownL = true := by
  rw [List.all_eq_true]
  intro k hk
  obtain ⟨j, hj, rfl⟩ := List.getElem_of_mem hk
  have := h j hj
  unfold knAt at this
  rwa [List.getD_eq_getElem?_getD, List.getElem?_eq_getElem hj] at this
theorem KnCell.below {w w' : World} {y : Addr} {k : Kn} (h : KnCell w y k) (hb : Below w.heap.size w w') : KnCell w' y k := by
  obtain ⟨h0, h1⟩ := h
  exact ⟨(hb.cell (World.block_lt_of_cell? w _ h0)).trans h0, (hb.cell (World.block_lt_of_cell? w _ h1)).trans h1⟩
theorem KnFrom.below {w w' : World} {x : Addr} {ks : List Kn} (h : KnFrom w x ks) (hb : Below w.heap.size w w') : KnFrom w' x ks := fun j hj => (h j hj).below hb
theorem KnLies.below {w w' : World} {a : Option Addr} {ks : List Kn} (h : KnLies w a ks) (hb : Below w.heap.size w w') : KnLies w' a ks := by
  rcases h with h | ⟨x, rfl, h⟩
  · exact .inl h
  · exact .inr ⟨x, rfl, h.below hb⟩

theorem knownMay_from (x : Addr) (cap : Nat) (ks : List Kn) (w : World) (hl : ks.length ≤ 1000000000) (hs : ∀ k ∈ ks, k.1.length ≤ 1048576) (h : KnFrom w x ks) :
    Calls Try.prog 33 #[.slice (some x) ks.length cap] w fun e w' => e = .returned (.bool (ks.all knownL)) ∧ Below w.heap.size w w' := by
  have Hno : Hid (∀ j, j < ks.length → knownL (knAt ks j) = false → ks.all knownL = false) := fun j => all_no
  have Hyes : Hid ((∀ j, j < ks.length → knownL (knAt ks j) = true) → ks.all knownL = true) := all_yes
  generalize ks.all knownL = V at *
  have H : Hid (KnFrom w x ks) := h
  have Hs : Hid (∀ j, j < ks.length → (knAt ks j).1.length ≤ 1048576) := by
    intro j hj
    apply hs
    unfold knAt
    rw [List.getD_eq_getElem?_getD, List.getElem?_eq_getElem hj]
    exact List.getElem_mem hj
  clear h hs
  go_enter Try.func33, Try.ntmps33
  go_wp2
  go_loopw [3] (fun i wr => ∃ j : Nat, j ≤ ks.length ∧ i = .int .i64 j ∧ Hid (∀ i, i < j → knownL (knAt ks i) = true) ∧ Below w.heap.size w wr) (fun i _ => ks.length - (intOf i).toNat)
  case atStart => exact ⟨0, Nat.zero_le _, rfl, fun i hi => by omega, Below.refl _ _⟩
  case round =>
    obtain ⟨j, hj, rfl, hall, B⟩ := hrel
    by_cases hlt : j < ks.length
    · obtain ⟨h0, h1⟩ := (H.out j hlt).below B
      have hn := Hno.out j hlt
      have hsz := Hs.out j hlt
      have hall' : Hid (knownL (knAt ks j) = true → ∀ i, i < j + 1 → knownL (knAt ks i) = true) := fun hk i hi => by by_cases e : i = j; (subst e; exact hk); exact hall.out i (by omega)
      have hcs := known_cases (knAt ks j)
      have HM : Hid (∀ w b, mayL (knAt ks j).1 = b → Calls Try.prog 19 #[.string (mk (knAt ks j).1)] w fun e w' => e = .returned (.bool b) ∧ Below w.heap.size w w') := by
        intro w b hb; rw [← hb]; exact nameMay_c (mk (knAt ks j).1) w (by rw [size_mk]; exact hsz)
      generalize knAt ks j = k at *
      obtain ⟨n, a⟩ := k
      clear hall Hno
      simp only at hcs h0 h1 HM hsz
      rcases hcs with ⟨hk, hc⟩ | ⟨hk, hc, hm⟩ | ⟨hk, hc, hm, ha⟩ | ⟨hk, hc, hm, ha⟩ | ⟨hk, hc, hm, ha, hb⟩
      · have he := empty_mk_yes hc
        have HV : Hid (V = false) := hn hk
        clear hn hc hk hall' HM
        go_wp2
        go_ret
        exact ⟨ret_bool HV.out.symm, B⟩
      · have he := empty_mk_no hc
        have HV : Hid (V = false) := hn hk
        have HC : Hid (_) := fun w => HM.out w _ hm
        clear hn hc hk hall' HM hm
        go_wp2_with fail
        refine (HC.out _).mono ?_; rintro e w1 ⟨rfl, hb1⟩
        replace B := B.trans (hb1.mono B.size)
        clear h0 h1 hb1
        go_wp2
        go_ret
        exact ⟨ret_bool HV.out.symm, B⟩
      · have he := empty_mk_no hc
        have HV : Hid (V = false) := hn hk
        have HC : Hid (_) := fun w => HM.out w _ hm
        clear hn hc hk hall' HM hm
        go_wp2_with fail
        refine (HC.out _).mono ?_; rintro e w1 ⟨rfl, hb1⟩
        replace B := B.trans (hb1.mono B.size)
        obtain ⟨h0', h1'⟩ := KnCell.below (k := (n, a)) ⟨h0, h1⟩ hb1
        clear h0 h1 hb1
        go_wp2
        go_ret
        exact ⟨ret_bool HV.out.symm, B⟩
      · have he := empty_mk_no hc
        have HV : Hid (V = false) := hn hk
        have HC : Hid (_) := fun w => HM.out w _ hm
        have ha0 : decide (a < 0) = false := by simp; omega
        clear hn hc hk hall' HM hm
        go_wp2_with fail
        refine (HC.out _).mono ?_; rintro e w1 ⟨rfl, hb1⟩
        replace B := B.trans (hb1.mono B.size)
        obtain ⟨h0', h1'⟩ := KnCell.below (k := (n, a)) ⟨h0, h1⟩ hb1
        clear h0 h1 hb1
        go_wp2
        go_ret
        exact ⟨ret_bool HV.out.symm, B⟩
      · have he := empty_mk_no hc
        have Hall : Hid (∀ i, i < j + 1 → knownL (knAt ks i) = true) := hall'.out hk
        have HC : Hid (_) := fun w => HM.out w _ hm
        have ha0 : decide (a < 0) = false := by simp; omega
        have hb0 : decide (16384 ≤ a) = false := by simp; omega
        clear hn hc hk hall' HM hm
        go_wp2_with fail
        refine (HC.out _).mono ?_; rintro e w1 ⟨rfl, hb1⟩
        replace B := B.trans (hb1.mono B.size)
        obtain ⟨h0', h1'⟩ := KnCell.below (k := (n, a)) ⟨h0, h1⟩ hb1
        clear h0 h1 hb1
        go_wp2
        go_roundw
        case rel => exact ⟨j + 1, by omega, by go_num, Hall, B⟩
        case measure => simp [intOf]; omega
    · obtain rfl : j = ks.length := by omega
      have HV : Hid (V = true) := Hyes.out hall.out
      go_wp2
      go_ret
      exact ⟨ret_bool HV.out.symm, B⟩

theorem knownMay_c (a : Option Addr) (cap : Nat) (ks : List Kn) (w : World) (hl : ks.length ≤ 1000000000) (hs : ∀ k ∈ ks, k.1.length ≤ 1048576) (h : KnLies w a ks) :
    Calls Try.prog 33 #[.slice a ks.length cap] w fun e w' => e = .returned (.bool (ks.all knownL)) ∧ Below w.heap.size w w' := by
  rcases h with rfl | ⟨x, rfl, h⟩
  · exact (knownMay_none a cap w).mono fun e w' ⟨h1, h2⟩ => ⟨h1, by rw [h2]; exact Below.refl _ _⟩
  · exact knownMay_from x cap ks w hl hs h


/-! ### lists of known names that a call made -/
def knCells (ks : List Kn) : List Value := ks.flatMap fun k => [.string (mk k.1), .int .i64 k.2]
theorem knCells_len (ks : List Kn) : (knCells ks).length = ks.length * 2 := by
  induction ks with
  | nil => rfl
  | cons k r ih =>
    have hc : knCells (k :: r) = .string (mk k.1) :: .int .i64 k.2 :: knCells r := rfl
    rw [hc, List.length_cons, List.length_cons, List.length_cons, ih]; omega
theorem knCells_append (a b : List Kn) : knCells (a ++ b) = knCells a ++ knCells b := by simp [knCells]
theorem knCells_at (ks : List Kn) : ∀ j, j < ks.length → (knCells ks)[j * 2]? = some (.string (mk (knAt ks j).1)) ∧ (knCells ks)[j * 2 + 1]? = some (.int .i64 (knAt ks j).2) := by
  induction ks with
  | nil => intro j hj; simp at hj
  | cons k r ih =>
    intro j hj
    have hc : knCells (k :: r) = .string (mk k.1) :: .int .i64 k.2 :: knCells r := rfl
    cases j with
    | zero => exact ⟨rfl, rfl⟩
    | succ j =>
      obtain ⟨h1, h2⟩ := ih j (by simp at hj; omega)
      rw [hc, show (j + 1) * 2 = j * 2 + 1 + 1 by omega, show j * 2 + 1 + 1 + 1 = (j * 2 + 1) + 1 + 1 by omega]
      exact ⟨h1, h2⟩
theorem knCells_one (ks : List Kn) : ∀ u ∈ knCells ks, u.oneCell' = true := by
  intro u hu
  simp only [knCells, List.mem_flatMap] at hu
  obtain ⟨k, _, hu⟩ := hu
  simp at hu
  rcases hu with rfl | rfl <;> rfl
/-- A list of known names that the call itself made. -/
def Knowns (w : World) (base : Nat) (v : Value) (ks : List Kn) : Prop := w.ownsRow base 68 2 v ks.length (knCells ks)

theorem cells_of_from {w : World} {x : Addr} {ks : List Kn} (h : KnFrom w x ks) : ∀ j u, (knCells ks)[j]? = some u → w.cell? (x.add j) = some u := by
  intro j u hj
  have hjl : j < (knCells ks).length := (List.getElem?_eq_some_iff.1 hj).1
  rw [knCells_len] at hjl
  obtain ⟨h1, h2⟩ := knCells_at ks (j / 2) (by omega)
  obtain ⟨g1, g2⟩ := h (j / 2) (by omega)
  rcases Nat.mod_two_eq_zero_or_one j with hm | hm
  · rw [show j = j / 2 * 2 by omega] at hj ⊢
    rw [h1] at hj
    rw [g1, hj]
  · rw [show j = j / 2 * 2 + 1 by omega] at hj ⊢
    rw [h2] at hj
    rw [← hj, ← g2]
    congr 1
    unfold Addr.add
    rw [if_neg (by omega)]
    by_cases hz : j / 2 * 2 = 0
    · rw [if_pos hz, hz]
    · rw [if_neg hz]; simp only [Addr.mk.injEq, and_true, true_and]; omega

theorem Knowns.lies {w : World} {base : Nat} {v : Value} {ks : List Kn} (h : Knowns w base v ks) : ∃ a cap, v = .slice a ks.length cap ∧ KnLies w a ks := by
  have hh := h
  obtain ⟨_, h | ⟨g, cap, cur, hv, hg, hb, hn, hm, hz, ht⟩⟩ := h
  · exact ⟨none, 0, by rw [h.1, h.2], .inl (List.eq_nil_of_length_eq_zero h.2)⟩
  · refine ⟨_, cap, hv, .inr ⟨_, rfl, fun j hj => ?_⟩⟩
    subst hv
    have key : ∀ i, i < ks.length * 2 → w.cell? ⟨g, i, none⟩ = (knCells ks)[i]? := by
      intro i hi
      simp only [World.cell?, hb]
      rw [← ht, List.getElem?_take, if_pos hi]
      simp
    obtain ⟨h1, h2⟩ := knCells_at ks j hj
    refine ⟨?_, ?_⟩
    · rw [addr_add, Nat.zero_add, key _ (by omega), h1]
    · rw [addr_add]
      simp only [Nat.zero_add]
      rw [key _ (by omega), h2]
theorem Knowns.below {w w' : World} {base : Nat} {v : Value} {ks : List Kn} (h : Knowns w base v ks) (hb : Below w.heap.size w w') : Knowns w' base v ks := by
  obtain ⟨h1, h2⟩ := h
  refine ⟨h1, ?_⟩
  rcases h2 with h2 | ⟨g, cap, cur, hv, hg, hh, r⟩
  · exact .inl h2
  · exact .inr ⟨g, cap, cur, hv, hg, (hb.block g (Array.getElem?_eq_some_iff.1 hh).1).trans hh, r⟩
theorem Knowns.base {w : World} {b b' : Nat} {v : Value} {ks : List Kn} (h : Knowns w b v ks) (hb : b' ≤ b) : Knowns w b' v ks := by
  obtain ⟨h1, h2⟩ := h
  refine ⟨h1, ?_⟩
  rcases h2 with h2 | ⟨g, cap, cur, hv, hg, r⟩
  · exact .inl h2
  · exact .inr ⟨g, cap, cur, hv, Nat.le_trans hb hg, r⟩
theorem Try.infoKn : (Try.prog.info? 68).map (fun i => (i.zero, i.size, i.bytes)) = some (some (.agg #[.string ByteArray.empty, .int .i64 0]), 2, 24) := by kernel_rfl

end Go.Proofs.Yteaediobcjednaa
