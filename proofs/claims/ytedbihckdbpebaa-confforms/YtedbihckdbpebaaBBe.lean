/-
  Several texts in one.
-/
import Derived.Test.YtedbihckdbpebaaRows
import Derived.Test.YtedbihckdbpebaaBName
import Derived.WalkKit
import Derived.ProofKit
import Derived.WalkSpells
import Derived.PlainAid
import Derived.Handy
/-
  Contracts of package be, of the references PutBe, GetBe and Num, and of the laws' Num: what each call returns, for every argument of the kind that is named in each theorem.
-/
namespace Go.Proofs.Ytedbihckdbpebaa
open Go.ChangeShapes Go.WideShapes Go.ChangeAt Go.RowKit Go.Pin Go.PlainAid

theorem Try.infoU8 : (Try.prog.info? 5).map (fun i => (i.zero, i.size, i.bytes)) = some (some (.int .u8 0), 1, 1) := by kernel_rfl

def widthB (k : Int) : Bool := decide (k = 1 ∨ k = 2 ∨ k = 4)

theorem be_1 (x : Int) (h0 : 0 ≤ x) (h1 : x < 256) : be x 1 = str [x] := by
  have e : top x 1 1 = [x] := by simp [top, byteAt, List.range_succ]; omega
  rw [be, e]
theorem be_2 (x : Int) (h0 : 0 ≤ x) (h1 : x < 65536) : be x 2 = str [x / 256, x % 256] := by
  have e : top x 2 2 = [x / 256, x % 256] := by simp [top, byteAt, List.range_succ]; omega
  rw [be, e]
theorem be_4 (x : Int) (h0 : 0 ≤ x) (h1 : x < 4294967296) : be x 4 = str [x / 16777216, x / 65536 % 256, x / 256 % 256, x % 256] := by
  have e : top x 4 4 = [x / 16777216, x / 65536 % 256, x / 256 % 256, x % 256] := by simp [top, byteAt, List.range_succ]; omega
  rw [be, e]

/-- The numbers of k bytes. -/
def inB (x : Int) (k : Int) : Prop := (k = 1 ∧ 0 ≤ x ∧ x < 256) ∨ (k = 2 ∧ 0 ≤ x ∧ x < 65536) ∨ (k = 4 ∧ 0 ≤ x ∧ x < 4294967296)

/-- The number of the k bytes from place at on, the highest first. -/
def num (s : ByteArray) (at_ : Nat) : Nat → Int
  | 0 => 0
  | k + 1 => num s at_ k * 256 + bt s (at_ + k)

theorem num_bd (s : ByteArray) (at_ : Nat) : ∀ k, 0 ≤ num s at_ k ∧ num s at_ k < 256 ^ k
  | 0 => ⟨Int.le_refl _, by simp [num]⟩
  | k + 1 => by
    have h := num_bd s at_ k
    have h1 := bt_nonneg s (at_ + k)
    have h2 := bt_le s (at_ + k)
    simp only [num, Int.pow_succ]
    omega

theorem num_lt (s : ByteArray) (a j : Nat) (h : j ≤ 4) : 0 ≤ num s a j ∧ num s a j < 1099511627776 := by
  have h1 := num_bd s a j
  have hj : j = 0 ∨ j = 1 ∨ j = 2 ∨ j = 3 ∨ j = 4 := by omega
  rcases hj with rfl | rfl | rfl | rfl | rfl <;> omega

theorem ret_int {k : IntKind} {a b : Int} (h : a = b) : Value.int k a = .int k b := by rw [h]

theorem num_step (s : ByteArray) (a j : Nat) (h : j ≤ 4) : bits .or .i64 (wrap64 (num s a j * 256)) (wrap64 (bt s (a + j))) = num s a (j + 1) :=
  or_byte _ _ (num_lt s a j h).1 (num_lt s a j h).2 (bt_nonneg _ _) (bt_le _ _)

/-! ### The references -/
theorem rel_snoc (x : Int) (k j : Nat) : top x k (j + 1) = top x k j ++ [x / 2 ^ (8 * (k - 1 - j)) % 256] := by
  simp [top, byteAt, List.range_succ]

end Go.Proofs.Ytedbihckdbpebaa

/-
  Plain facts on the bytes of numbers: what stands within a text is told again; lesser numbers are lesser texts.
-/
namespace Go.Proofs.Ytedbihckdbpebaa
open Go.RowKit Go.Pin Go.PlainAid

theorem bt_list (s : ByteArray) (k : Nat) : bt s k = ((s.data.toList.map fun c => (c.toNat : Int))[k]?).getD 0 := by
  unfold bt
  split
  · rename_i h
    have h' : k < s.data.toList.length := by simpa using h
    rw [List.getElem?_map, List.getElem?_eq_getElem h']
    simp [ByteArray.getElem_eq_getElem_data]
  · rename_i h
    have h' : s.data.toList.length ≤ k := by simpa using h
    rw [List.getElem?_map, List.getElem?_eq_none h']
    rfl

theorem bt_mid (X M Y : ByteArray) (j : Nat) (h : j < M.size) : bt (X ++ M ++ Y) (X.size + j) = bt M j := by
  rw [bt_list, bt_list]
  have h1 : X.data.toList.length = X.size := by simp
  have h2 : M.data.toList.length = M.size := by simp
  simp only [ByteArray.data_append, Array.toList_append, List.map_append]
  rw [List.getElem?_append_left (by simp; omega), List.getElem?_append_right (by simp)]
  simp

theorem num_mid (X M Y : ByteArray) : ∀ k, k ≤ M.size → num (X ++ M ++ Y) X.size k = num M 0 k
  | 0, _ => rfl
  | k + 1, h => by
    rw [num, num, num_mid X M Y k (by omega), bt_mid X M Y k (by omega)]
    simp

theorem bt_str (ns : List Int) (j : Nat) (h : ∀ n ∈ ns, 0 ≤ n ∧ n < 256) : bt (str ns) j = ns.getD j 0 := by
  rw [bt_list]
  simp only [str, List.map_map, List.getElem?_map]
  by_cases hj : j < ns.length
  · rw [List.getElem?_eq_getElem hj]
    have := h _ (List.getElem_mem hj)
    simp [List.getD, List.getElem?_eq_getElem hj]
    omega
  · rw [List.getElem?_eq_none (by omega)]
    simp [List.getD, List.getElem?_eq_none (Nat.le_of_not_lt hj)]

theorem num_be_1 (A : Int) (h0 : 0 ≤ A) (h1 : A < 256) : num (be A 1) 0 1 = A := by
  rw [be_1 A h0 h1]
  simp only [num]
  rw [bt_str _ _ (by intro n hn; simp at hn; omega)]
  simp
theorem num_be_2 (A : Int) (h0 : 0 ≤ A) (h1 : A < 65536) : num (be A 2) 0 2 = A := by
  rw [be_2 A h0 h1]
  simp only [num]
  rw [bt_str _ _ (by intro n hn; simp at hn; omega), bt_str _ _ (by intro n hn; simp at hn; omega)]
  simp; omega
theorem num_be_4 (A : Int) (h0 : 0 ≤ A) (h1 : A < 4294967296) : num (be A 4) 0 4 = A := by
  rw [be_4 A h0 h1]
  simp only [num]
  rw [bt_str _ _ (by intro n hn; simp at hn; omega), bt_str _ _ (by intro n hn; simp at hn; omega), bt_str _ _ (by intro n hn; simp at hn; omega), bt_str _ _ (by intro n hn; simp at hn; omega)]
  simp; omega

theorem num_be (A : Int) (k : Nat) (h : inB A k) : num (be A k) 0 k = A := by
  rcases h with ⟨hk, h0, h1⟩ | ⟨hk, h0, h1⟩ | ⟨hk, h0, h1⟩
  · obtain rfl : k = 1 := by omega
    exact num_be_1 A h0 h1
  · obtain rfl : k = 2 := by omega
    exact num_be_2 A h0 h1
  · obtain rfl : k = 4 := by omega
    exact num_be_4 A h0 h1

theorem toNat_byte (n : Int) (_h0 : 0 ≤ n) (h1 : n < 256) : (UInt8.ofNat n.toNat).toNat = n.toNat := by simp; omega

theorem less_byte (a b : Int) (a0 : 0 ≤ a) (a1 : a < 256) (b0 : 0 ≤ b) (b1 : b < 256) : (UInt8.ofNat a.toNat < UInt8.ofNat b.toNat ↔ a < b) ∧ (UInt8.ofNat a.toNat = UInt8.ofNat b.toNat ↔ a = b) := by
  have ha := toNat_byte a a0 a1
  have hb := toNat_byte b b0 b1
  constructor
  · rw [UInt8.lt_iff_toNat_lt, ha, hb]; omega
  · rw [← UInt8.toNat_inj, ha, hb]; omega

theorem less_be (A B : Int) (a0 : 0 ≤ A) (a1 : A < 4294967296) (b0 : 0 ≤ B) (b1 : B < 4294967296) : Op.bytesLess (be A 4).toList (be B 4).toList = decide (A < B) := by
  rw [be_4 A a0 a1, be_4 B b0 b1, str, str, ByteArray.toList_eq, ByteArray.toList_eq]
  have l1 := less_byte (A / 16777216) (B / 16777216) (by omega) (by omega) (by omega) (by omega)
  have l2 := less_byte (A / 65536 % 256) (B / 65536 % 256) (by omega) (by omega) (by omega) (by omega)
  have l3 := less_byte (A / 256 % 256) (B / 256 % 256) (by omega) (by omega) (by omega) (by omega)
  have l4 := less_byte (A % 256) (B % 256) (by omega) (by omega) (by omega) (by omega)
  simp only [List.map_cons, List.map_nil, Op.bytesLess]
  rw [Bool.eq_iff_iff]
  simp only [Bool.or_eq_true, Bool.and_eq_true, decide_eq_true_eq, beq_iff_eq, l1.1, l1.2, l2.1, l2.2, l3.1, l3.2, l4.1, l4.2]
  simp only [Bool.false_eq_true, and_false, or_false]
  omega
end Go.Proofs.Ytedbihckdbpebaa

/-
  Plain lemmas that speak of no program: names put into a message, with pointers to those that stand there; names told out of one.
-/
namespace Go.Pin

/-! ### Put -/
abbrev Kn := List UInt8 × Int
/-- Where the first of these names stands. -/
def findK : List Kn → List UInt8 → Option Int
  | [], _ => none
  | k :: r, x => if k.1 = x then some k.2 else findK r x
/-- May a name be known there? -/
def knownL (k : Kn) : Bool := !decide (k.1 = []) && mayL k.1 && decide (0 ≤ k.2) && decide (k.2 < 16384)
/-- Two bytes of a number, the highest first. -/
def be2 (x : Int) : List UInt8 := [UInt8.ofNat (x / 256).toNat, UInt8.ofNat (x % 256).toNat]
/-- The bytes of labels. -/
def putS (ks : List Kn) : List (List UInt8) → List UInt8
  | [] => [0]
  | p :: r => match findK ks (join (p :: r)) with
    | some a => be2 (49152 + a)
    | none => UInt8.ofNat p.length :: (p ++ putS ks r)
/-- What is known from then on. -/
def putN (ks : List Kn) : Int → List (List UInt8) → List Kn
  | _, [] => []
  | at_, p :: r => match findK ks (join (p :: r)) with
    | some _ => []
    | none => (if at_ < 16384 then [(join (p :: r), at_)] else []) ++ putN ks (at_ + 1 + p.length) r
def mayPutL (at_ : Int) (ks : List Kn) (name : List UInt8) : Bool := decide (0 ≤ at_) && decide (at_ ≤ 65535) && mayL name && ks.all knownL

/-! ### Get -/
/-- Where the reader stands: at, where its row began, where it goes on (0: not clear yet), the labels. -/
structure St where
  at_ : Nat
  row : Nat
  en : Nat
  labs : List (List UInt8)
def goOn (en x : Nat) : Nat := if en = 0 then x else en
/-- One step: an error's number, or whether that was the end. -/
def stepWire (s : List UInt8) (x : St) : Sum Int (Bool × St) :=
  match s[x.at_]? with
  | none => .inl 301
  | some c0 =>
    let c := c0.toNat
    if c = 0 then .inr (true, { x with en := goOn x.en (x.at_ + 1) })
    else if c ≤ 8 then
      if s.length < x.at_ + 1 + c then .inl 301
      else if okL (foldL ((s.drop (x.at_ + 1)).take c)) = true ∧ x.labs.length ≠ 8 then
        .inr (false, { x with at_ := x.at_ + 1 + c, labs := x.labs ++ [foldL ((s.drop (x.at_ + 1)).take c)] })
      else .inl 300
    else if 192 ≤ c then
      match s[x.at_ + 1]? with
      | none => .inl 301
      | some d =>
        let p := (c - 192) * 256 + d.toNat
        if x.row ≤ p then .inl 300 else .inr (false, { x with at_ := p, row := p, en := goOn x.en (x.at_ + 2) })
    else .inl 300
def runWire : Nat → List UInt8 → St → Sum Int St
  | 0, _, _ => .inl 0
  | f + 1, s, x => match stepWire s x with
    | .inl e => .inl e
    | .inr (true, y) => .inr y
    | .inr (false, y) => runWire f s y
def muWire (s : List UInt8) (x : St) : Nat := x.row * (s.length + 1) + (s.length - x.at_)
/-- All of it from here. -/
def allWire (s : List UInt8) (x : St) : Sum Int St := runWire (muWire s x + 1) s x
def endWire : Sum Int St → List UInt8 × Int × Int
  | .inl e => ([], 0, e)
  | .inr y => (join y.labs, y.en, 0)
def getL (s : List UInt8) (at_ : Nat) : List UInt8 × Int × Int := endWire (allWire s ⟨at_, at_, 0, []⟩)

theorem wstep_mu {s : List UInt8} {x y : St} (h : stepWire s x = .inr (false, y)) : muWire s y < muWire s x := by
  unfold stepWire at h
  split at h
  · cases h
  · rename_i c0 hc
    have hat : x.at_ < s.length := (List.getElem?_eq_some_iff.1 hc).1
    simp only at h
    split at h
    · simp at h
    · split at h
      · rename_i h0 h8
        split at h
        · cases h
        · split at h
          · simp only [Sum.inr.injEq, Prod.mk.injEq, true_and] at h
            subst h
            simp only [muWire]
            omega
          · cases h
      · split at h
        · split at h
          · cases h
          · split at h
            · cases h
            · rename_i hp
              simp only [Sum.inr.injEq, Prod.mk.injEq, true_and] at h
              subst h
              simp only [muWire]
              generalize (c0.toNat - 192) * 256 + _ = p at hp ⊢
              have h1 : p + 1 ≤ x.row := by omega
              have h2 : (p + 1) * (s.length + 1) ≤ x.row * (s.length + 1) := Nat.mul_le_mul_right _ h1
              rw [Nat.add_mul, Nat.one_mul] at h2
              omega
        · cases h

theorem run_fuel (s : List UInt8) : ∀ (f g : Nat) (x : St), muWire s x < f → muWire s x < g → runWire f s x = runWire g s x
  | 0, _, _, h, _ => by omega
  | _, 0, _, _, h => by omega
  | f + 1, g + 1, x, hf, hg => by
    unfold runWire
    split
    · rfl
    · rfl
    · rename_i y hy
      have := wstep_mu hy
      exact run_fuel s f g y (by omega) (by omega)

theorem allWire_step (s : List UInt8) (x : St) : allWire s x = match stepWire s x with
    | .inl e => .inl e
    | .inr (true, y) => .inr y
    | .inr (false, y) => allWire s y := by
  unfold allWire
  rw [runWire]
  split
  · rfl
  · rfl
  · rename_i y hy
    exact run_fuel s _ _ y (wstep_mu hy) (by omega)
theorem allWire_err {s : List UInt8} {x : St} {e : Int} (h : stepWire s x = .inl e) : allWire s x = .inl e := by rw [allWire_step, h]
theorem allWire_end {s : List UInt8} {x y : St} (h : stepWire s x = .inr (true, y)) : allWire s x = .inr y := by rw [allWire_step, h]
theorem allWire_on {s : List UInt8} {x y : St} (h : stepWire s x = .inr (false, y)) : allWire s x = allWire s y := by rw [allWire_step, h]

/-! ### what a step is, case by case -/
theorem wstep_past {s : List UInt8} {x : St} (h : s.length ≤ x.at_) : stepWire s x = .inl 301 := by
  unfold stepWire; rw [List.getElem?_eq_none h]
theorem wstep_zero {s : List UInt8} {x : St} {c : UInt8} (hc : s[x.at_]? = some c) (h : c.toNat = 0) : stepWire s x = .inr (true, { x with en := goOn x.en (x.at_ + 1) }) := by
  unfold stepWire; simp only [hc, h, if_true]
theorem wstep_short {s : List UInt8} {x : St} {c : UInt8} (hc : s[x.at_]? = some c) (h0 : c.toNat ≠ 0) (h8 : c.toNat ≤ 8) (h : s.length < x.at_ + 1 + c.toNat) : stepWire s x = .inl 301 := by
  unfold stepWire; simp only [hc]; rw [if_neg h0, if_pos h8, if_pos h]
theorem wstep_label {s : List UInt8} {x : St} {c : UInt8} (hc : s[x.at_]? = some c) (h0 : c.toNat ≠ 0) (h8 : c.toNat ≤ 8) (h : x.at_ + 1 + c.toNat ≤ s.length) (hok : okL (foldL ((s.drop (x.at_ + 1)).take c.toNat)) = true) (hl : x.labs.length ≠ 8) :
    stepWire s x = .inr (false, { x with at_ := x.at_ + 1 + c.toNat, labs := x.labs ++ [foldL ((s.drop (x.at_ + 1)).take c.toNat)] }) := by
  unfold stepWire; simp only [hc]; rw [if_neg h0, if_pos h8, if_neg (by omega), if_pos ⟨hok, hl⟩]
theorem wstep_form {s : List UInt8} {x : St} {c : UInt8} (hc : s[x.at_]? = some c) (h0 : c.toNat ≠ 0) (h8 : c.toNat ≤ 8) (h : x.at_ + 1 + c.toNat ≤ s.length) (hno : okL (foldL ((s.drop (x.at_ + 1)).take c.toNat)) = false ∨ x.labs.length = 8) : stepWire s x = .inl 300 := by
  unfold stepWire; simp only [hc]; rw [if_neg h0, if_pos h8, if_neg (by omega), if_neg]
  rintro ⟨h1, h2⟩
  rcases hno with h | h
  · rw [h] at h1; cases h1
  · exact h2 h
theorem wstep_half {s : List UInt8} {x : St} {c : UInt8} (hc : s[x.at_]? = some c) (h : 192 ≤ c.toNat) (hl : s.length < x.at_ + 2) : stepWire s x = .inl 301 := by
  have hat : x.at_ < s.length := (List.getElem?_eq_some_iff.1 hc).1
  unfold stepWire; simp only [hc]; rw [if_neg (by omega), if_neg (by omega), if_pos h, List.getElem?_eq_none (by omega)]
theorem wstep_point {s : List UInt8} {x : St} {c d : UInt8} (hc : s[x.at_]? = some c) (hd : s[x.at_ + 1]? = some d) (h : 192 ≤ c.toNat) (hp : (c.toNat - 192) * 256 + d.toNat < x.row) :
    stepWire s x = .inr (false, { x with at_ := (c.toNat - 192) * 256 + d.toNat, row := (c.toNat - 192) * 256 + d.toNat, en := goOn x.en (x.at_ + 2) }) := by
  unfold stepWire; simp only [hc, hd]; rw [if_neg (by omega), if_neg (by omega), if_pos h, if_neg (by omega)]
theorem wstep_far {s : List UInt8} {x : St} {c d : UInt8} (hc : s[x.at_]? = some c) (hd : s[x.at_ + 1]? = some d) (h : 192 ≤ c.toNat) (hp : x.row ≤ (c.toNat - 192) * 256 + d.toNat) : stepWire s x = .inl 300 := by
  unfold stepWire; simp only [hc, hd]; rw [if_neg (by omega), if_neg (by omega), if_pos h, if_pos hp]
theorem wstep_none {s : List UInt8} {x : St} {c : UInt8} (hc : s[x.at_]? = some c) (h8 : 8 < c.toNat) (h : c.toNat < 192) : stepWire s x = .inl 300 := by
  unfold stepWire; simp only [hc]; rw [if_neg (by omega), if_neg (by omega), if_neg (by omega)]

/-! ### a block just made -/
theorem new_cell (w : World) (cs : Array Value) (t : TypeId) (j : Nat) (v : Value) (h : cs[j]? = some v) : (w.alloc (.cells cs t)).cell? ⟨w.heap.size, j, none⟩ = some v := by
  have hh : (w.alloc (.cells cs t)).heap[w.heap.size]? = some (.cells cs t) := heap_alloc_new w _
  simp only [World.cell?, hh]
  exact h
theorem new_frozen (w : World) (cs : Array Value) (t : TypeId) (j : Nat) : (w.alloc (.cells cs t)).frozen? ⟨w.heap.size, j, none⟩ = false := by
  have hh : (w.alloc (.cells cs t)).heap[w.heap.size]? = some (.cells cs t) := heap_alloc_new w _
  simp only [World.frozen?, hh]
  simp

end Go.Pin
