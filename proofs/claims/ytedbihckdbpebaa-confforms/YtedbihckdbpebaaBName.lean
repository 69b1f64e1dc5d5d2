/-
  Several texts in one.
-/
import Derived.WalkKit
import Derived.ProofKit
import Derived.Test.YtedbihckdbpebaaRows
import Derived.WalkSpells
import Derived.PlainAid
import Derived.Handy
import Derived.Lib.Strings
import Derived.Lib.Bytealg
import Derived.Laws.IdiomStrings
/-
  Plain lemmas that speak of no program: bytes of numbers, string(b) of a slice of bytes, and, or, masks on int.
-/
namespace Go.Pin
open Go.RowKit

/-- The bytes of numbers. -/
def str (ns : List Int) : ByteArray := ⟨(ns.map fun n => UInt8.ofNat n.toNat).toArray⟩
def byteAt (x : Int) (i : Nat) : Int := x / 2 ^ (8 * i) % 256
/-- The first j of the k bytes of x, the highest first. -/
def top (x : Int) (k j : Nat) : List Int := (List.range j).map fun m => byteAt x (k - 1 - m)
def be (x : Int) (k : Nat) : ByteArray := str (top x k k)

theorem foldl_push (ns : List Int) : ∀ s : ByteArray, ns.foldl (fun r n => r.push (UInt8.ofNat n.toNat)) s = ⟨s.data ++ (ns.map fun n => UInt8.ofNat n.toNat).toArray⟩ := by
  induction ns with
  | nil => intro s; simp
  | cons n ns ih =>
    intro s
    rw [List.foldl_cons, ih]
    simp [ByteArray.push]

theorem str_foldl (ns : List Int) : ns.foldl (fun r n => r.push (UInt8.ofNat n.toNat)) ByteArray.empty = str ns := by
  rw [foldl_push]
  simp [str, ByteArray.empty, ByteArray.emptyWithCapacity]
  rfl

theorem addr_add (b off j : Nat) : (⟨b, off, none⟩ : Addr).add j = ⟨b, off + j, none⟩ := by unfold Addr.add; split <;> simp_all

section
variable {P : Program}
/-- string(b) of a slice whose cells are known. -/
theorem conv_cells (w : World) (src dst e : TypeId) (a : Addr) (cap : Nat) (ns : List Int) (hs : P.underlying src = some (.slice e)) (he : P.underlying e = some (.int .u8)) (hd : P.underlying dst = some .string)
    (hc : ∀ j v, (ns.map (Value.int .u8))[j]? = some v → w.cell? (a.add j) = some v) :
    (convert src dst (.slice (some a) ns.length cap)).run P w = .ok (.string (str ns)) w := by
  rw [run_convert_bytes_string w src dst e (some a) ns.length cap hs he hd]
  have hl := run_loadCells_list (P := P) w a (ns.map (Value.int .u8)) hc
  rw [List.length_map] at hl
  rw [run_bytesToString w a ns.length cap ns hl, str_foldl]

theorem conv_nil (w : World) (src dst e : TypeId) (l c : Nat) (hs : P.underlying src = some (.slice e)) (he : P.underlying e = some (.int .u8)) (hd : P.underlying dst = some .string) :
    (convert src dst (.slice none l c)).run P w = .ok (.string (str [])) w := by
  rw [run_convert_bytes_string w src dst e none l c hs he hd]
  simp [Conv.bytesToString, str, ByteArray.empty, ByteArray.emptyWithCapacity]
  rfl

/-- string(b) of a slice of bytes that the call itself made. -/
theorem conv_owned {w : World} {base : Nat} {e : TypeId} {v : Value} {n : Nat} {ns : List Int} (src dst : TypeId) (hs : P.underlying src = some (.slice e)) (he : P.underlying e = some (.int .u8)) (hd : P.underlying dst = some .string)
    (h : w.ownsRow base e 1 v n (ns.map (Value.int .u8))) : (convert src dst v).run P w = .ok (.string (str ns)) w := by
  obtain ⟨hlen, h⟩ := h
  simp only [List.length_map] at hlen
  rcases h with ⟨rfl, rfl⟩ | ⟨g, cap, cur, rfl, hb, hh, hn, hm, hz, ht⟩
  · have : ns = [] := by cases ns <;> simp_all
    subst this
    exact conv_nil w src dst e 0 0 hs he hd
  · have e1 : n = ns.length := by omega
    subst e1
    refine conv_cells w src dst e _ cap ns hs he hd ?_
    intro j u hj
    have hjl : j < ns.length := by
      have := (List.getElem?_eq_some_iff.1 hj).1
      simpa using this
    rw [← ht] at hj
    rw [List.getElem?_take] at hj
    rw [if_pos (by omega)] at hj
    rw [addr_add]
    simp only [World.cell?, hh]
    simpa using hj

/-- string(b) of a block just made. -/
theorem conv_new (w : World) (src dst e t : TypeId) (cap : Nat) (ns : List Int) (n : Nat) (cs : Array Value) (hn : n = ns.length) (hcs : cs = (ns.map (Value.int .u8)).toArray) (hs : P.underlying src = some (.slice e)) (he : P.underlying e = some (.int .u8)) (hd : P.underlying dst = some .string) :
    (convert src dst (.slice (some ⟨w.heap.size, 0, none⟩) n cap)).run P (w.alloc (.cells cs t)) = .ok (.string (str ns)) (w.alloc (.cells cs t)) := by
  subst hn hcs
  refine conv_cells _ src dst e _ cap ns hs he hd ?_
  intro j u hj
  have hh : (w.alloc (.cells (ns.map (Value.int .u8)).toArray t)).heap[w.heap.size]? = some (.cells (ns.map (Value.int .u8)).toArray t) := heap_alloc_new w _
  rw [addr_add]
  simp only [World.cell?, hh]
  simpa using hj
end

/-- What is below stays below, call behind call. -/
theorem bel_trans {a b c : World} (h1 : Below a.heap.size a b) (h2 : Below b.heap.size b c) : Below a.heap.size a c := h1.trans (h2.mono h1.size)

theorem size_str (ns : List Int) : (str ns).size = ns.length := by simp [str, ByteArray.size]
theorem size_be (x : Int) (k : Nat) : (be x k).size = k := by simp [be, size_str, top]

/-! ### bits -/
theorem i64_or_nat (a b : Nat) (ha : a < 9223372036854775808) (hb : b < 9223372036854775808) : bits .or .i64 (a : Int) (b : Int) = ((a ||| b : Nat) : Int) := by
  have h1 : (BitVec.ofInt 64 (a : Int)).toNat = a := ofInt_u64 a (by omega)
  have h2 : (BitVec.ofInt 64 (b : Int)).toNat = b := ofInt_u64 b (by omega)
  have h3 : a ||| b < 2 ^ 63 := Nat.or_lt_two_pow (by omega) (by omega)
  show IntKind.i64.wrap ((BitVec.ofInt 64 (a : Int) ||| BitVec.ofInt 64 (b : Int)).toNat : Int) = _
  rw [BitVec.toNat_or, h1, h2, IntKind.wrap_i64]
  omega
theorem i64_and_nat (a b : Nat) (ha : a < 9223372036854775808) (hb : b < 9223372036854775808) : bits .and .i64 (a : Int) (b : Int) = ((a &&& b : Nat) : Int) := by
  have h1 : (BitVec.ofInt 64 (a : Int)).toNat = a := ofInt_u64 a (by omega)
  have h2 : (BitVec.ofInt 64 (b : Int)).toNat = b := ofInt_u64 b (by omega)
  have h3 : a &&& b ≤ a := Nat.and_le_left
  show IntKind.i64.wrap ((BitVec.ofInt 64 (a : Int) &&& BitVec.ofInt 64 (b : Int)).toNat : Int) = _
  rw [BitVec.toNat_and, h1, h2, IntKind.wrap_i64]
  omega
/-- x & (2^k - 1), x of either sign. -/
theorem i64_mask (k : Nat) (x : Int) (hk : k ≤ 62) : bits .and .i64 x (2 ^ k - 1) = x % 2 ^ k := by
  have h2 : (BitVec.ofInt 64 ((2 : Int) ^ k - 1)).toNat = 2 ^ k - 1 := by
    have hp : 2 ^ k ≤ 2 ^ 62 := Nat.pow_le_pow_right (by decide) hk
    have hp0 : 0 < 2 ^ k := Nat.two_pow_pos _
    have e : ((2 : Int) ^ k - 1) = ((2 ^ k - 1 : Nat) : Int) := by
      rw [Int.natCast_sub (by omega)]; simp
    rw [e]; exact ofInt_u64 _ (by omega)
  have hp : (2 : Nat) ^ k ≤ 2 ^ 62 := Nat.pow_le_pow_right (by decide) hk
  have hp0 : 0 < 2 ^ k := Nat.two_pow_pos k
  show IntKind.i64.wrap ((BitVec.ofInt 64 x &&& BitVec.ofInt 64 ((2 : Int) ^ k - 1)).toNat : Int) = _
  rw [BitVec.toNat_and, h2, Nat.and_two_pow_sub_one_eq_mod, BitVec.toNat_ofInt, IntKind.wrap_i64]
  have e1 : ((x % (2 ^ 64 : Nat)).toNat % 2 ^ k : Nat) = ((x % 2 ^ k).toNat : Nat) := by
    have e2 : (((x % ((2 ^ 64 : Nat) : Int)).toNat % 2 ^ k : Nat) : Int) = x % 2 ^ k := by
      rw [Int.natCast_emod, Int.toNat_of_nonneg (Int.emod_nonneg _ (by decide))]
      have : (((2 ^ k : Nat) : Int)) = (2 : Int) ^ k := by simp
      rw [this]
      rw [Int.emod_emod_of_dvd]
      have : ((2 ^ 64 : Nat) : Int) = 2 ^ k * 2 ^ (64 - k) := by rw [← Int.pow_add, show k + (64 - k) = 64 by omega]; rfl
      rw [this]; exact Int.dvd_mul_right _ _
    omega
  rw [e1]
  have h4 : 0 ≤ x % 2 ^ k := Int.emod_nonneg _ (by have := Int.pow_pos (n := 2) (m := k) (by decide); omega)
  have h5 : x % 2 ^ k < 2 ^ k := Int.emod_lt_of_pos _ (Int.pow_pos (by decide))
  have h6 : (2 : Int) ^ k ≤ 2 ^ 62 := by exact_mod_cast hp
  omega

/-- int(uint(a) % uint(n)), n above 0: a place below n. -/
theorem pick_mod (a n : Int) (h : 0 < n) (hn : n ≤ 4611686018427387904) : ∃ I : Nat, wrap64 ((IntKind.u64.wrap a).tmod n) = (I : Int) ∧ (I : Int) < n := by
  rw [IntKind.wrap_u64, tmod_of_emod]
  have h1 := Int.emod_nonneg (a % 18446744073709551616) (b := n) (by omega)
  have h2 := Int.emod_lt_of_pos (a % 18446744073709551616) h
  refine ⟨(a % 18446744073709551616 % n).toNat, ?_, by omega⟩
  unfold wrap64; omega

/-- x << 8 | b. -/
theorem or_byte (n b : Int) (h0 : 0 ≤ n) (h1 : n < 1099511627776) (h2 : 0 ≤ b) (h3 : b ≤ 255) : bits .or .i64 (wrap64 (n * 256)) (wrap64 b) = n * 256 + b := by
  have e1 : wrap64 (n * 256) = n * 256 := by unfold wrap64; omega
  have e2 : wrap64 b = b := by unfold wrap64; omega
  rw [e1, e2]
  obtain ⟨m, rfl⟩ := Int.eq_ofNat_of_zero_le h0
  obtain ⟨c, rfl⟩ := Int.eq_ofNat_of_zero_le h2
  have := i64_or_nat (m * 256) c (by omega) (by omega)
  have h := nat_join 8 (m * 256) c (by omega) (by omega)
  rw [h] at this
  simpa using this
end Go.Pin

/-
  The contract of the laws' Num: it answers the number it is given.
-/
namespace Go.Proofs.Ytedbihckdbpebaa
open Go.ChangeShapes Go.WideShapes Go.ChangeAt Go.RowKit Go.Pin Go.PlainAid

theorem num_any (n : Int) (w : World) : Calls Try.prog 19 #[.int .i64 n] w fun e w' => e = .returned (.int .i64 n) ∧ w' = w := by
  go_enter Try.func19, Try.ntmps19
  go_wp2
  go_ret
  exact ⟨rfl, rfl⟩
end Go.Proofs.Ytedbihckdbpebaa

/-
  Plain lemmas that speak of no program: texts cut at their points, joined again; which of them are names; which name is under which.
-/
namespace Go.Pin
open Go.PlainAid

/-- May a byte stand in a label? -/
def okByte (x : Int) : Bool := decide (97 ≤ x ∧ x ≤ 122) || decide (48 ≤ x ∧ x ≤ 57) || decide (x = 45)
def bs (s : ByteArray) : List UInt8 := s.data.toList
def mk (l : List UInt8) : ByteArray := ⟨l.toArray⟩
theorem bs_mk (l : List UInt8) : bs (mk l) = l := rfl
theorem mk_bs (s : ByteArray) : mk (bs s) = s := by simp [mk, bs]
theorem mk_inj {a b : List UInt8} (h : mk a = mk b) : a = b := by have := congrArg bs h; simpa [bs_mk] using this
theorem size_mk (l : List UInt8) : (mk l).size = l.length := by simp [mk, ByteArray.size]
theorem length_bs (s : ByteArray) : (bs s).length = s.size := Array.length_toList
theorem bs_inj {a b : ByteArray} (h : bs a = bs b) : a = b := by rw [← mk_bs a, h, mk_bs]

def okC (c : UInt8) : Bool := okByte c.toNat
def okL (l : List UInt8) : Bool := decide (1 ≤ l.length) && decide (l.length ≤ 8) && l.all okC

/-- A text, cut at its points. -/
def split : List UInt8 → List (List UInt8)
  | [] => [[]]
  | c :: l => if c = 46 then [] :: split l else
    match split l with
    | [] => [[c]]
    | p :: ps => (c :: p) :: ps
/-- Joined with points. -/
def join : List (List UInt8) → List UInt8
  | [] => []
  | [x] => x
  | x :: y :: r => x ++ 46 :: join (y :: r)

theorem split_ne (l : List UInt8) : split l ≠ [] := by
  cases l with
  | nil => simp [split]
  | cons c l => unfold split; split <;> (try split) <;> simp

theorem split_dot (l : List UInt8) : split (46 :: l) = [] :: split l := by simp [split]
theorem split_cons (c : UInt8) (l : List UInt8) (h : c ≠ 46) : ∃ p ps, split l = p :: ps ∧ split (c :: l) = (c :: p) :: ps := by
  cases hs : split l with
  | nil => exact absurd hs (split_ne l)
  | cons p ps => exact ⟨p, ps, rfl, by simp [split, h, hs]⟩

theorem split_append (a b : List UInt8) : split (a ++ 46 :: b) = split a ++ split b := by
  induction a with
  | nil => simp [split]
  | cons c a ih =>
    by_cases h : c = 46
    · subst h; simp [split_dot, ih]
    · obtain ⟨p, ps, h1, h2⟩ := split_cons c a h
      obtain ⟨q, qs, h3, h4⟩ := split_cons c (a ++ 46 :: b) h
      rw [List.cons_append, h4, h2]
      rw [ih, h1] at h3
      simp only [List.cons_append, List.cons.injEq] at h3
      obtain ⟨rfl, rfl⟩ := h3
      simp

theorem split_nodot (a : List UInt8) (h : (46 : UInt8) ∉ a) : split a = [a] := by
  induction a with
  | nil => simp [split]
  | cons c a ih =>
    simp only [List.mem_cons, not_or] at h
    obtain ⟨p, ps, h1, h2⟩ := split_cons c a (fun e => h.1 e.symm)
    rw [ih h.2] at h1
    simp only [List.cons.injEq] at h1
    obtain ⟨rfl, rfl⟩ := h1
    exact h2

theorem mem_split (l x : List UInt8) (h : x ∈ split l) : (46 : UInt8) ∉ x := by
  induction l generalizing x with
  | nil => simp [split] at h; subst h; simp
  | cons c l ih =>
    by_cases hc : c = 46
    · subst hc
      rw [split_dot] at h
      rcases List.mem_cons.1 h with rfl | h
      · simp
      · exact ih x h
    · obtain ⟨p, ps, h1, h2⟩ := split_cons c l hc
      rw [h2] at h
      rcases List.mem_cons.1 h with rfl | h
      · have := ih p (by rw [h1]; simp)
        simp only [List.mem_cons, not_or]
        exact ⟨fun e => hc e.symm, this⟩
      · exact ih x (by rw [h1]; exact List.mem_cons_of_mem _ h)

theorem join_cons (x : List UInt8) (r : List (List UInt8)) (h : r ≠ []) : join (x :: r) = x ++ 46 :: join r := by
  cases r with
  | nil => exact absurd rfl h
  | cons y r => rfl

theorem join_append (a b : List (List UInt8)) (ha : a ≠ []) (hb : b ≠ []) : join (a ++ b) = join a ++ 46 :: join b := by
  induction a with
  | nil => exact absurd rfl ha
  | cons x a ih =>
    by_cases h : a = []
    · subst h; simp [join_cons x b hb, join]
    · rw [List.cons_append, join_cons x (a ++ b) (by simp [h]), ih h, join_cons x a h]; simp

theorem join_split (l : List UInt8) : join (split l) = l := by
  induction l with
  | nil => rfl
  | cons c l ih =>
    by_cases hc : c = 46
    · subst hc; rw [split_dot, join_cons _ _ (split_ne l), ih]; rfl
    · obtain ⟨p, ps, h1, h2⟩ := split_cons c l hc
      rw [h2]
      rw [h1] at ih
      cases ps with
      | nil => simp only [join] at ih ⊢; rw [ih]
      | cons y r => rw [join_cons _ _ (by simp)] at ih ⊢; rw [← ih]; rfl

theorem split_join (ls : List (List UInt8)) (h : ls ≠ []) (hd : ∀ x ∈ ls, (46 : UInt8) ∉ x) : split (join ls) = ls := by
  induction ls with
  | nil => exact absurd rfl h
  | cons x r ih =>
    by_cases hr : r = []
    · subst hr; exact split_nodot x (hd x (by simp))
    · rw [join_cons x r hr, split_append, split_nodot x (hd x (by simp)), ih hr (fun y hy => hd y (List.mem_cons_of_mem _ hy))]; rfl

/-- May a text be a name? -/
def mayL (l : List UInt8) : Bool := decide (l = []) || (decide ((split l).length ≤ 8) && (split l).all okL)
def labsL (l : List UInt8) : List (List UInt8) := if l = [] then [] else if mayL l = true then split l else []
def underL (s z : List UInt8) : Bool := mayL s && (mayL z && decide (labsL z <:+ labsL s))

theorem okL_ne {l : List UInt8} (h : okL l = true) : l ≠ [] := by intro e; subst e; simp [okL] at h
theorem okL_nodot {l : List UInt8} (h : okL l = true) : (46 : UInt8) ∉ l := by
  intro hm
  simp only [okL, Bool.and_eq_true, List.all_eq_true] at h
  have := h.2 46 hm
  revert this; decide
theorem mayL_nil : mayL [] = true := rfl
theorem labsL_nil : labsL [] = [] := rfl
theorem labsL_no {l : List UInt8} (h : mayL l = false) : labsL l = [] := by simp [labsL, h]
theorem labsL_yes {l : List UInt8} (h : mayL l = true) (hl : l ≠ []) : labsL l = split l := by simp [labsL, h, hl]
theorem labsL_len (l : List UInt8) : (labsL l).length ≤ 8 := by
  unfold labsL; split
  · simp
  · split
    · rename_i h h2; simp only [mayL, Bool.or_eq_true, decide_eq_true_eq, Bool.and_eq_true] at h2
      rcases h2 with h2 | h2
      · exact absurd h2 h
      · exact h2.1
    · simp
theorem labsL_ok {l x : List UInt8} (h : x ∈ labsL l) : okL x = true := by
  unfold labsL at h; split at h
  · simp at h
  · split at h
    · rename_i h1 h2; simp only [mayL, Bool.or_eq_true, decide_eq_true_eq, Bool.and_eq_true, List.all_eq_true] at h2
      rcases h2 with h2 | h2
      · exact absurd h2 h1
      · exact h2.2 x h
    · simp at h
theorem labsL_ne {l : List UInt8} (h : mayL l = true) (hl : l ≠ []) : labsL l ≠ [] := by rw [labsL_yes h hl]; exact split_ne l
/-- A name is its labels, joined. -/
theorem join_labs {l : List UInt8} (h : mayL l = true) : join (labsL l) = l := by
  by_cases hl : l = []
  · subst hl; rfl
  · rw [labsL_yes h hl, join_split]
theorem labs_inj {a b : List UInt8} (ha : mayL a = true) (hb : mayL b = true) (h : labsL a = labsL b) : a = b := by rw [← join_labs ha, h, join_labs hb]

theorem join_ne {ls : List (List UInt8)} (h : ls ≠ []) (ho : ∀ x ∈ ls, okL x = true) : join ls ≠ [] := by
  cases ls with
  | nil => exact absurd rfl h
  | cons x r =>
    have hx := okL_ne (ho x (by simp))
    by_cases hr : r = []
    · subst hr; exact hx
    · rw [join_cons x r hr]; simp
/-- Labels that may be, joined, are a name of just these. -/
theorem may_join {ls : List (List UInt8)} (hl : ls.length ≤ 8) (ho : ∀ x ∈ ls, okL x = true) : mayL (join ls) = true ∧ labsL (join ls) = ls := by
  by_cases h : ls = []
  · subst h; exact ⟨rfl, rfl⟩
  · have hs := split_join ls h (fun x hx => okL_nodot (ho x hx))
    have hm : mayL (join ls) = true := by
      simp only [mayL, hs, Bool.or_eq_true, Bool.and_eq_true, decide_eq_true_eq, List.all_eq_true]
      exact .inr ⟨hl, ho⟩
    exact ⟨hm, by rw [labsL_yes hm (join_ne h ho), hs]⟩

theorem suffix_ok {a b : List (List UInt8)} (h : a <:+ b) (ho : ∀ x ∈ b, okL x = true) : ∀ x ∈ a, okL x = true := fun x hx => ho x (h.subset hx)

/-- Under, by the letters: what the reference asks. -/
theorem under_letters {s z : List UInt8} (hs : mayL s = true) (hz : mayL z = true) (hz0 : z ≠ []) (hne : s ≠ z) :
    (labsL z <:+ labsL s) ↔ (∃ a, 1 ≤ a.length ∧ s = a ++ 46 :: z) := by
  constructor
  · rintro ⟨pre, hp⟩
    have hzl := labsL_ne hz hz0
    have hpre : pre ≠ [] := by
      intro e; subst e
      simp only [List.nil_append] at hp
      exact hne (labs_inj hs hz hp.symm)
    refine ⟨join pre, ?_, ?_⟩
    · have := join_ne hpre (fun x hx => labsL_ok (l := s) (by rw [← hp]; simp [hx]))
      cases h : join pre with
      | nil => exact absurd h this
      | cons => simp
    · rw [← join_labs hs, ← hp, join_append _ _ hpre hzl, join_labs hz]
  · rintro ⟨a, _, rfl⟩
    rw [labsL_yes hz hz0, labsL_yes hs (by simp), split_append]
    exact ⟨_, rfl⟩

theorem under_self {a : List UInt8} (h : mayL a = true) : underL a a = true := by simp [underL, h]
theorem under_root {a : List UInt8} (h : mayL a = true) : underL a [] = true := by simp [underL, h, mayL_nil, labsL_nil]
theorem under_trans {a b c : List UInt8} (h1 : underL a b = true) (h2 : underL b c = true) : underL a c = true := by
  simp only [underL, Bool.and_eq_true, decide_eq_true_eq] at *
  exact ⟨h1.1, h2.2.1, h2.2.2.trans h1.2.2⟩
theorem under_may {a b : List UInt8} (h : underL a b = true) : mayL a = true ∧ mayL b = true := by
  simp only [underL, Bool.and_eq_true, decide_eq_true_eq] at h
  exact ⟨h.1, h.2.1⟩
theorem under_two {s a b : List UInt8} (h1 : underL s a = true) (h2 : underL s b = true) : underL a b = true ∨ underL b a = true := by
  simp only [underL, Bool.and_eq_true, decide_eq_true_eq] at *
  rcases Nat.le_total (labsL a).length (labsL b).length with h | h
  · exact .inr ⟨h2.2.1, h1.2.1, List.suffix_of_suffix_length_le h1.2.2 h2.2.2 h⟩
  · exact .inl ⟨h1.2.1, h2.2.1, List.suffix_of_suffix_length_le h2.2.2 h1.2.2 h⟩
theorem under_both {a b : List UInt8} (h1 : underL a b = true) (h2 : underL b a = true) : a = b := by
  simp only [underL, Bool.and_eq_true, decide_eq_true_eq] at *
  exact labs_inj h1.1 h2.1 (List.IsSuffix.eq_of_length_le h2.2.2 h1.2.2.length_le)
/-- The parents of a name. -/
theorem under_parent {a : List UInt8} (h : mayL a = true) (i : Nat) : underL a (join ((labsL a).drop i)) = true := by
  have ho : ∀ x ∈ (labsL a).drop i, okL x = true := suffix_ok (List.drop_suffix i _) (fun x hx => labsL_ok hx)
  have hm := may_join (ls := (labsL a).drop i) (by have := labsL_len a; simp; omega) ho
  simp only [underL, h, hm.1, hm.2, Bool.true_and, decide_eq_true_eq]
  exact List.drop_suffix i _

/-! ### folding -/
def foldByte (x : Int) : Int := if 65 ≤ x ∧ x ≤ 90 then x + 32 else x
def foldC (c : UInt8) : UInt8 := if 65 ≤ c.toNat ∧ c.toNat ≤ 90 then UInt8.ofNat (c.toNat + 32) else c
def foldL (l : List UInt8) : List UInt8 := l.map foldC
theorem foldC_twice (c : UInt8) : foldC (foldC c) = foldC c := by
  have hc := c.toNat_lt
  have h2 : (UInt8.ofNat (c.toNat + 32)).toNat = (c.toNat + 32) % 256 := by simp
  unfold foldC
  split
  · rw [if_neg (by rw [h2]; omega)]
  · rfl
theorem foldL_twice (l : List UInt8) : foldL (foldL l) = foldL l := by simp [foldL, foldC_twice]
theorem foldC_okC (c : UInt8) (h : okC c = true) : foldC c = c := by
  unfold foldC
  rw [if_neg]
  intro hh
  simp [okC, okByte] at h
  omega
theorem fold_may {l : List UInt8} (h : mayL l = true) : foldL l = l := by
  have key : ∀ ls : List (List UInt8), (∀ x ∈ ls, okL x = true) → foldL (join ls) = join ls := by
    intro ls ho
    have hx : ∀ x : List UInt8, okL x = true → foldL x = x := by
      intro x hx
      simp only [okL, Bool.and_eq_true, List.all_eq_true] at hx
      unfold foldL
      have : x.map foldC = x.map id := List.map_congr_left fun c hc => foldC_okC c (hx.2 c hc)
      simpa using this
    induction ls with
    | nil => rfl
    | cons x r ih =>
      by_cases hr : r = []
      · subst hr; exact hx x (ho x (by simp))
      · rw [join_cons x r hr]
        have h1 := hx x (ho x (by simp))
        have h2 := ih (fun y hy => ho y (List.mem_cons_of_mem _ hy))
        unfold foldL at h1 h2 ⊢
        rw [List.map_append, List.map_cons, h1, h2]
        rfl
  have := key (labsL l) (fun x hx => labsL_ok hx)
  rwa [join_labs h] at this
end Go.Pin

/-
  Contracts of package name: what each call returns, for every text; and what it calls of package strings.
-/
namespace Go.Proofs.Ytedbihckdbpebaa
open Go.ChangeShapes Go.WideShapes Go.ChangeAt Go.RowKit Go.Pin Go.PlainAid

theorem ret_bool {a b : Bool} (h : a = b) : Ending.returned (Value.bool a) = .returned (.bool b) := by rw [h]

theorem isLabelByte_c (x : Int) (w : World) (h0 : 0 ≤ x) (h1 : x ≤ 255) : Calls Try.prog 82 #[.int .u8 x] w fun e w' => e = .returned (.bool (okByte x)) ∧ w' = w := by
  go_enter Try.func82, Try.ntmps82
  go_wp2
  all_goals
    go_ret
    refine ⟨ret_bool ?_, rfl⟩
    unfold okByte
    rw [Bool.eq_iff_iff]
    simp
    omega

theorem indexByte_hit (a b : List UInt8) (h : (46 : UInt8) ∉ a) : Lib.indexByte (a ++ 46 :: b) 46 = a.length := by
  induction a with
  | nil => simp [Lib.indexByte]
  | cons c a ih =>
    simp only [List.mem_cons, not_or] at h
    have hc : (c == 46) = false := by simp; exact fun e => h.1 e.symm
    have := ih h.2
    rw [List.cons_append, Lib.indexByte, hc, this]
    simp
theorem indexByte_miss (a : List UInt8) (h : (46 : UInt8) ∉ a) : Lib.indexByte a 46 = -1 := by
  induction a with
  | nil => simp [Lib.indexByte]
  | cons c a ih =>
    simp only [List.mem_cons, not_or] at h
    have hc : (c == 46) = false := by simp; exact fun e => h.1 e.symm
    rw [Lib.indexByte, hc, ih h.2]
    simp

theorem indexByte_c (s : ByteArray) (c : Int) (w : World) : Calls Try.prog 84 #[.string s, .int .u8 c] w fun e w' => e = .returned (.int .i64 (Lib.indexByte (bs s) c.toNat.toUInt8)) ∧ w' = w := by
  go_enter Try.func84, Try.ntmps84
  go_wp2
  rw [run_callFunc_extern Try.func88 (by kernel_rfl) (by kernel_rfl) (by kernel_rfl) (e := Extern.BytealgIndexByte.indexByte) (by kernel_rfl), Lib.run_indexByteString]
  simp only [Result.andThen]
  rw [Oper.upon_value]
  go_wp2
  go_ret
  exact ⟨rfl, rfl⟩

set_option maxRecDepth 100000 in
theorem index_c (s : ByteArray) (w : World) : Calls Try.prog 83 #[.string s, .string ⟨#[46]⟩] w fun e w' => e = .returned (.int .i64 (Lib.indexByte (bs s) 46)) ∧ w' = w := by
  by_cases hs : s = ⟨#[46]⟩
  · subst hs
    have h0 : Lib.indexByte (bs ⟨#[46]⟩) 46 = 0 := rfl
    rw [h0]
    clear h0
    go_enter Try.func83, Try.ntmps83
    go_wp2
    go_ret
    exact ⟨rfl, rfl⟩
  · have hb : ([46] == s.toList) = false := by
      rw [beq_eq_false_iff_ne]
      intro e
      apply hs
      rw [ByteArray.toList_eq] at e
      exact bs_inj (by rw [bs, ← e]; rfl)
    clear hs
    go_enter Try.func83, Try.ntmps83
    go_wp2_with fail
    refine (indexByte_c _ _ _).mono ?_; rintro e w' ⟨rfl, rfl⟩
    go_wp2
    go_ret
    exact ⟨rfl, rfl⟩

theorem slCut_miss (s : ByteArray) (w : World) (h : (46 : UInt8) ∉ bs s) : Calls Try.prog 81 #[.string s, .string ⟨#[46]⟩] w fun e w' => e = .returned (.tuple #[.string s, .string ⟨#[]⟩, .bool false]) ∧ w' = w := by
  have hi := indexByte_miss _ h
  have H : Hid (Lib.indexByte (bs s) 46 = -1) := hi
  clear hi h
  go_enter Try.func81, Try.ntmps81
  go_wp2_with fail
  refine (index_c _ _).mono ?_; rintro e w' ⟨rfl, rfl⟩
  rw [H.out]
  go_wp2
  go_ret3
  exact ⟨rfl, rfl⟩

theorem slCut_hit (s : ByteArray) (i : Nat) (w : World) (hi : Lib.indexByte (bs s) 46 = i) (hl : i + 1 ≤ s.size) (hs : s.size ≤ maxLen) : Calls Try.prog 81 #[.string s, .string ⟨#[46]⟩] w fun e w' => e = .returned (.tuple #[.string (s.extract 0 i), .string (s.extract (i + 1) s.size), .bool true]) ∧ Below w.heap.size w w' := by
  unfold maxLen at hs
  have H : Hid (Lib.indexByte (bs s) 46 = i) := hi
  clear hi
  have c1 : (i : Int) ≤ (s.size : Int) := by omega
  have c2 : (i : Int) + 1 ≤ (s.size : Int) := by omega
  go_enter Try.func81, Try.ntmps81
  go_wp2_with fail
  refine (index_c _ _).mono ?_; rintro e w' ⟨rfl, rfl⟩
  rw [H.out]
  go_wp2
  go_region
  go_wp2
  go_ret3
  exact ⟨rfl, (Below.refl _ _).drew⟩

theorem cut_miss (s : ByteArray) (w : World) (h : (46 : UInt8) ∉ bs s) : Calls Try.prog 76 #[.string s, .string ⟨#[46]⟩] w fun e w' => e = .returned (.tuple #[.string s, .string ⟨#[]⟩, .bool false]) ∧ w' = w := by
  go_enter Try.func76, Try.ntmps76
  go_wp2_with fail
  refine (slCut_miss _ _ h).mono ?_; rintro e w' ⟨rfl, rfl⟩
  go_wp2
  go_ret3
  exact ⟨rfl, rfl⟩

theorem extract_front (a b : List UInt8) (s : ByteArray) (h : bs s = a ++ 46 :: b) : s.extract 0 a.length = mk a ∧ s.extract (a.length + 1) s.size = mk b := by
  have h' : s.data.toList = a ++ 46 :: b := h
  have hz : s.size = a.length + 1 + b.length := by rw [← length_bs, h]; simp; omega
  rw [Lib.extract_eq, Lib.extract_eq, h', hz]
  refine ⟨congrArg mk ?_, congrArg mk ?_⟩
  · simp
  · rw [show a.length + 1 + b.length - (a.length + 1) = b.length by omega, ← List.drop_drop]
    simp

theorem cut_hit (s : ByteArray) (a b : List UInt8) (w : World) (hab : bs s = a ++ 46 :: b) (ha : (46 : UInt8) ∉ a) (hs : s.size ≤ maxLen) : Calls Try.prog 76 #[.string s, .string ⟨#[46]⟩] w fun e w' => e = .returned (.tuple #[.string (mk a), .string (mk b), .bool true]) ∧ Below w.heap.size w w' := by
  have hi : Lib.indexByte (bs s) 46 = a.length := by rw [hab]; exact indexByte_hit a b ha
  have hl : a.length + 1 ≤ s.size := by rw [← length_bs, hab]; simp
  have hx := extract_front a b s hab
  have H : Hid (s.extract 0 a.length = mk a ∧ s.extract (a.length + 1) s.size = mk b) := hx
  clear hx hab ha
  go_enter Try.func76, Try.ntmps76
  go_wp2_with fail
  refine (slCut_hit _ a.length _ hi hl hs).mono ?_; rintro e w' ⟨rfl, hb⟩
  rw [H.out.1, H.out.2]
  clear hi
  go_wp2
  go_ret3
  exact ⟨rfl, hb⟩


theorem empty_yes {s : ByteArray} (h : s.size = 0) : s.toList.isEmpty = true := by
  rw [ByteArray.toList_eq, List.isEmpty_iff_length_eq_zero]; exact (length_bs s).trans h
theorem empty_no {s : ByteArray} (h : s.size ≠ 0) : s.toList.isEmpty = false := by
  rw [ByteArray.toList_eq, List.isEmpty_eq_false_iff]; intro e; apply h; rw [← length_bs, bs, e]; rfl

theorem bt_bs (s : ByteArray) (i : Nat) (h : i < s.size) : ∃ c, (bs s)[i]? = some c ∧ bt s i = c.toNat := by
  refine ⟨s[i], ?_, by unfold bt; rw [dif_pos h]⟩
  unfold bs
  rw [List.getElem?_eq_getElem (by rw [Array.length_toList]; exact h)]
  simp
  rfl

theorem okL_size {s : ByteArray} (h : s.size = 0 ∨ 8 < s.size) : okL (bs s) = false := by
  simp only [okL, length_bs]
  rcases h with h | h
  · simp [h]
  · have : ¬ s.size ≤ 8 := by omega
    simp [this]
theorem okL_bytes {s : ByteArray} (h1 : s.size ≠ 0) (h2 : s.size ≤ 8) : okL (bs s) = true ↔ ∀ i, i < s.size → okByte (bt s i) = true := by
  have h3 : 1 ≤ s.size := by omega
  simp only [okL, length_bs, h2, h3, decide_true, Bool.true_and, List.all_eq_true]
  constructor
  · intro h i hi
    obtain ⟨c, hc, hb⟩ := bt_bs s i hi
    have := h c (List.mem_of_getElem? hc)
    rwa [okC, ← hb] at this
  · intro h c hc
    obtain ⟨i, hi, hic⟩ := List.getElem_of_mem hc
    have hi' : i < s.size := by rw [← length_bs]; exact hi
    obtain ⟨c', hc', hb⟩ := bt_bs s i hi'
    rw [List.getElem?_eq_getElem hi, hic] at hc'
    cases hc'
    have := h i hi'
    rwa [hb] at this

theorem isLabel_c (s : ByteArray) (w : World) : Calls Try.prog 77 #[.string s] w fun e w' => e = .returned (.bool (okL (bs s))) ∧ w' = w := by
  by_cases h : s.size = 0 ∨ 8 < s.size
  · rw [okL_size h]
    by_cases h0 : s.size = 0
    · have he := empty_yes h0
      clear h h0
      go_enter Try.func77, Try.ntmps77
      go_wp2
      go_ret
      exact ⟨rfl, rfl⟩
    · have he := empty_no h0
      have h8 : 8 < (s.size : Int) := by omega
      clear h h0
      go_enter Try.func77, Try.ntmps77
      go_wp2
      go_ret
      exact ⟨rfl, rfl⟩
  · have h0 : s.size ≠ 0 := by omega
    have h8 : s.size ≤ 8 := by omega
    have he := empty_no h0
    have hiff : Hid (okL (bs s) = true ↔ ∀ i, i < s.size → okByte (bt s i) = true) := okL_bytes h0 h8
    generalize hV : okL (bs s) = V at hiff ⊢
    clear hV h h0
    have hb := get_bt s
    go_enter Try.func77, Try.ntmps77
    go_wp2
    go_loop [13] (fun i => ∃ j : Nat, j ≤ s.size ∧ i = .int .i64 j ∧ Hid (∀ i, i < j → okByte (bt s i) = true)) (fun i => s.size - (intOf i).toNat)
    case atStart => exact ⟨0, Nat.zero_le _, rfl, fun i hi => by omega⟩
    case round =>
      obtain ⟨j, hj, rfl, hall⟩ := hrel
      by_cases hlt : j < s.size
      · cases hok : okByte (bt s j) with
        | true =>
          have H : Hid (okByte (bt s j) = true) := hok
          clear hok
          go_wp2_with fail
          refine (isLabelByte_c _ _ (bt_nonneg _ _) (bt_le _ _)).mono ?_; rintro e w' ⟨rfl, rfl⟩
          rw [H.out]
          go_wp2
          go_round
          case rel => exact ⟨j + 1, by omega, by go_num, fun i hi => by by_cases e : i = j; (subst e; exact H.out); exact hall.out i (by omega)⟩
          case measure => simp [intOf]; omega
        | false =>
          have H : Hid (okByte (bt s j) = false) := hok
          clear hok
          go_wp2_with fail
          refine (isLabelByte_c _ _ (bt_nonneg _ _) (bt_le _ _)).mono ?_; rintro e w' ⟨rfl, rfl⟩
          rw [H.out]
          go_wp2
          go_ret
          refine ⟨ret_bool ?_, rfl⟩
          cases V with
          | false => rfl
          | true => have := hiff.out.1 rfl j hlt; rw [H.out] at this; exact this
      · obtain rfl : j = s.size := by omega
        go_wp2
        go_ret
        refine ⟨ret_bool ?_, rfl⟩
        exact (hiff.out.2 hall.out).symm


theorem Try.infoStr : (Try.prog.info? 9).map (fun i => (i.zero, i.size, i.bytes)) = some (some (.string ByteArray.empty), 1, 16) := by kernel_rfl

/-- A list of texts that the call itself made. -/
def Texts (w : World) (base : Nat) (v : Value) (ls : List (List UInt8)) : Prop := w.ownsRow base 9 1 v ls.length (ls.map fun l => .string (mk l))

/-- What is left to be cut. -/
def rest (more : Bool) (l : List UInt8) : List (List UInt8) := if more then split l else []

theorem cut_step (l : List UInt8) : (∃ a b, l = a ++ 46 :: b ∧ (46 : UInt8) ∉ a) ∨ (46 : UInt8) ∉ l := by
  induction l with
  | nil => right; simp
  | cons c l ih =>
    by_cases hc : c = 46
    · subst hc; exact .inl ⟨[], l, rfl, by simp⟩
    · rcases ih with ⟨a, b, rfl, ha⟩ | h
      · exact .inl ⟨c :: a, b, rfl, by simp only [List.mem_cons, not_or]; exact ⟨fun e => hc e.symm, ha⟩⟩
      · exact .inr (by simp only [List.mem_cons, not_or]; exact ⟨fun e => hc e.symm, h⟩)

theorem not_may {done r : List (List UInt8)} {s x : List UInt8} (hs : s ≠ []) (h : split s = done ++ x :: r) (hx : done.length = 8 ∨ okL x = false) : mayL s = false := by
  cases hm : mayL s with
  | false => rfl
  | true =>
    simp only [mayL, hs, decide_false, Bool.false_or, Bool.and_eq_true, decide_eq_true_eq, List.all_eq_true, h] at hm
    rcases hx with hx | hx
    · have := hm.1; simp at this; omega
    · have := hm.2 x (by simp); rw [hx] at this; exact absurd this (by simp)

def strOf : Value → ByteArray | .string s => s | _ => ⟨#[]⟩
def boolOf : Value → Bool | .bool b => b | _ => false

theorem cut_empty (s : ByteArray) (w : World) (h : s.size = 0) : Calls Try.prog 64 #[.string s] w fun e w' => e = .returned (.tuple #[.slice none 0 0, .bool true]) ∧ w' = w := by
  have he := empty_yes h
  clear h
  go_enter Try.func64, Try.ntmps64
  go_wp2
  go_ret2
  exact ⟨rfl, rfl⟩


theorem Texts.form {w : World} {base : Nat} {v : Value} {ls : List (List UInt8)} (h : Texts w base v ls) : ∃ a cap, v = .slice a ls.length cap := by
  obtain ⟨_, h | ⟨g, cap, cur, hv, _⟩⟩ := h
  · exact ⟨none, 0, by rw [h.1, h.2]⟩
  · exact ⟨_, cap, hv⟩

theorem texts_snoc {w : World} {base : Nat} {v : Value} {ls : List (List UInt8)} {x : List UInt8} (h : w.ownsRow base 9 1 v (ls.length + 1) ((ls.map fun l => Value.string (mk l)) ++ [.string (mk x)])) : Texts w base v (ls ++ [x]) := by
  unfold Texts; simpa using h

/-- The loop's relation: what has been cut, what is left. -/
structure Cutting (L : List UInt8) (done : List (List UInt8)) (r : List UInt8) (more : Bool) : Prop where
  len : done.length ≤ 8
  eq : split L = done ++ rest more r
  ok : ∀ x ∈ done, okL x = true
  room : r.length ≤ L.length

theorem rest_hit (a b : List UInt8) (ha : (46 : UInt8) ∉ a) : rest true (a ++ 46 :: b) = a :: rest true b := by
  simp [rest, split_append, split_nodot a ha]
theorem rest_miss (a : List UInt8) (ha : (46 : UInt8) ∉ a) : rest true a = a :: rest false [] := by
  simp [rest, split_nodot a ha]


theorem Texts.below {w w' : World} {base : Nat} {v : Value} {ls : List (List UInt8)} (h : Texts w base v ls) (hb : Below w.heap.size w w') : Texts w' base v ls := by
  obtain ⟨h1, h2⟩ := h
  refine ⟨h1, ?_⟩
  rcases h2 with h2 | ⟨g, cap, cur, hv, hg, hh, r⟩
  · exact .inl h2
  · exact .inr ⟨g, cap, cur, hv, hg, (hb.block g (Array.getElem?_eq_some_iff.1 hh).1).trans hh, r⟩

theorem cut_any (r : List UInt8) (hs : r.length ≤ maxLen) : ∃ x b m, rest true r = x :: rest m b ∧ b.length ≤ r.length ∧ (m = true → b.length < r.length) ∧
    ∀ w, Calls Try.prog 76 #[.string (mk r), .string ⟨#[46]⟩] w fun e w' => e = .returned (.tuple #[.string (mk x), .string (mk b), .bool m]) ∧ Below w.heap.size w w' := by
  rcases cut_step r with ⟨x, b, rfl, hx⟩ | hx
  · exact ⟨x, b, true, rest_hit x b hx, by simp; omega, fun _ => by simp; omega, fun w => cut_hit _ x b w rfl hx (by rw [size_mk]; exact hs)⟩
  · exact ⟨r, [], false, rest_miss r hx, by simp, fun h => by simp at h, fun w => (cut_miss (mk r) w hx).mono fun e w' ⟨h1, h2⟩ => ⟨h1, by rw [h2]; exact Below.refl _ _⟩⟩

set_option maxHeartbeats 800000 in
theorem cut_c1 (L : List UInt8) (w : World) (hne : L ≠ []) (hs : L.length ≤ maxLen) : Calls Try.prog 64 #[.string (mk L)] w fun e w' => (∃ v, e = .returned (.tuple #[v, .bool (mayL L)]) ∧ Texts w' w.heap.size v (labsL L)) ∧ Below w.heap.size w w' := by
  have he : (mk L).toList.isEmpty = false := empty_no (by rw [size_mk]; intro e; exact hne (List.eq_nil_of_length_eq_zero e))
  obtain ⟨i0, hi, hz0, hz1, hz2⟩ := info_parts Try.infoStr
  have Hne : Hid (L ≠ []) := hne
  have Hs : Hid (L.length ≤ maxLen) := hs
  clear hne hs
  go_enter Try.func64, Try.ntmps64
  go_wp2
  go_loopw [0, 4, 5] (fun s0 v m wr => ∃ (done : List (List UInt8)) (r : List UInt8) (more : Bool), s0 = .string (mk r) ∧ m = .bool more ∧ Texts wr w.heap.size v done ∧ Below w.heap.size w wr ∧ Cutting L done r more) (fun s0 _ m _ => if boolOf m then (strOf s0).size + 1 else 0)
  case atStart => exact ⟨[], L, true, rfl, rfl, World.ownsRow_nil _ _ _ _, Below.refl _ _, ⟨by simp, by simp [rest], by simp, Nat.le_refl _⟩⟩
  case round =>
    clear he
    obtain ⟨done, r, more, rfl, rfl, hown, hnx, hcut⟩ := hrel
    have hsz := hnx.size
    cases more with
    | false =>
      go_wp2
      go_ret2
      have e1 : split L = done := by rw [hcut.eq]; simp [rest]
      have hm : mayL L = true := by
        simp only [mayL, Hne.out, decide_false, Bool.false_or, Bool.and_eq_true, decide_eq_true_eq, List.all_eq_true, e1]
        exact ⟨hcut.len, hcut.ok⟩
      rw [hm, labsL_yes hm Hne.out, e1]
      exact ⟨⟨_, rfl, hown⟩, hnx⟩
    | true =>
      obtain ⟨a, cap, rfl⟩ := hown.form
      obtain ⟨x, b, m, hx, hb, hm, hC⟩ := cut_any r (Nat.le_trans hcut.room Hs.out)
      have HC : Hid (∀ w, Calls Try.prog 76 #[.string (mk r), .string ⟨#[46]⟩] w fun e w' => e = .returned (.tuple #[.string (mk x), .string (mk b), .bool m]) ∧ Below w.heap.size w w') := hC
      have Hx : Hid (rest true r = x :: rest m b) := hx
      have Hb : Hid (b.length ≤ r.length ∧ (m = true → b.length < r.length)) := ⟨hb, hm⟩
      clear hC hx hb hm
      by_cases h8 : done.length = 8
      · have hno : Hid (mayL L = false) := not_may Hne.out (by rw [hcut.eq, Hx.out]) (.inl h8)
        have h8' : ((done.length : Int) == 8) = true := by simp; omega
        clear h8
        go_wp2_with fail
        refine (HC.out _).mono ?_; rintro e w1 ⟨rfl, hb1⟩
        go_wp2
        go_ret2
        rw [hno.out, labsL_no hno.out]
        exact ⟨⟨_, rfl, World.ownsRow_nil _ _ _ _⟩, hnx.trans (hb1.mono hsz)⟩
      · have h8' : ((done.length : Int) == 8) = false := by simp; omega
        have h7 : done.length < 8 := by have := hcut.len; omega
        clear h8
        go_wp2_with fail
        refine (HC.out _).mono ?_; rintro e w1 ⟨rfl, hb1⟩
        go_wp2_with fail
        refine (isLabel_c _ _).mono ?_; rintro e w2 ⟨rfl, rfl⟩
        rw [bs_mk]
        cases hok : okL x with
        | false =>
          have hno : Hid (mayL L = false) := not_may Hne.out (by rw [hcut.eq, Hx.out]) (.inr hok)
          clear hok
          go_wp2
          go_ret2
          rw [hno.out, labsL_no hno.out]
          exact ⟨⟨_, rfl, World.ownsRow_nil _ _ _ _⟩, hnx.trans (hb1.mono hsz)⟩
        | true =>
          have Hok : Hid (okL x = true) := hok
          have hown1 := hown.below hb1
          have hnx1 : Below w.heap.size w w2 := hnx.trans (hb1.mono hsz)
          have hsz1 := hnx1.size
          clear hok hown hb1
          go_wp2_with (first
            | (at_builtin; refine wpList_append_own _ rfl _ _ 58 rfl w.heap.size 9 i0 (.string ByteArray.empty) 1 16 Try.underlying58 hi hz0 hz1 hz2 rfl (by decide) _ _ _ rfl (World.ownsRow.alloc hown1 _) ⟨w2.heap.size, 0, none⟩ 1 1 [.string (mk x)] rfl rfl ?c1 ?c2 ?c3 ?c4 ?c5 ?_)
            | go_in)
          case c1 =>
            intro j u hj
            match j, hj with
            | 0, hj => simp at hj; subst hj; simp [Addr.add]
          case c2 => intro u hu; simp at hu; subst hu; rfl
          case c3 => unfold maxLen; omega
          case c4 => omega
          case c5 => simp; omega
          · intro v' w3 hown' hgrow _
            have R : Texts w3 w.heap.size v' (done ++ [x]) := texts_snoc hown'
            have B : Below w.heap.size w w3 := (hnx1.alloc hsz1 _).grown hgrow (by simp; omega) (fun k hk => (World.ownsRow.lt hown1 k hk).1)
            clear hown' hgrow hown1
            go_wp2
            go_roundw
            case rel =>
              refine ⟨done ++ [x], b, m, rfl, rfl, R, B, ⟨by simp; omega, by rw [hcut.eq, Hx.out]; simp, ?_, Nat.le_trans Hb.out.1 hcut.room⟩⟩
              intro y hy
              rcases List.mem_append.1 hy with hy | hy
              · exact hcut.ok y hy
              · simp at hy; subst hy; exact Hok.out
            case measure =>
              simp only [boolOf, strOf, size_mk]
              have := Hb.out
              cases m with
              | false => simp
              | true => have := this.2 rfl; simp; omega

/-- name.cut, at whatever text. -/
theorem cut_c (s : ByteArray) (w : World) (hs : s.size ≤ maxLen) : Calls Try.prog 64 #[.string s] w fun e w' => (∃ v, e = .returned (.tuple #[v, .bool (mayL (bs s))]) ∧ Texts w' w.heap.size v (labsL (bs s))) ∧ Below w.heap.size w w' := by
  by_cases h : s.size = 0
  · have hb : bs s = [] := List.eq_nil_of_length_eq_zero (by rw [length_bs]; exact h)
    rw [hb, mayL_nil, labsL_nil]
    exact (cut_empty s w h).mono fun e w' ⟨h1, h2⟩ => by subst h2; exact ⟨⟨_, h1, World.ownsRow_nil _ _ _ _⟩, Below.refl _ _⟩
  · have := cut_c1 (bs s) w (by intro e; apply h; rw [← length_bs, e]; rfl) (by rw [length_bs]; exact hs)
    rwa [mk_bs] at this

theorem may_c (s : ByteArray) (w : World) (hs : s.size ≤ maxLen) : Calls Try.prog 68 #[.string s] w fun e w' => e = .returned (.bool (mayL (bs s))) ∧ Below w.heap.size w w' := by
  go_enter Try.func68, Try.ntmps68
  go_wp2_with fail
  refine (cut_c _ _ hs).mono ?_; rintro e w1 ⟨⟨v, rfl, ho⟩, hb⟩
  go_wp2
  go_ret
  exact ⟨rfl, hb⟩

theorem labels_c (s : ByteArray) (w : World) (hs : s.size ≤ maxLen) : Calls Try.prog 47 #[.string s] w fun e w' => (∃ v, e = .returned v ∧ Texts w' w.heap.size v (labsL (bs s))) ∧ Below w.heap.size w w' := by
  go_enter Try.func47, Try.ntmps47
  go_wp2_with fail
  refine (cut_c _ _ hs).mono ?_; rintro e w1 ⟨⟨v, rfl, ho⟩, hb⟩
  go_wp2
  go_ret
  exact ⟨⟨_, rfl, ho⟩, hb⟩

end Go.Proofs.Ytedbihckdbpebaa

/-
  Contracts of slices.Equal and of the laws' SameTexts at lists of texts: what each call returns.
-/
namespace Go.Proofs.Ytedbihckdbpebaa
open Go.ChangeShapes Go.WideShapes Go.ChangeAt Go.RowKit Go.Pin Go.PlainAid

/-- Cells of a list of texts, wherever it lies. -/
def Lies (w : World) (a : Option Addr) (ls : List (List UInt8)) : Prop := ls = [] ∨ ∃ g o, a = some ⟨g, o, none⟩ ∧ ∀ j, j < ls.length → w.cell? ⟨g, o + j, none⟩ = some (.string (mk (ls.getD j [])))

theorem equal_lens (v1 v2 : Option Addr) (n m c1 c2 : Nat) (w : World) (h : n ≠ m) : Calls Try.prog 70 #[.slice v1 n c1, .slice v2 m c2] w fun e w' => e = .returned (.bool false) ∧ Below w.heap.size w w' := by
  have h' : ((n : Int) != (m : Int)) = true := by rw [bne_iff_ne]; omega
  go_enter Try.func70, Try.ntmps70
  go_wp2
  go_ret
  exact ⟨rfl, Below.refl _ _⟩

theorem toList_mk (x : List UInt8) : (mk x).toList = x := by rw [ByteArray.toList_eq]; rfl
theorem same_yes {x y : List UInt8} (h : x = y) : ((mk x).toList == (mk y).toList) = true := by rw [h]; simp
theorem same_no {x y : List UInt8} (h : x ≠ y) : ((mk x).toList == (mk y).toList) = false := by rw [toList_mk, toList_mk]; simpa using h
theorem Lies.of_cells {w wr : World} {a : Option Addr} {ls : List (List UInt8)} (h : Lies w a ls) (hc : ∀ p, wr.cell? p = w.cell? p) : Lies wr a ls := by
  rcases h with h | ⟨g, o, rfl, h⟩
  · exact .inl h
  · exact .inr ⟨g, o, rfl, fun j hj => (hc _).trans (h j hj)⟩

theorem eq_of_getD {a b : List (List UInt8)} (hl : a.length = b.length) (h : ∀ j, j < a.length → a.getD j [] = b.getD j []) : a = b := by
  apply List.ext_getElem hl
  intro j h1 h2
  have := h j h1
  simpa [List.getD, h1, h2] using this


theorem equal_c (a1 a2 : Option Addr) (l1 l2 : List (List UInt8)) (c1 c2 : Nat) (w : World) (hl : l1.length = l2.length) (h8 : l1.length ≤ 1000000000) (h1 : Lies w a1 l1) (h2 : Lies w a2 l2) :
    Calls Try.prog 70 #[.slice a1 l1.length c1, .slice a2 l2.length c2] w fun e w' => e = .returned (.bool (decide (l1 = l2))) ∧ Below w.heap.size w w' := by
  have hn : ((l1.length : Int) != (l2.length : Int)) = false := by rw [hl]; simp
  have HL : Hid (l1.length = l2.length) := hl
  have H1 : Hid (Lies w a1 l1) := h1
  have H2 : Hid (Lies w a2 l2) := h2
  have hle : l1.length ≤ l2.length := by omega
  have hge : l2.length ≤ l1.length := by omega
  clear hl h1 h2
  go_enter Try.func70, Try.ntmps70
  go_wp2
  go_loopw [13] (fun i wr => ∃ j : Nat, j ≤ l1.length ∧ i = .int .i64 j ∧ Hid (∀ i, i < j → l1.getD i [] = l2.getD i []) ∧ Below w.heap.size w wr ∧ ∀ p, wr.cell? p = w.cell? p) (fun i _ => l1.length - (intOf i).toNat)
  case atStart => exact ⟨0, Nat.zero_le _, rfl, fun i hi => by omega, Below.refl _ _, fun _ => rfl⟩
  case round =>
    obtain ⟨j, hj, rfl, hall, hnx, hce⟩ := hrel
    by_cases hlt : j < l1.length
    · have hlt2 : j < l2.length := by omega
      obtain ⟨g1, o1, rfl, hc1⟩ := H1.out.resolve_left (by intro e; subst e; simp at hlt)
      obtain ⟨g2, o2, rfl, hc2⟩ := H2.out.resolve_left (by intro e; subst e; simp at hlt2)
      have k1 : wr.cell? ⟨g1, o1 + j, none⟩ = some (.string (mk (l1.getD j []))) := (hce _).trans (hc1 j hlt)
      have k2 : wr.cell? ⟨g2, o2 + j, none⟩ = some (.string (mk (l2.getD j []))) := (hce _).trans (hc2 j hlt2)
      have HC : Hid (∀ p, wr.cell? p = w.cell? p) := hce
      clear hc1 hc2 H1 H2 hce
      generalize hx1 : l1.getD j [] = x1 at k1
      generalize hx2 : l2.getD j [] = x2 at k2
      have Hx1 : Hid (l1.getD j [] = x1) := hx1
      have Hx2 : Hid (l2.getD j [] = x2) := hx2
      clear hx1 hx2
      by_cases hxx : x1 = x2
      · have ht := same_yes hxx
        have Hxx : Hid (x1 = x2) := hxx
        clear hxx
        go_wp2_with fail
        go_region
        go_wp2
        go_roundw
        case rel => exact ⟨j + 1, by omega, by go_num, fun i hi => by by_cases e : i = j; (subst e; rw [Hx1.out, Hx2.out, Hxx.out]); exact hall.out i (by omega), hnx.drew, fun p => HC.out p⟩
        case measure => simp [intOf]; omega
      · have ht := same_no hxx
        have Hxx : Hid (x1 ≠ x2) := hxx
        clear hxx
        go_wp2_with fail
        go_region
        go_wp2
        go_ret
        refine ⟨ret_bool ?_, hnx.drew⟩
        rw [eq_comm, decide_eq_false_iff_not]
        intro e
        apply Hxx.out
        rw [← Hx1.out, ← Hx2.out, e]
    · obtain rfl : j = l1.length := by omega
      go_wp2
      go_ret
      refine ⟨ret_bool ?_, hnx⟩
      rw [eq_comm, decide_eq_true_eq]
      exact eq_of_getD HL.out hall.out


end Go.Proofs.Ytedbihckdbpebaa

/-
  The contract of name.Under, at whatever two texts.
-/
namespace Go.Proofs.Ytedbihckdbpebaa
open Go.ChangeShapes Go.WideShapes Go.ChangeAt Go.RowKit Go.Pin Go.PlainAid

/-- A list of the call's own is nil, or lies in a block of its own. -/
theorem Texts.cases {w : World} {base : Nat} {v : Value} {ls : List (List UInt8)} (h : Texts w base v ls) :
    (v = .slice none 0 0 ∧ ls = []) ∨ ∃ g cap, v = .slice (some ⟨g, 0, none⟩) ls.length cap ∧ ls.length ≤ cap ∧ cap ≤ maxLen ∧ base ≤ g ∧ g < w.heap.size ∧ (∀ j, j < ls.length → w.cell? ⟨g, j, none⟩ = some (.string (mk (ls.getD j [])))) ∧ ∀ j, w.frozen? ⟨g, j, none⟩ = false := by
  have hh := h
  obtain ⟨_, h | ⟨g, cap, cur, hv, hg, hb, hn, hm, hz, ht⟩⟩ := h
  · exact .inl ⟨h.1, List.eq_nil_of_length_eq_zero h.2⟩
  · refine .inr ⟨g, cap, hv, hn, hm, hg, (Array.getElem?_eq_some_iff.1 hb).1, ?_, ?_⟩
    · intro j hj
      subst hv
      have := World.ownsRow.cellAt hh j (by omega)
      rw [this]
      simp [List.getD, hj]
    · intro j
      subst hv
      exact World.ownsRow.frozenAt hh j

theorem Texts.lies {w : World} {base : Nat} {v : Value} {ls : List (List UInt8)} (h : Texts w base v ls) : ∃ a cap, v = .slice a ls.length cap ∧ Lies w a ls := by
  rcases h.cases with ⟨rfl, rfl⟩ | ⟨g, cap, rfl, _, _, _, _, hc, _⟩
  · exact ⟨none, 0, rfl, .inl rfl⟩
  · exact ⟨_, cap, rfl, .inr ⟨g, 0, rfl, fun j hj => by rw [Nat.zero_add]; exact hc j hj⟩⟩

theorem under_no (s z : ByteArray) (w : World) (hs : s.size ≤ maxLen) (hz : z.size ≤ maxLen) (h : mayL (bs s) = false ∨ mayL (bs z) = false ∨ (labsL (bs s)).length < (labsL (bs z)).length) :
    Calls Try.prog 52 #[.string s, .string z] w fun e w' => e = .returned (.bool false) ∧ Below w.heap.size w w' := by
  have H : Hid (mayL (bs s) = false ∨ mayL (bs z) = false ∨ (labsL (bs s)).length < (labsL (bs z)).length) := h
  have hl1 := labsL_len (bs s)
  have hl2 := labsL_len (bs z)
  clear h
  go_enter Try.func52, Try.ntmps52
  go_wp2_with fail
  refine (cut_c _ _ hs).mono ?_; rintro e w1 ⟨⟨v, rfl, ho⟩, hb⟩
  obtain ⟨a, cap, rfl⟩ := ho.form
  go_wp2_with fail
  refine (cut_c _ _ hz).mono ?_; rintro e w2 ⟨⟨v, rfl, ho2⟩, hb2⟩
  obtain ⟨a2, cap2, rfl⟩ := ho2.form
  have B := bel_trans hb hb2
  clear hb hb2 ho ho2 hs hz
  rcases H.out with h | h | h
  · rw [h]
    clear h
    go_wp2
    all_goals
      go_ret
      exact ⟨rfl, B⟩
  · rw [h]
    clear h
    go_wp2
    all_goals
      go_ret
      exact ⟨rfl, B⟩
  · have h' : ((labsL (bs s)).length : Int) < ((labsL (bs z)).length : Int) := by omega
    generalize (labsL (bs s)).length = n1 at *
    generalize (labsL (bs z)).length = n2 at *
    go_wp2
    all_goals
      go_ret
      exact ⟨rfl, B⟩

theorem under_some (s z : ByteArray) (w : World) (hs : s.size ≤ maxLen) (hz : z.size ≤ maxLen) (h1 : mayL (bs s) = true) (h2 : mayL (bs z) = true) (h3 : (labsL (bs z)).length ≤ (labsL (bs s)).length) :
    Calls Try.prog 52 #[.string s, .string z] w fun e w' => e = .returned (.bool (decide (labsL (bs z) <:+ labsL (bs s)))) ∧ Below w.heap.size w w' := by
  have hl1 := labsL_len (bs s)
  have hl2 := labsL_len (bs z)
  have Hs : Hid (s.size ≤ maxLen) := hs
  have Hz : Hid (z.size ≤ maxLen) := hz
  have H1 : Hid (mayL (bs s) = true) := h1
  have H2 : Hid (mayL (bs z) = true) := h2
  generalize h4 : labsL (bs s) = l1 at *
  generalize h5 : labsL (bs z) = l2 at *
  have H4 : Hid (labsL (bs s) = l1) := h4
  have H5 : Hid (labsL (bs z) = l2) := h5
  clear hs hz h1 h2 h4 h5
  go_enter Try.func52, Try.ntmps52
  go_wp2_with fail
  refine (cut_c _ _ Hs.out).mono ?_; rintro e w1 ⟨⟨v, rfl, ho⟩, hb⟩
  rw [H4.out] at ho
  obtain ⟨a, cap, rfl⟩ := ho.form
  go_wp2_with fail
  refine (cut_c _ _ Hz.out).mono ?_; rintro e w2 ⟨⟨v, rfl, ho2⟩, hb2⟩
  rw [H1.out, H2.out]
  have B := bel_trans hb hb2
  replace ho := ho.below hb2
  rw [H5.out] at ho2
  obtain ⟨a2, cap2, rfl, hz2⟩ := ho2.lies
  clear hb hb2 ho2
  rcases ho.cases with ⟨he, rfl⟩ | ⟨g, cap', he, hn, hm, hg, hgs, hc, hf⟩
  · cases he
    obtain rfl : l2 = [] := List.eq_nil_of_length_eq_zero (by simpa using h3)
    clear ho
    go_wp2_with fail
    refine (equal_c none a2 [] [] 0 cap2 w2 rfl (by simp) (.inl rfl) (.inl rfl)).mono ?_; rintro e w3 ⟨rfl, hb3⟩
    go_wp2
    go_ret
    exact ⟨rfl, bel_trans B hb3⟩
  · cases he
    have h3' : (l2.length : Int) ≤ (l1.length : Int) := by omega
    have Hc : Hid (∀ j, j < l1.length → w2.cell? ⟨g, j, none⟩ = some (.string (mk (l1.getD j [])))) := hc
    clear hc hf
    unfold maxLen at hm
    have e : l1.length - (l1.length - l2.length) = (l1.drop (l1.length - l2.length)).length := by simp
    have E : Hid (l1.length - (l1.length - l2.length) = (l1.drop (l1.length - l2.length)).length) := e
    clear e ho
    go_wp2_with fail
    · rename_i hcap
      rw [E.out]
      refine (equal_c _ _ _ _ _ _ _ (by simp; omega) (by simp; omega) (.inl (List.eq_nil_of_length_eq_zero (by simp; omega))) hz2).mono ?_; rintro e w3 ⟨rfl, hb3⟩
      rw [decide_eq_decide.2 (eq_comm.trans List.suffix_iff_eq_drop.symm)]
      go_wp2
      go_ret
      exact ⟨rfl, bel_trans B hb3⟩
    · rename_i hcap
      rw [E.out]
      refine (equal_c _ _ _ _ _ _ _ (by simp; omega) (by simp; omega) (.inr ⟨g, _, rfl, ?hl⟩) hz2).mono ?_
      case hl =>
        intro j hj
        rw [Hc.out _ (by simp at hj; omega)]
        simp [List.getD]
      rintro e w3 ⟨rfl, hb3⟩
      rw [decide_eq_decide.2 (eq_comm.trans List.suffix_iff_eq_drop.symm)]
      go_wp2
      go_ret
      exact ⟨rfl, bel_trans B hb3⟩

theorem under_c (s z : ByteArray) (w : World) (hs : s.size ≤ maxLen) (hz : z.size ≤ maxLen) :
    Calls Try.prog 52 #[.string s, .string z] w fun e w' => e = .returned (.bool (underL (bs s) (bs z))) ∧ Below w.heap.size w w' := by
  unfold underL
  cases h1 : mayL (bs s) with
  | false => exact under_no s z w hs hz (.inl h1)
  | true =>
    cases h2 : mayL (bs z) with
    | false => exact under_no s z w hs hz (.inr (.inl h2))
    | true =>
      by_cases h3 : (labsL (bs z)).length ≤ (labsL (bs s)).length
      · exact under_some s z w hs hz h1 h2 h3
      · have : decide (labsL (bs z) <:+ labsL (bs s)) = false := by
          rw [decide_eq_false_iff_not]; intro h; exact h3 h.length_le
        rw [this]
        exact under_no s z w hs hz (.inr (.inr (by omega)))

end Go.Proofs.Ytedbihckdbpebaa

/-
  Contracts of name.Fold and of the reference's Fold, at whatever text.
-/
namespace Go.Proofs.Ytedbihckdbpebaa
open Go.ChangeShapes Go.WideShapes Go.ChangeAt Go.RowKit Go.Pin Go.PlainAid

theorem bytes_new (s : ByteArray) (w : World) : ∃ (w1 : World) (cap : Nat), (convert 9 73 (.string s)).run Try.prog w = .ok (.slice (some ⟨w.heap.size, 0, none⟩) s.size cap) w1 ∧ Below w.heap.size w w1 ∧ w1.heap.size = w.heap.size + 1 ∧
    (∀ j, j < s.size → w1.cell? ⟨w.heap.size, j, none⟩ = some (.int .u8 (bt s j)) ∧ w1.frozen? ⟨w.heap.size, j, none⟩ = false) := by
  refine ⟨_, _, run_bytes_of_string w 9 73 5 s Try.underlying9 Try.underlying73 Try.underlying5, ?_, ?_, ?_⟩
  · exact ((Below.refl _ _).drew).alloc (Nat.le_refl _) _
  · exact World.size_alloc _ _
  · intro j hj
    have hc := World.cell?_alloc_mark w.drew (bytesRow s (grownCap w s.size 0 5)) 5 ((bytesRow s (grownCap w s.size 0 5)).size, (bytesRow s (grownCap w s.size 0 5)).size + 1) j
    have hf := World.frozen?_alloc_mark w.drew (bytesRow s (grownCap w s.size 0 5)) 5 (bytesRow s (grownCap w s.size 0 5)).size ((bytesRow s (grownCap w s.size 0 5)).size + 1) j
    have hb := bytesRow_at s (grownCap w s.size 0 5) j hj
    refine ⟨hc.trans (hb.trans ?_), hf.trans ?_⟩
    · unfold bt; rw [dif_pos hj]; rfl
    · have : j < (bytesRow s (grownCap w s.size 0 5)).size := (Array.getElem?_eq_some_iff.1 hb).1
      simp; omega

/-- The first i bytes are folded. -/
def Half (w : World) (g : Nat) (s : ByteArray) (i : Nat) : Prop := ∀ j, j < s.size → w.cell? ⟨g, j, none⟩ = some (.int .u8 (if j < i then foldByte (bt s j) else bt s j)) ∧ w.frozen? ⟨g, j, none⟩ = false

theorem Half.at {w : World} {g : Nat} {s : ByteArray} {i : Nat} (h : Half w g s i) (hi : i < s.size) : w.cell? ⟨g, i, none⟩ = some (.int .u8 (bt s i)) ∧ w.frozen? ⟨g, i, none⟩ = false := by
  have := h i hi; simpa using this

theorem Half.same {w : World} {g : Nat} {s : ByteArray} {i : Nat} (h : Half w g s i) (hg : foldByte (bt s i) = bt s i) : Half w g s (i + 1) := by
  intro j hj
  refine ⟨?_, (h j hj).2⟩
  rw [(h j hj).1]
  by_cases h1 : j < i
  · rw [if_pos h1, if_pos (by omega)]
  · by_cases h2 : j = i
    · subst h2; rw [if_neg h1, if_pos (by omega), hg]
    · rw [if_neg h1, if_neg (by omega)]

theorem Half.set {w : World} {g : Nat} {s : ByteArray} {i : Nat} (h : Half w g s i) (hi : i < s.size) (x : Int) (hx : foldByte (bt s i) = x) : Half (w.setCell ⟨g, i, none⟩ (.int .u8 x)) g s (i + 1) := by
  intro j hj
  refine ⟨?_, by rw [World.frozen?_setCell]; exact (h j hj).2⟩
  by_cases h2 : j = i
  · subst h2
    rw [World.cell?_setCell_same _ _ _ (h j hj).1, if_pos (by omega), hx]
  · rw [World.cell?_setCell_other _ _ _ _ (by intro e; apply h2; injection e with _ e; exact e.symm), (h j hj).1]
    by_cases h1 : j < i
    · rw [if_pos h1, if_pos (by omega)]
    · rw [if_neg h1, if_neg (by omega)]

theorem foldC_byte (c : UInt8) : ((foldC c).toNat : Int) = foldByte c.toNat := by
  have hc := c.toNat_lt
  unfold foldC foldByte
  by_cases h : 65 ≤ c.toNat ∧ c.toNat ≤ 90
  · rw [if_pos h, if_pos (by omega)]; simp; omega
  · rw [if_neg h, if_neg (by omega)]

theorem Half.all {w : World} {g : Nat} {s : ByteArray} (h : Half w g s s.size) (cap : Nat) : (convert 73 9 (.slice (some ⟨g, 0, none⟩) s.size cap)).run Try.prog w = .ok (.string (mk (foldL (bs s)))) w := by
  have hl : (foldL (bs s)).length = s.size := by simp [foldL, length_bs]
  have := run_convert_bytes_back (P := Try.prog) w 73 9 5 ⟨g, 0, none⟩ cap (foldL (bs s)) Try.underlying73 Try.underlying5 Try.underlying9 (by
    intro j hj
    have hj' : j < s.size := by rw [← hl]; exact hj
    rw [addr_add, Nat.zero_add, (h j hj').1, if_pos hj']
    obtain ⟨c, hc, hb⟩ := bt_bs s j hj'
    have e : (foldL (bs s))[j] = foldC c := by
      have h1 : (foldL (bs s))[j]? = some (foldC c) := by simp [foldL, hc]
      rw [List.getElem?_eq_getElem hj] at h1
      exact Option.some.inj h1
    rw [e, foldC_byte, hb])
  rw [hl] at this
  exact this

theorem foldByte_yes {x : Int} (h1 : 65 ≤ x) (h2 : x ≤ 90) : foldByte x = x + 32 := by unfold foldByte; rw [if_pos ⟨h1, h2⟩]
theorem foldByte_no {x : Int} (h : x < 65 ∨ 90 < x) : foldByte x = x := by unfold foldByte; rw [if_neg (by omega)]



end Go.Proofs.Ytedbihckdbpebaa

/-
  Contracts of package name and of SameTexts, with their answers named.
-/
namespace Go.Proofs.Ytedbihckdbpebaa
open Go.ChangeShapes Go.WideShapes Go.ChangeAt Go.RowKit Go.Pin Go.PlainAid

theorem may_is (s : ByteArray) (b : Bool) (w : World) (hs : s.size ≤ maxLen) (h : mayL (bs s) = b) : Calls Try.prog 68 #[.string s] w fun e w' => e = .returned (.bool b) ∧ Below w.heap.size w w' := by
  rw [← h]; exact may_c s w hs

theorem under_is (s z : ByteArray) (b : Bool) (w : World) (hs : s.size ≤ maxLen) (hz : z.size ≤ maxLen) (h : underL (bs s) (bs z) = b) : Calls Try.prog 52 #[.string s, .string z] w fun e w' => e = .returned (.bool b) ∧ Below w.heap.size w w' := by
  rw [← h]; exact under_c s z w hs hz


theorem labels_is (s : ByteArray) (ls : List (List UInt8)) (w : World) (hs : s.size ≤ maxLen) (h : labsL (bs s) = ls) : Calls Try.prog 47 #[.string s] w fun e w' => (∃ v, e = .returned v ∧ Texts w' w.heap.size v ls) ∧ Below w.heap.size w w' := by
  rw [← h]; exact labels_c s w hs


theorem Lies.alloc {w : World} {a : Option Addr} {ls : List (List UInt8)} (h : Lies w a ls) (o : Obj) : Lies (w.alloc o) a ls := by
  rcases h with h | ⟨g, o', rfl, h⟩
  · exact .inl h
  · refine .inr ⟨g, o', rfl, fun j hj => ?_⟩
    have hc := h j hj
    have hlt := World.block_lt_of_cell? w _ hc
    rw [← hc]
    exact Below.cell ((Below.refl _ _).alloc (Nat.le_refl w.heap.size) o) hlt

end Go.Proofs.Ytedbihckdbpebaa

/-
  Plain lemmas on names and their labels, for the laws that join labels again.
-/
namespace Go.Proofs.Ytedbihckdbpebaa
open Go.ChangeShapes Go.WideShapes Go.ChangeAt Go.RowKit Go.Pin Go.PlainAid

theorem mk_append (a b : List UInt8) : mk a ++ mk b = mk (a ++ b) := by
  apply bs_inj
  simp [bs, mk]
theorem join_snoc (a : List (List UInt8)) (x : List UInt8) (h : a ≠ []) : join (a ++ [x]) = join a ++ 46 :: x := by rw [join_append a [x] h (by simp)]; rfl
theorem join_len (ls : List (List UInt8)) (h : ∀ x ∈ ls, okL x = true) : (join ls).length ≤ 9 * ls.length := by
  induction ls with
  | nil => simp [join]
  | cons x r ih =>
    have hx := h x (by simp)
    have h8 : x.length ≤ 8 := by simp only [okL, Bool.and_eq_true, decide_eq_true_eq] at hx; exact hx.1.2
    have := ih (fun y hy => h y (List.mem_cons_of_mem _ hy))
    by_cases hr : r = []
    · subst hr; simp [join]; omega
    · rw [join_cons x r hr]; simp; omega
theorem may_label {x : List UInt8} (h : okL x = true) : mayL x = true := (may_join (ls := [x]) (by simp) (by simpa using h)).1
theorem take_succ' (ls : List (List UInt8)) (j : Nat) (h : j < ls.length) : ls.take (j + 1) = ls.take j ++ [ls.getD j []] := by
  rw [List.take_add_one, List.getElem?_eq_getElem h]; simp [List.getD, h]
theorem getD_mem (ls : List (List UInt8)) (j : Nat) (h : j < ls.length) : ls.getD j [] ∈ ls := by
  have : ls.getD j [] = ls[j] := by simp [List.getD, h]
  rw [this]; exact List.getElem_mem h
theorem okL_bounds {x : List UInt8} (h : okL x = true) : 1 ≤ x.length ∧ x.length ≤ 8 := by simp only [okL, Bool.and_eq_true, decide_eq_true_eq] at h; exact h.1

theorem drop_pred (ls : List (List UInt8)) (j : Nat) (h : j < ls.length) : ls.drop j = ls.getD j [] :: ls.drop (j + 1) := by
  rw [List.drop_eq_getElem_cons h]; simp [List.getD, h]
theorem eq_yes {a b : ByteArray} (h : a = b) : (a.toList == b.toList) = true := by rw [h]; simp
theorem eq_no {a b : ByteArray} (h : a ≠ b) : (a.toList == b.toList) = false := by
  rw [beq_eq_false_iff_ne]; intro e; apply h; rw [ByteArray.toList_eq, ByteArray.toList_eq] at e; exact bs_inj e
theorem mayL_len {n : List UInt8} (h : mayL n = true) : n.length ≤ 72 := by
  have h1 := join_len (labsL n) (fun x hx => labsL_ok hx)
  have h2 := labsL_len n
  rw [join_labs h] at h1
  omega
end Go.Proofs.Ytedbihckdbpebaa

/-
  Contracts of the references labelMay, parts, NameMay, Labels and Under: what each call returns.
-/
namespace Go.Proofs.Ytedbihckdbpebaa
open Go.ChangeShapes Go.WideShapes Go.ChangeAt Go.RowKit Go.Pin Go.PlainAid

theorem okL_all {s : ByteArray} (h : ∀ i, i < s.size → okByte (bt s i) = true) : okL (bs s) = (decide (1 ≤ s.size) && decide (s.size ≤ 8)) := by
  simp only [okL, length_bs]
  have : (bs s).all okC = true := by
    rw [List.all_eq_true]
    intro c hc
    obtain ⟨i, hi, hic⟩ := List.getElem_of_mem hc
    have hi' : i < s.size := by rw [← length_bs]; exact hi
    obtain ⟨c', hc', hb⟩ := bt_bs s i hi'
    rw [List.getElem?_eq_getElem hi, hic] at hc'
    cases hc'
    have := h i hi'
    rwa [hb] at this
  rw [this, Bool.and_true]
theorem okL_bad {s : ByteArray} {i : Nat} (hi : i < s.size) (h : okByte (bt s i) = false) : okL (bs s) = false := by
  obtain ⟨c, hc, hb⟩ := bt_bs s i hi
  have hm := List.mem_of_getElem? hc
  have : (bs s).all okC = false := by
    rw [List.all_eq_false]
    refine ⟨c, hm, ?_⟩
    rw [okC, ← hb, h]; simp
  simp [okL, this]

theorem okByte_cases (x : Int) : (okByte x = true ∧ (97 ≤ x ∧ x ≤ 122 ∨ 48 ≤ x ∧ x ≤ 57 ∨ x = 45)) ∨ (okByte x = false ∧ (x < 45 ∨ 45 < x ∧ x < 48 ∨ 57 < x ∧ x < 97 ∨ 122 < x)) := by
  unfold okByte
  by_cases h : 97 ≤ x ∧ x ≤ 122 ∨ 48 ≤ x ∧ x ≤ 57 ∨ x = 45
  · left; refine ⟨?_, h⟩; simp; omega
  · right; refine ⟨?_, by omega⟩; simp; omega

theorem labelMay_c (s : ByteArray) (w : World) (hs : s.size ≤ maxLen) : Calls Try.prog 54 #[.string s] w fun e w' => e = .returned (.bool (okL (bs s))) ∧ w' = w := by
  unfold maxLen at hs
  have hyes : Hid ((∀ i, i < s.size → okByte (bt s i) = true) → okL (bs s) = (decide (1 ≤ s.size) && decide (s.size ≤ 8))) := okL_all
  have hno : Hid (∀ i, i < s.size → okByte (bt s i) = false → okL (bs s) = false) := fun i h1 h2 => okL_bad h1 h2
  generalize hV : okL (bs s) = V at hyes hno ⊢
  clear hV
  have hb := get_bt s
  go_enter Try.func54, Try.ntmps54
  go_wp2
  go_loop [3] (fun i => ∃ j : Nat, j ≤ s.size ∧ i = .int .i64 j ∧ Hid (∀ i, i < j → okByte (bt s i) = true)) (fun i => s.size - (intOf i).toNat)
  case atStart => exact ⟨0, Nat.zero_le _, rfl, fun i hi => by omega⟩
  case round =>
    obtain ⟨j, hj, rfl, hall⟩ := hrel
    by_cases hlt : j < s.size
    · rcases okByte_cases (bt s j) with ⟨hok, hc⟩ | ⟨hok, hc⟩
      · have H : Hid (okByte (bt s j) = true) := hok
        clear hok
        generalize hx : bt s j = x at *
        have Hx : Hid (bt s j = x) := hx
        rcases hc with ⟨c1, c2⟩ | ⟨c1, c2⟩ | c1
        · go_wp2
          go_round
          case rel => exact ⟨j + 1, by omega, by go_num, fun i hi => by by_cases e : i = j; (subst e; rw [Hx.out]; exact H.out); exact hall.out i (by omega)⟩
          case measure => simp [intOf]; omega
        · go_wp2
          go_round
          case rel => exact ⟨j + 1, by omega, by go_num, fun i hi => by by_cases e : i = j; (subst e; rw [Hx.out]; exact H.out); exact hall.out i (by omega)⟩
          case measure => simp [intOf]; omega
        · subst c1
          go_wp2
          go_round
          case rel => exact ⟨j + 1, by omega, by go_num, fun i hi => by by_cases e : i = j; (subst e; rw [Hx.out]; exact H.out); exact hall.out i (by omega)⟩
          case measure => simp [intOf]; omega
      · have H : Hid (okByte (bt s j) = false) := hok
        clear hok
        generalize hx : bt s j = x at *
        have Hx : Hid (bt s j = x) := hx
        have e45 : (x != 45) = true := by simp; omega
        rcases hc with c1 | ⟨c1, c2⟩ | ⟨c1, c2⟩ | c1
        all_goals
          go_wp2
          go_ret
          refine ⟨ret_bool ?_, rfl⟩
          exact (hno.out j hlt (by rw [Hx.out]; exact H.out)).symm
    · obtain rfl : j = s.size := by omega
      have E : Hid (V = (decide (1 ≤ s.size) && decide (s.size ≤ 8))) := hyes.out hall.out
      by_cases h1 : 1 ≤ s.size
      all_goals
        go_wp2
        go_ret
        refine ⟨ret_bool ?_, rfl⟩
        rw [E.out, Bool.eq_iff_iff]
        simp
        omega

theorem extract_mk (s : ByteArray) (f j : Nat) : s.extract f j = mk (((bs s).drop f).take (j - f)) := Lib.extract_eq s f j

/-- The loop of parts: what has been cut off, from where, up to where it has been looked. -/
structure Parting (L : List UInt8) (done : List (List UInt8)) (f j : Nat) : Prop where
  le : f ≤ j
  len : done.length ≤ j
  eq : j ≤ L.length → split L = done ++ split (L.drop f) ∧ (46 : UInt8) ∉ (L.drop f).take (j - f)
  fin : L.length < j → done = split L

theorem parting_start (L : List UInt8) : Parting L [] 0 0 := ⟨Nat.le_refl _, Nat.le_refl _, fun _ => ⟨by simp, by simp⟩, fun h => by omega⟩

theorem take_more (L : List UInt8) (f j : Nat) (h : f ≤ j) (hj : j < L.length) : (L.drop f).take (j + 1 - f) = (L.drop f).take (j - f) ++ [L[j]] := by
  rw [show j + 1 - f = (j - f) + 1 by omega, List.take_add_one, List.getElem?_drop, show f + (j - f) = j by omega, List.getElem?_eq_getElem hj]
  rfl
theorem drop_split (L : List UInt8) (f j : Nat) (h : f ≤ j) (hj : j < L.length) : L.drop f = (L.drop f).take (j - f) ++ L[j] :: L.drop (j + 1) := by
  have h1 : L.drop j = L[j] :: L.drop (j + 1) := List.drop_eq_getElem_cons hj
  have h2 : L.drop j = (L.drop f).drop (j - f) := by rw [List.drop_drop, show f + (j - f) = j by omega]
  rw [← h1, h2, List.take_append_drop]

theorem Parting.skip {L : List UInt8} {done : List (List UInt8)} {f j : Nat} (h : Parting L done f j) (hj : j < L.length) (hc : L[j] ≠ 46) : Parting L done f (j + 1) := by
  refine ⟨by have := h.le; omega, by have := h.len; omega, fun _ => ⟨(h.eq (by omega)).1, ?_⟩, fun h1 => by omega⟩
  rw [take_more L f j h.le hj, List.mem_append]
  rintro (h1 | h1)
  · exact (h.eq (by omega)).2 h1
  · simp at h1; exact hc h1.symm

theorem Parting.dot {L : List UInt8} {done : List (List UInt8)} {f j : Nat} (h : Parting L done f j) (hj : j < L.length) (hc : L[j] = 46) : Parting L (done ++ [(L.drop f).take (j - f)]) (j + 1) (j + 1) := by
  refine ⟨Nat.le_refl _, by have := h.len; simp; omega, fun _ => ⟨?_, by simp⟩, fun h1 => by omega⟩
  rw [(h.eq (by omega)).1]
  have h2 := drop_split L f j h.le hj
  rw [hc] at h2
  rw [h2, split_append, split_nodot _ (h.eq (by omega)).2, List.append_assoc, ← h2]

theorem Parting.last {L : List UInt8} {done : List (List UInt8)} {f : Nat} (h : Parting L done f L.length) : Parting L (done ++ [(L.drop f).take (L.length - f)]) (L.length + 1) (L.length + 1) := by
  refine ⟨Nat.le_refl _, by have := h.len; simp; omega, fun h1 => by omega, fun _ => ?_⟩
  obtain ⟨h1, h2⟩ := h.eq (Nat.le_refl _)
  have e : (L.drop f).take (L.length - f) = L.drop f := List.take_of_length_le (by simp)
  rw [e] at h2 ⊢
  rw [h1, split_nodot _ h2]

theorem bt_is (s : ByteArray) (j : Nat) (h : j < s.size) (hl : j < (bs s).length) : bt s j = ((bs s)[j]).toNat := by
  obtain ⟨c, hc, hb⟩ := bt_bs s j h
  rw [List.getElem?_eq_getElem hl] at hc
  rw [hb, Option.some.inj hc]
theorem dot_iff (c : UInt8) : c = 46 ↔ (c.toNat : Int) = 46 := by
  constructor
  · intro h; subst h; rfl
  · intro h; apply UInt8.toNat_inj.1; have : (46 : UInt8).toNat = 46 := rfl; omega

set_option maxHeartbeats 800000 in
set_option maxRecDepth 100000 in
theorem parts_c (s : ByteArray) (w : World) (hs : s.size ≤ 1048576) : Calls Try.prog 53 #[.string s] w fun e w' => (∃ v, e = .returned v ∧ Texts w' w.heap.size v (split (bs s))) ∧ Below w.heap.size w w' := by
  obtain ⟨i0, hi, hz0, hz1, hz2⟩ := info_parts Try.infoStr
  have hb := get_bt s
  have HL : Hid ((bs s).length = s.size) := length_bs s
  go_enter Try.func53, Try.ntmps53
  go_wp2
  go_loopw [3, 4, 5] (fun v m i wr => ∃ (done : List (List UInt8)) (f j : Nat), i = .int .i64 j ∧ m = .int .i64 f ∧ j ≤ s.size + 1 ∧ f ≤ j ∧ done.length ≤ j ∧ Texts wr w.heap.size v done ∧ Below w.heap.size w wr ∧ Parting (bs s) done f j) (fun _ _ i _ => s.size + 1 - (intOf i).toNat)
  case atStart => exact ⟨[], 0, 0, rfl, rfl, by omega, Nat.le_refl _, Nat.le_refl _, World.ownsRow_nil _ _ _ _, Below.refl _ _, parting_start _⟩
  case round =>
    obtain ⟨done, f, j, rfl, rfl, hj, hfj, hdl, hown, hnx, hP⟩ := hrel
    have hsz := hnx.size
    obtain ⟨a, cap, rfl⟩ := hown.form
    by_cases hend : j = s.size + 1
    · have e1 : done = split (bs s) := hP.fin (by rw [HL.out]; omega)
      have hlt : (s.size : Int) < (j : Int) := by omega
      clear hend
      go_wp2
      go_ret
      rw [← e1]
      exact ⟨⟨_, rfl, hown⟩, hnx⟩
    · by_cases hlast : j = s.size
      · have Hx : Hid (s.extract f j = mk (((bs s).drop f).take (j - f))) := extract_mk s f j
        have hP2 : Parting (bs s) (done ++ [((bs s).drop f).take (j - f)]) (j + 1) (j + 1) := by
          have hj' : j = (bs s).length := by rw [HL.out]; exact hlast
          rw [hj'] at hP ⊢
          exact hP.last
        generalize ((bs s).drop f).take (j - f) = x at *
        have h1 : ((j : Int) == (s.size : Int)) = true := by simp; omega
        have h2 : (j : Int) ≤ (s.size : Int) := by omega
        have h3 : j ≤ s.size := by omega
        clear hlast hend hP
        go_wp2_with (first
          | (at_builtin; refine wpList_append_own _ rfl _ _ 58 rfl w.heap.size 9 i0 (.string ByteArray.empty) 1 16 Try.underlying58 hi hz0 hz1 hz2 rfl (by decide) _ _ _ rfl (World.ownsRow.alloc hown _) ⟨wr.heap.size, 0, none⟩ 1 1 [.string (s.extract f j)] rfl rfl ?c1 ?c2 ?c3 ?c4 ?c5 ?_)
          | go_in)
        case c1 =>
          intro j u hj
          match j, hj with
          | 0, hj => simp at hj; subst hj; simp [Addr.add]
        case c2 => intro u hu; simp at hu; subst hu; rfl
        case c3 => unfold maxLen; omega
        case c4 => omega
        case c5 => simp; omega
        · intro v' w3 hown' hgrow _
          rw [Hx.out] at hown'
          have R : Texts w3 w.heap.size v' (done ++ [x]) := texts_snoc hown'
          have B : Below w.heap.size w w3 := (hnx.alloc hsz _).grown hgrow (by simp; omega) (fun k hk => (World.ownsRow.lt hown k hk).1)
          clear hown' hgrow hown
          go_wp2
          go_roundw
          case rel => exact ⟨done ++ [x], j + 1, j + 1, by go_num, by go_num, by omega, Nat.le_refl _, hP2.len, R, B, hP2⟩
          case measure => simp [intOf]; omega
      · have hlt : j < s.size := by omega
        have hlt2 : j < (bs s).length := by rw [HL.out]; exact hlt
        have hbj := bt_is s j hlt hlt2
        have h1 : ((j : Int) == (s.size : Int)) = false := by simp; omega
        by_cases hc : (bs s)[j] = 46
        · have Hx : Hid (s.extract f j = mk (((bs s).drop f).take (j - f))) := extract_mk s f j
          have hP2 : Parting (bs s) (done ++ [((bs s).drop f).take (j - f)]) (j + 1) (j + 1) := hP.dot hlt2 hc
          generalize ((bs s).drop f).take (j - f) = x at *
          rw [(dot_iff _).1 hc] at hbj
          have h3 : j ≤ s.size := by omega
          clear hc hP hlt2 hlast hend
          go_wp2_with (first
            | (at_builtin; refine wpList_append_own _ rfl _ _ 58 rfl w.heap.size 9 i0 (.string ByteArray.empty) 1 16 Try.underlying58 hi hz0 hz1 hz2 rfl (by decide) _ _ _ rfl (World.ownsRow.alloc hown _) ⟨wr.heap.size, 0, none⟩ 1 1 [.string (s.extract f j)] rfl rfl ?c1 ?c2 ?c3 ?c4 ?c5 ?_)
            | go_in)
          case c1 =>
            intro j u hj
            match j, hj with
            | 0, hj => simp at hj; subst hj; simp [Addr.add]
          case c2 => intro u hu; simp at hu; subst hu; rfl
          case c3 => unfold maxLen; omega
          case c4 => omega
          case c5 => simp; omega
          · intro v' w3 hown' hgrow _
            rw [Hx.out] at hown'
            have R : Texts w3 w.heap.size v' (done ++ [x]) := texts_snoc hown'
            have B : Below w.heap.size w w3 := (hnx.alloc hsz _).grown hgrow (by simp; omega) (fun k hk => (World.ownsRow.lt hown k hk).1)
            clear hown' hgrow hown
            go_wp2
            go_roundw
            case rel => exact ⟨done ++ [x], j + 1, j + 1, by go_num, by go_num, by omega, Nat.le_refl _, hP2.len, R, B, hP2⟩
            case measure => simp [intOf]; omega
        · have hP2 := hP.skip hlt2 hc
          have hbj2 : (bt s j == 46) = false := by
            rw [hbj, beq_eq_false_iff_ne]
            intro e
            exact hc ((dot_iff _).2 e)
          clear hc hP hlt2 hbj hlast hend
          go_wp2
          go_roundw
          case rel => exact ⟨done, f, j + 1, by go_num, rfl, by omega, by omega, by omega, hown, hnx, hP2⟩
          case measure => simp [intOf]; omega
end Go.Proofs.Ytedbihckdbpebaa

/-
  Contracts of the references NameMay, Labels and Under, and of the laws' SpoilTexts: what each call returns.
-/
namespace Go.Proofs.Ytedbihckdbpebaa
open Go.ChangeShapes Go.WideShapes Go.ChangeAt Go.RowKit Go.Pin Go.PlainAid

theorem mem_len (l x : List UInt8) (h : x ∈ split l) : x.length ≤ l.length := by
  induction l generalizing x with
  | nil => simp [split] at h; subst h; simp
  | cons c l ih =>
    by_cases hc : c = 46
    · subst hc
      rw [split_dot] at h
      rcases List.mem_cons.1 h with rfl | h
      · simp
      · have := ih x h; simp; omega
    · obtain ⟨p, ps, h1, h2⟩ := split_cons c l hc
      rw [h2] at h
      rcases List.mem_cons.1 h with rfl | h
      · have := ih p (by rw [h1]; simp); simp; omega
      · have := ih x (by rw [h1]; exact List.mem_cons_of_mem _ h); simp; omega
theorem split_len (l : List UInt8) : (split l).length ≤ l.length + 1 := by
  induction l with
  | nil => simp [split]
  | cons c l ih =>
    by_cases hc : c = 46
    · subst hc; rw [split_dot]; simp; omega
    · obtain ⟨p, ps, h1, h2⟩ := split_cons c l hc
      rw [h2]; rw [h1] at ih; simp at ih ⊢; omega

theorem Texts.base {w : World} {b b' : Nat} {v : Value} {ls : List (List UInt8)} (h : Texts w b v ls) (hb : b' ≤ b) : Texts w b' v ls := by
  obtain ⟨h1, h2⟩ := h
  refine ⟨h1, ?_⟩
  rcases h2 with h2 | ⟨g, cap, cur, hv, hg, r⟩
  · exact .inl h2
  · exact .inr ⟨g, cap, cur, hv, Nat.le_trans hb hg, r⟩

theorem nameMay_c (s : ByteArray) (w : World) (hs : s.size ≤ 1048576) : Calls Try.prog 35 #[.string s] w fun e w' => e = .returned (.bool (mayL (bs s))) ∧ Below w.heap.size w w' := by
  by_cases h0 : s.size = 0
  · have hb : bs s = [] := List.eq_nil_of_length_eq_zero (by rw [length_bs]; exact h0)
    rw [hb, mayL_nil]
    have he := empty_yes h0
    clear h0 hb
    go_enter Try.func35, Try.ntmps35
    go_wp2
    go_ret
    exact ⟨rfl, Below.refl _ _⟩
  · have he := empty_no h0
    have hne : bs s ≠ [] := by intro e; apply h0; rw [← length_bs, e]; rfl
    have HM : Hid (mayL (bs s) = (decide ((split (bs s)).length ≤ 8) && (split (bs s)).all okL)) := by unfold Hid mayL; simp [hne]
    have HC : Hid (∀ w, Calls Try.prog 53 #[.string s] w fun e w' => (∃ v, e = .returned v ∧ Texts w' w.heap.size v (split (bs s))) ∧ Below w.heap.size w w') := fun w => parts_c s w hs
    have hpl : (split (bs s)).length ≤ 1048577 := by have := split_len (bs s); rw [length_bs] at this; omega
    have HS : Hid (∀ x ∈ split (bs s), x.length ≤ 1048576) := fun x hx => by have := mem_len (bs s) x hx; rw [length_bs] at this; omega
    generalize split (bs s) = ps at *
    generalize mayL (bs s) = V at *
    clear h0 hne
    go_enter Try.func35, Try.ntmps35
    go_wp2_with fail
    refine (HC.out _).mono ?_; rintro e w1 ⟨⟨v, rfl, ho⟩, hb1⟩
    obtain ⟨a, cap, rfl, hl⟩ := ho.lies
    have HL : Hid (Lies w1 a ps) := hl
    clear hl ho
    go_wp2_with fail
    go_loopw [4] (fun i wr => ∃ j : Nat, wr = w1 ∧ j ≤ ps.length ∧ i = .int .i64 j ∧ Hid (∀ i, i < j → okL (ps.getD i []) = true)) (fun i _ => ps.length - (intOf i).toNat)
    case atStart => exact ⟨0, rfl, Nat.zero_le _, rfl, fun i hi => by omega⟩
    case round =>
      obtain ⟨j, rfl, hj, rfl, hall⟩ := hrel
      by_cases hlt : j < ps.length
      · obtain ⟨g, o, rfl, hc⟩ := HL.out.resolve_left (by intro e; subst e; simp at hlt)
        have hce := hc j hlt
        have hxs := HS.out _ (getD_mem ps j hlt)
        have hm := getD_mem ps j hlt
        have Hm : Hid (ps.getD j [] ∈ ps) := hm
        generalize hx : ps.getD j [] = x at *
        have Hx : Hid (ps.getD j [] = x) := hx
        clear hc hx hm
        go_wp2_with fail
        refine (labelMay_c (mk x) _ (by rw [size_mk]; unfold maxLen; omega)).mono ?_; rintro e w2 ⟨rfl, rfl⟩
        rw [bs_mk]
        cases hok : okL x with
        | false =>
          have HF : Hid (V = false) := by
            unfold Hid
            rw [HM.out]
            have : ps.all okL = false := by rw [List.all_eq_false]; exact ⟨x, Hm.out, by rw [hok]; simp⟩
            rw [this, Bool.and_false]
          clear hok
          go_wp2
          go_ret
          exact ⟨ret_bool HF.out.symm, hb1⟩
        | true =>
          have Hok : Hid (okL x = true) := hok
          clear hok
          go_wp2
          go_roundw
          case rel => exact ⟨j + 1, trivial, by omega, by go_num, fun i hi => by by_cases e : i = j; (subst e; rw [Hx.out]; exact Hok.out); exact hall.out i (by omega)⟩
          case measure => simp [intOf]; omega
      · obtain rfl : j = ps.length := by omega
        have HF : Hid (V = decide ((ps.length : Int) ≤ 8)) := by
          unfold Hid
          rw [HM.out]
          have : ps.all okL = true := by
            rw [List.all_eq_true]
            intro x hx
            obtain ⟨i, hi, rfl⟩ := List.getElem_of_mem hx
            have := hall.out i hi
            simpa [List.getD, hi] using this
          rw [this, Bool.and_true, Bool.eq_iff_iff]
          simp; omega
        go_wp2
        go_ret
        exact ⟨ret_bool HF.out.symm, hb1⟩

theorem rlabels_c (s : ByteArray) (w : World) (hs : s.size ≤ 1048576) : Calls Try.prog 36 #[.string s] w fun e w' => (∃ v, e = .returned v ∧ Texts w' w.heap.size v (labsL (bs s))) ∧ Below w.heap.size w w' := by
  have Hs : Hid (s.size ≤ 1048576) := hs
  clear hs
  by_cases h0 : s.size = 0
  · have hb : bs s = [] := List.eq_nil_of_length_eq_zero (by rw [length_bs]; exact h0)
    rw [hb, labsL_nil]
    have he := empty_yes h0
    clear h0 hb
    go_enter Try.func36, Try.ntmps36
    go_wp2
    go_ret
    exact ⟨⟨_, rfl, World.ownsRow_nil _ _ _ _⟩, Below.refl _ _⟩
  · have he := empty_no h0
    have hne : bs s ≠ [] := by intro e; apply h0; rw [← length_bs, e]; rfl
    cases hm : mayL (bs s) with
    | false =>
      have Hm : Hid (mayL (bs s) = false) := hm
      rw [labsL_no hm]
      clear hm h0 hne
      go_enter Try.func36, Try.ntmps36
      go_wp2_with fail
      refine (nameMay_c _ _ Hs.out).mono ?_; rintro e w1 ⟨rfl, hb1⟩
      rw [Hm.out]
      go_wp2
      go_ret
      exact ⟨⟨_, rfl, World.ownsRow_nil _ _ _ _⟩, hb1⟩
    | true =>
      have Hm : Hid (mayL (bs s) = true) := hm
      rw [labsL_yes hm hne]
      clear hm h0 hne
      go_enter Try.func36, Try.ntmps36
      go_wp2_with fail
      refine (nameMay_c _ _ Hs.out).mono ?_; rintro e w1 ⟨rfl, hb1⟩
      rw [Hm.out]
      go_wp2_with fail
      refine (parts_c _ _ Hs.out).mono ?_; rintro e w2 ⟨⟨v, rfl, ho⟩, hb2⟩
      go_wp2
      go_ret
      exact ⟨⟨_, rfl, Texts.base ho hb1.size⟩, bel_trans hb1 hb2⟩

/-- What the reference of Under asks of the letters. -/
theorem under_k (s z : ByteArray) (h1 : mayL (bs s) = true) (h2 : mayL (bs z) = true) (hz : z.size ≠ 0) (hne : s ≠ z) :
    underL (bs s) (bs z) = true ↔ ∃ k : Nat, k + z.size = s.size ∧ 2 ≤ k ∧ s.extract k s.size = z ∧ bt s (k - 1) = 46 := by
  have hz0 : bs z ≠ [] := by intro e; apply hz; rw [← length_bs, e]; rfl
  have hne' : bs s ≠ bs z := fun e => hne (bs_inj e)
  simp only [underL, h1, h2, Bool.true_and, decide_eq_true_eq]
  rw [under_letters h1 h2 hz0 hne']
  constructor
  · rintro ⟨a, ha, hs⟩
    have hlen : s.size = a.length + 1 + z.size := by rw [← length_bs, ← length_bs z, hs]; simp; omega
    refine ⟨a.length + 1, by omega, by omega, ?_, ?_⟩
    · rw [(extract_front a (bs z) s hs).2, mk_bs]
    · have hj : a.length < s.size := by omega
      have hj2 : a.length < (bs s).length := by rw [length_bs]; exact hj
      rw [Nat.add_sub_cancel, bt_is s a.length hj hj2]
      have : (bs s)[a.length] = 46 := by
        have h3 : (bs s)[a.length]? = some 46 := by rw [hs]; simp
        rw [List.getElem?_eq_getElem hj2] at h3
        exact Option.some.inj h3
      rw [this]; rfl
  · rintro ⟨k, hk, hk2, he, hb⟩
    have hj : k - 1 < s.size := by omega
    have hj2 : k - 1 < (bs s).length := by rw [length_bs]; exact hj
    rw [bt_is s (k - 1) hj hj2] at hb
    have hc := (dot_iff _).2 hb
    refine ⟨(bs s).take (k - 1), by rw [List.length_take, length_bs]; omega, ?_⟩
    have e1 := drop_split (bs s) 0 (k - 1) (Nat.zero_le _) hj2
    rw [hc, List.drop_zero, Nat.sub_zero, show k - 1 + 1 = k by omega] at e1
    have e2 : (bs s).drop k = bs z := by
      have h3 := congrArg bs he
      rw [extract_mk, bs_mk, List.take_of_length_le (by rw [List.length_drop, length_bs]; omega)] at h3
      exact h3
    rw [e2] at e1
    exact e1

theorem runder_c (s z : ByteArray) (w : World) (hs : s.size ≤ 1048576) (hz : z.size ≤ 1048576) : Calls Try.prog 56 #[.string s, .string z] w fun e w' => e = .returned (.bool (underL (bs s) (bs z))) ∧ Below w.heap.size w w' := by
  have Hs : Hid (s.size ≤ 1048576) := hs
  have Hz : Hid (z.size ≤ 1048576) := hz
  cases h1 : mayL (bs s) with
  | false =>
    have H1 : Hid (mayL (bs s) = false) := h1
    rw [show underL (bs s) (bs z) = false by simp [underL, h1]]
    clear h1 hs hz
    go_enter Try.func56, Try.ntmps56
    go_wp2_with fail
    refine (nameMay_c _ _ Hs.out).mono ?_; rintro e w1 ⟨rfl, hb1⟩
    rw [H1.out]
    go_wp2
    go_ret
    exact ⟨rfl, hb1⟩
  | true =>
    have H1 : Hid (mayL (bs s) = true) := h1
    cases h2 : mayL (bs z) with
    | false =>
      have H2 : Hid (mayL (bs z) = false) := h2
      rw [show underL (bs s) (bs z) = false by simp [underL, h2]]
      clear h1 h2 hs hz
      go_enter Try.func56, Try.ntmps56
      go_wp2_with fail
      refine (nameMay_c _ _ Hs.out).mono ?_; rintro e w1 ⟨rfl, hb1⟩
      rw [H1.out]
      go_wp2_with fail
      refine (nameMay_c _ _ Hz.out).mono ?_; rintro e w2 ⟨rfl, hb2⟩
      rw [H2.out]
      go_wp2
      go_ret
      exact ⟨rfl, bel_trans hb1 hb2⟩
    | true =>
      have H2 : Hid (mayL (bs z) = true) := h2
      by_cases hz0 : z.size = 0
      · have hbz : bs z = [] := List.eq_nil_of_length_eq_zero (by rw [length_bs]; exact hz0)
        have he := empty_yes hz0
        rw [hbz, under_root h1]
        clear h1 h2 hs hz hz0 hbz
        go_enter Try.func56, Try.ntmps56
        go_wp2_with fail
        refine (nameMay_c _ _ Hs.out).mono ?_; rintro e w1 ⟨rfl, hb1⟩
        rw [H1.out]
        go_wp2_with fail
        refine (nameMay_c _ _ Hz.out).mono ?_; rintro e w2 ⟨rfl, hb2⟩
        rw [H2.out]
        go_wp2
        go_ret
        exact ⟨rfl, bel_trans hb1 hb2⟩
      · have he := empty_no hz0
        by_cases hsz : s = z
        · have heq := eq_yes hsz
          rw [show underL (bs s) (bs z) = true by rw [← hsz]; exact under_self h1]
          clear h1 h2 hs hz hz0 hsz
          go_enter Try.func56, Try.ntmps56
          go_wp2_with fail
          refine (nameMay_c _ _ Hs.out).mono ?_; rintro e w1 ⟨rfl, hb1⟩
          rw [H1.out]
          go_wp2_with fail
          refine (nameMay_c _ _ Hz.out).mono ?_; rintro e w2 ⟨rfl, hb2⟩
          rw [H2.out]
          go_wp2
          go_ret
          exact ⟨rfl, bel_trans hb1 hb2⟩
        · have heq := eq_no hsz
          have HK : Hid (underL (bs s) (bs z) = true ↔ ∃ k : Nat, k + z.size = s.size ∧ 2 ≤ k ∧ s.extract k s.size = z ∧ bt s (k - 1) = 46) := under_k s z h1 h2 hz0 hsz
          generalize underL (bs s) (bs z) = V at HK ⊢
          clear h1 h2 hsz hz0
          by_cases hk : s.size ≤ z.size + 1
          · have hV : Hid (V = false) := by
              cases V with
              | false => rfl
              | true => obtain ⟨k, h3, h4, _⟩ := HK.out.1 rfl; omega
            go_enter Try.func56, Try.ntmps56
            go_wp2_with fail
            refine (nameMay_c _ _ Hs.out).mono ?_; rintro e w1 ⟨rfl, hb1⟩
            rw [H1.out]
            go_wp2_with fail
            refine (nameMay_c _ _ Hz.out).mono ?_; rintro e w2 ⟨rfl, hb2⟩
            rw [H2.out]
            go_wp2
            go_ret
            exact ⟨ret_bool hV.out.symm, bel_trans hb1 hb2⟩
          · obtain ⟨k, hkk⟩ : ∃ k : Nat, s.size = k + z.size := ⟨s.size - z.size, by omega⟩
            have hk2 : 2 ≤ k := by omega
            have hsub : (s.size : Int) - (z.size : Int) = (k : Int) := by omega
            have hg := get_bt s
            have hks : k ≤ s.size := by omega
            by_cases hx : s.extract k s.size = z
            · have hxe := eq_yes hx
              have Hx : Hid (s.extract k s.size = z) := hx
              clear hx
              by_cases hd : bt s (k - 1) = 46
              · have hV : Hid (V = true) := HK.out.2 ⟨k, by omega, hk2, Hx.out, hd⟩
                clear hkk
                go_enter Try.func56, Try.ntmps56
                go_wp2_with fail
                refine (nameMay_c _ _ Hs.out).mono ?_; rintro e w1 ⟨rfl, hb1⟩
                rw [H1.out]
                go_wp2_with fail
                refine (nameMay_c _ _ Hz.out).mono ?_; rintro e w2 ⟨rfl, hb2⟩
                rw [H2.out]
                go_wp2
                go_ret
                exact ⟨ret_bool hV.out.symm, bel_trans hb1 hb2⟩
              · have hV : Hid (V = false) := by
                  cases V with
                  | false => rfl
                  | true => obtain ⟨k', h3, h4, h5, h6⟩ := HK.out.1 rfl; obtain rfl : k' = k := by omega
                            exact absurd h6 hd
                have hd' : (bt s (k - 1) == 46) = false := by simpa using hd
                clear hkk hd
                go_enter Try.func56, Try.ntmps56
                go_wp2_with fail
                refine (nameMay_c _ _ Hs.out).mono ?_; rintro e w1 ⟨rfl, hb1⟩
                rw [H1.out]
                go_wp2_with fail
                refine (nameMay_c _ _ Hz.out).mono ?_; rintro e w2 ⟨rfl, hb2⟩
                rw [H2.out]
                go_wp2
                go_ret
                exact ⟨ret_bool hV.out.symm, bel_trans hb1 hb2⟩
            · have hV : Hid (V = false) := by
                cases V with
                | false => rfl
                | true => obtain ⟨k', h3, h4, h5, h6⟩ := HK.out.1 rfl; obtain rfl : k' = k := by omega
                          exact absurd h5 hx
              have hxe := eq_no hx
              clear hx hkk
              go_enter Try.func56, Try.ntmps56
              go_wp2_with fail
              refine (nameMay_c _ _ Hs.out).mono ?_; rintro e w1 ⟨rfl, hb1⟩
              rw [H1.out]
              go_wp2_with fail
              refine (nameMay_c _ _ Hz.out).mono ?_; rintro e w2 ⟨rfl, hb2⟩
              rw [H2.out]
              go_wp2
              go_ret
              exact ⟨ret_bool hV.out.symm, bel_trans hb1 hb2⟩


end Go.Proofs.Ytedbihckdbpebaa
