/-
  Plain: options, their bytes, what bytes tell of them. It speaks of no program.
-/
import Derived.Test.YtkohojifnmklmaaBName
namespace Go.Pin
open Go.PlainAid

/-- An option: its code, its bytes. -/
abbrev Opn := Int × List UInt8
/-- May one be? -/
def okO (o : Opn) : Bool := decide (0 < o.1) && decide (o.1 < 255) && decide (o.2.length ≤ 512)
/-- May they be? -/
def MayO (os : List Opn) : Prop := os.length ≤ 32 ∧ (∀ o ∈ os, okO o = true) ∧ (os.map (·.1)).Nodup
instance (os : List Opn) : Decidable (MayO os) := by unfold MayO; infer_instance
def mayO (os : List Opn) : Bool := decide (MayO os)
theorem okO_iff (o : Opn) : okO o = true ↔ 0 < o.1 ∧ o.1 < 255 ∧ o.2.length ≤ 512 := by simp [okO, and_assoc]
/-- A number below 256 as a byte. -/
def byteO (c : Int) : UInt8 := UInt8.ofNat c.toNat
/-- The parts of one option. -/
def partsL (c : UInt8) (d : List UInt8) : List UInt8 :=
  if 255 < d.length then c :: 255 :: (d.take 255 ++ partsL c (d.drop 255)) else c :: UInt8.ofNat d.length :: d
termination_by d.length
decreasing_by simp; omega
theorem parts_long {c : UInt8} {d : List UInt8} (h : 255 < d.length) : partsL c d = c :: 255 :: (d.take 255 ++ partsL c (d.drop 255)) := by rw [partsL, if_pos h]
theorem parts_short {c : UInt8} {d : List UInt8} (h : ¬ 255 < d.length) : partsL c d = c :: UInt8.ofNat d.length :: d := by rw [partsL, if_neg h]
/-- All of them. -/
def bodyO (os : List Opn) : List UInt8 := os.flatMap fun o => partsL (byteO o.1) o.2
def putO (os : List Opn) : List UInt8 := bodyO os ++ [255]
theorem parts_len (c : UInt8) (d : List UInt8) : (partsL c d).length = d.length + 2 * (if 255 < d.length then 1 + (d.length - 1) / 255 else 1) := by
  induction hn : d.length using Nat.strongRecOn generalizing d with
  | _ n ih =>
    by_cases h : 255 < d.length
    · rw [parts_long h]
      have := ih (d.drop 255).length (by simp; omega) (d.drop 255) rfl
      simp only [List.length_cons, List.length_append, List.length_take, this, List.length_drop]
      rw [← hn, if_pos h]
      split <;> omega
    · rw [parts_short h]
      simp only [List.length_cons]
      rw [← hn, if_neg h]
/-- Data of one code joined to what there is of it. -/
def joinO : List Opn → Int → List UInt8 → List Opn
  | [], c, d => [(c, d)]
  | o :: r, c, d => if o.1 = c then (c, o.2 ++ d) :: r else o :: joinO r c d
/-- Where the first of this code stands. -/
def placeO : List Opn → Int → Option Nat
  | [], _ => none
  | o :: r, c => if o.1 = c then some 0 else (placeO r c).map (· + 1)
/-- The first one's data. -/
def findO : List Opn → Int → Option (List UInt8)
  | [], _ => none
  | o :: r, c => if o.1 = c then some o.2 else findO r c
/-- May what was joined be? -/
def roomO (os : List Opn) (c : Int) : Bool := decide (os.length ≤ 32) && decide (((findO os c).getD []).length ≤ 512)
/-- What bytes tell; none: they are none. -/
def getO (r : List UInt8) (acc : List Opn) : Option (List Opn) :=
  match r with
  | [] => some acc
  | c :: r =>
    if c = 0 then getO r acc else if c = 255 then some acc else
    match r with
    | [] => none
    | n :: r => if r.length < n.toNat then none else
      if roomO (joinO acc c.toNat (r.take n.toNat)) c.toNat then getO (r.drop n.toNat) (joinO acc c.toNat (r.take n.toNat)) else none
termination_by r.length
decreasing_by all_goals simp <;> omega
theorem getO_nil (acc : List Opn) : getO [] acc = some acc := by rw [getO]
theorem getO_pad (r : List UInt8) (acc : List Opn) : getO (0 :: r) acc = getO r acc := by rw [getO.eq_def]; simp only [if_true]
theorem getO_end (r : List UInt8) (acc : List Opn) : getO (255 :: r) acc = some acc := by rw [getO.eq_def]; simp only [if_neg (show ¬ (255 : UInt8) = 0 by decide), if_true]
theorem getO_one {c : UInt8} (h0 : c ≠ 0) (h1 : c ≠ 255) (acc : List Opn) : getO [c] acc = none := by rw [getO.eq_def]; simp only [if_neg h0, if_neg h1]
theorem getO_short {c n : UInt8} {r : List UInt8} (h0 : c ≠ 0) (h1 : c ≠ 255) (h : r.length < n.toNat) (acc : List Opn) : getO (c :: n :: r) acc = none := by rw [getO.eq_def]; simp only [if_neg h0, if_neg h1, h, if_true]
theorem getO_part {c n : UInt8} {r : List UInt8} (h0 : c ≠ 0) (h1 : c ≠ 255) (h : ¬ r.length < n.toNat) (acc : List Opn) :
    getO (c :: n :: r) acc = if roomO (joinO acc c.toNat (r.take n.toNat)) c.toNat then getO (r.drop n.toNat) (joinO acc c.toNat (r.take n.toNat)) else none := by rw [getO.eq_def]; simp only [if_neg h0, if_neg h1, h, if_false]
theorem getO_pads (k : Nat) (r : List UInt8) (acc : List Opn) : getO (List.replicate k 0 ++ r) acc = getO r acc := by
  induction k with
  | zero => simp
  | succ k ih => rw [List.replicate_succ, List.cons_append, getO_pad, ih]

/-! ### joined -/
theorem place_lt {os : List Opn} {c : Int} {j : Nat} (h : placeO os c = some j) : j < os.length := by
  induction os generalizing j with
  | nil => simp [placeO] at h
  | cons o r ih =>
    unfold placeO at h
    by_cases ho : o.1 = c
    · rw [if_pos ho] at h; cases h; simp
    · rw [if_neg ho] at h
      cases hr : placeO r c with
      | none => rw [hr] at h; cases h
      | some i => rw [hr] at h; cases h; have := ih hr; simp; omega
theorem place_none {os : List Opn} {c : Int} : placeO os c = none ↔ ∀ o ∈ os, o.1 ≠ c := by
  induction os with
  | nil => simp [placeO]
  | cons o r ih =>
    unfold placeO
    by_cases ho : o.1 = c
    · simp [ho]
    · simp [ho, ih]
theorem join_new {os : List Opn} {c : Int} (h : placeO os c = none) (d : List UInt8) : joinO os c d = os ++ [(c, d)] := by
  induction os with
  | nil => rfl
  | cons o r ih =>
    unfold placeO at h
    by_cases ho : o.1 = c
    · rw [if_pos ho] at h; cases h
    · rw [if_neg ho] at h
      have hr : placeO r c = none := by cases hh : placeO r c <;> simp_all
      simp only [joinO, if_neg ho, List.cons_append, ih hr]
theorem join_old {os : List Opn} {c : Int} {j : Nat} (h : placeO os c = some j) (d : List UInt8) : joinO os c d = os.set j (c, (os.getD j (0, [])).2 ++ d) := by
  induction os generalizing j with
  | nil => simp [placeO] at h
  | cons o r ih =>
    unfold placeO at h
    by_cases ho : o.1 = c
    · rw [if_pos ho] at h; cases h; simp [joinO, ho]
    · rw [if_neg ho] at h
      cases hr : placeO r c with
      | none => rw [hr] at h; cases h
      | some i =>
        rw [hr] at h
        cases h
        simp [joinO, if_neg ho, ih hr]
theorem find_old {os : List Opn} {c : Int} {j : Nat} (h : placeO os c = some j) : findO os c = some (os.getD j (0, [])).2 ∧ (os.getD j (0, [])).1 = c := by
  induction os generalizing j with
  | nil => simp [placeO] at h
  | cons o r ih =>
    unfold placeO at h
    by_cases ho : o.1 = c
    · rw [if_pos ho] at h; cases h; simp [findO, ho]
    · rw [if_neg ho] at h
      cases hr : placeO r c with
      | none => rw [hr] at h; cases h
      | some i => rw [hr] at h; cases h; have := ih hr; simp only [findO, if_neg ho, List.getD_cons_succ]; exact this
theorem find_none {os : List Opn} {c : Int} (h : placeO os c = none) : findO os c = none := by
  induction os with
  | nil => rfl
  | cons o r ih =>
    unfold placeO at h
    by_cases ho : o.1 = c
    · rw [if_pos ho] at h; cases h
    · rw [if_neg ho] at h
      have hr : placeO r c = none := by cases hh : placeO r c <;> simp_all
      simp only [findO, if_neg ho, ih hr]
theorem place_snoc (os : List Opn) (o : Opn) (c : Int) : placeO (os ++ [o]) c = match placeO os c with | some j => some j | none => if o.1 = c then some os.length else none := by
  induction os with
  | nil => simp [placeO]
  | cons x r ih =>
    simp only [List.cons_append, placeO]
    by_cases hx : x.1 = c
    · simp [hx]
    · simp only [if_neg hx, ih]
      cases placeO r c with
      | some j => simp
      | none => by_cases ho : o.1 = c <;> simp [ho]
theorem place_codes {a b : List Opn} (h : a.map (·.1) = b.map (·.1)) (c : Int) : placeO a c = placeO b c := by
  induction a generalizing b with
  | nil => cases b with
    | nil => rfl
    | cons => simp at h
  | cons x r ih =>
    cases b with
    | nil => simp at h
    | cons y s =>
      simp only [List.map_cons, List.cons.injEq] at h
      simp only [placeO, h.1, ih h.2]
theorem codes_set {os : List Opn} {j : Nat} {c : Int} (h : placeO os c = some j) (d : List UInt8) : (os.set j (c, d)).map (·.1) = os.map (·.1) := by
  have hj := place_lt h
  have := (find_old h).2
  rw [List.map_set]
  apply List.ext_getElem?
  intro i
  rw [List.getElem?_set]
  by_cases hi : j = i
  · subst hi
    simp only [List.length_map, hj, if_true]
    rw [List.getElem?_map, List.getElem?_eq_getElem hj]
    rw [List.getD_eq_getElem?_getD, List.getElem?_eq_getElem hj] at this
    simpa using this.symm
  · simp [hi]
theorem join_place {os : List Opn} {c : Int} {j : Nat} (h : placeO os c = some j) (d : List UInt8) : placeO (joinO os c d) c = some j := by
  rw [join_old h, place_codes (codes_set h _), h]
theorem join_len_old {os : List Opn} {c : Int} {j : Nat} (h : placeO os c = some j) (d : List UInt8) : (joinO os c d).length = os.length := by rw [join_old h]; simp
theorem join_len_new {os : List Opn} {c : Int} (h : placeO os c = none) (d : List UInt8) : (joinO os c d).length = os.length + 1 := by rw [join_new h]; simp

/-! ### put, and told again -/
theorem place_last {os : List Opn} {c : Int} (h : placeO os c = none) (d : List UInt8) : placeO (os ++ [(c, d)]) c = some os.length := by rw [place_snoc, h]; simp
theorem join_last {os : List Opn} {c : Int} (h : placeO os c = none) (p d : List UInt8) : joinO (os ++ [(c, p)]) c d = os ++ [(c, p ++ d)] := by
  rw [join_old (place_last h p)]
  simp [List.getD_eq_getElem?_getD]
theorem find_last {os : List Opn} {c : Int} (h : placeO os c = none) (d : List UInt8) : findO (os ++ [(c, d)]) c = some d := by
  rw [(find_old (place_last h d)).1]
  simp [List.getD_eq_getElem?_getD]
theorem byte_nat {c : UInt8} : ((c.toNat : Nat) : Int) < 256 := by have := c.toNat_lt; omega
theorem byteO_back {c : Int} (h0 : 0 ≤ c) (h1 : c < 256) : ((byteO c).toNat : Int) = c := by unfold byteO; rw [UInt8.toNat_ofNat']; omega
theorem byteO_ne {c : Int} (h0 : 0 < c) (h1 : c < 255) : byteO c ≠ 0 ∧ byteO c ≠ 255 := by
  have h := byteO_back (c := c) (by omega) (by omega)
  constructor
  · intro e; rw [e] at h; simp at h; omega
  · intro e; rw [e] at h; simp at h; omega
theorem get_one_part {c : Int} {os : List Opn} {p d rest : List UInt8} (h0 : 0 < c) (h1 : c < 255) (hd : d.length ≤ 255) (hl : os.length < 32) (hn : placeO os c = none) (hp : p.length + d.length ≤ 512) :
    getO (byteO c :: UInt8.ofNat d.length :: (d ++ rest)) (os ++ [(c, p)]) = getO rest (os ++ [(c, p ++ d)]) := by
  have hc := byteO_back (c := c) (by omega) (by omega)
  have hne := byteO_ne h0 h1
  have hk : (UInt8.ofNat d.length).toNat = d.length := by rw [UInt8.toNat_ofNat']; omega
  rw [getO_part hne.1 hne.2 (by rw [hk]; simp), hc, hk, List.take_left, List.drop_left, join_last hn, if_pos]
  simp only [roomO, find_last hn, Bool.and_eq_true, decide_eq_true_eq]
  simp; omega
theorem get_new_part {c : Int} {os : List Opn} {d rest : List UInt8} (h0 : 0 < c) (h1 : c < 255) (hd : d.length ≤ 255) (hl : os.length < 32) (hn : placeO os c = none) :
    getO (byteO c :: UInt8.ofNat d.length :: (d ++ rest)) os = getO rest (os ++ [(c, d)]) := by
  have hc := byteO_back (c := c) (by omega) (by omega)
  have hne := byteO_ne h0 h1
  have hk : (UInt8.ofNat d.length).toNat = d.length := by rw [UInt8.toNat_ofNat']; omega
  rw [getO_part hne.1 hne.2 (by rw [hk]; simp), hc, hk, List.take_left, List.drop_left, join_new hn, if_pos]
  simp only [roomO, find_last hn, Bool.and_eq_true, decide_eq_true_eq]
  simp; omega
theorem get_parts_on {c : Int} {os : List Opn} (d : List UInt8) (h0 : 0 < c) (h1 : c < 255) (hl : os.length < 32) (hn : placeO os c = none) (p rest : List UInt8) (hp : p.length + d.length ≤ 512) :
    getO (partsL (byteO c) d ++ rest) (os ++ [(c, p)]) = getO rest (os ++ [(c, p ++ d)]) := by
  induction hk : d.length using Nat.strongRecOn generalizing d p with
  | _ n ih =>
    by_cases h : 255 < d.length
    · rw [parts_long h]
      have ht : (d.take 255).length = 255 := by simp; omega
      have := get_one_part (c := c) (os := os) (p := p) (d := d.take 255) (rest := partsL (byteO c) (d.drop 255) ++ rest) h0 h1 (by omega) hl hn (by omega)
      rw [ht] at this
      simp only [List.cons_append, List.append_assoc]
      rw [show (255 : UInt8) = UInt8.ofNat 255 from rfl, this, ih (d.drop 255).length (by simp; omega) (d.drop 255) (p ++ d.take 255) (by simp; omega) rfl, List.append_assoc, List.take_append_drop]
    · rw [parts_short h]
      exact get_one_part h0 h1 (by omega) hl hn hp
theorem get_parts {c : Int} {os : List Opn} (d : List UInt8) (h0 : 0 < c) (h1 : c < 255) (hl : os.length < 32) (hn : placeO os c = none) (rest : List UInt8) (hp : d.length ≤ 512) :
    getO (partsL (byteO c) d ++ rest) os = getO rest (os ++ [(c, d)]) := by
  by_cases h : 255 < d.length
  · rw [parts_long h]
    have ht : (d.take 255).length = 255 := by simp; omega
    have := get_new_part (c := c) (os := os) (d := d.take 255) (rest := partsL (byteO c) (d.drop 255) ++ rest) h0 h1 (by omega) hl hn
    rw [ht] at this
    simp only [List.cons_append, List.append_assoc]
    rw [show (255 : UInt8) = UInt8.ofNat 255 from rfl, this, get_parts_on _ h0 h1 hl hn _ _ (by simp; omega), List.take_append_drop]
  · rw [parts_short h]
    exact get_new_part h0 h1 (by omega) hl hn
theorem get_body (os pre : List Opn) (rest : List UInt8) (h : MayO (pre ++ os)) : getO (bodyO os ++ rest) pre = getO rest (pre ++ os) := by
  induction os generalizing pre with
  | nil => simp [bodyO]
  | cons o r ih =>
    obtain ⟨h1, h2, h3⟩ := h
    have ho := (okO_iff o).1 (h2 o (by simp))
    have hn : placeO pre o.1 = none := by
      rw [place_none]
      intro x hx e
      simp only [List.map_append, List.map_cons] at h3
      rw [List.nodup_append] at h3
      exact h3.2.2 x.1 (List.mem_map.2 ⟨x, hx, rfl⟩) o.1 (by simp) e
    have e : bodyO (o :: r) ++ rest = partsL (byteO o.1) o.2 ++ (bodyO r ++ rest) := by simp [bodyO]
    rw [e, get_parts o.2 ho.1 ho.2.1 (by simp at h1; omega) hn _ ho.2.2, ih]
    · simp
    · simpa using ⟨h1, h2, h3⟩
/-- What is put is told again; whatever stands behind. -/
theorem get_put {os : List Opn} (h : MayO os) (behind : List UInt8) : getO (putO os ++ behind) [] = some os := by
  have := get_body os [] (255 :: behind) (by simpa using h)
  rw [show putO os ++ behind = bodyO os ++ 255 :: behind by simp [putO], this, getO_end]
  simp
theorem body_snoc (os : List Opn) (o : Opn) : bodyO (os ++ [o]) = bodyO os ++ partsL (byteO o.1) o.2 := by simp [bodyO]
theorem parts_max (c : UInt8) {d : List UInt8} (h : d.length ≤ 512) : (partsL c d).length ≤ 518 := by
  rw [parts_len]; split <;> omega
theorem body_max {os : List Opn} (h : ∀ o ∈ os, o.2.length ≤ 512) : (bodyO os).length ≤ 518 * os.length := by
  induction os with
  | nil => simp [bodyO]
  | cons o r ih =>
    have := ih (fun x hx => h x (List.mem_cons_of_mem _ hx))
    have h1 := parts_max (byteO o.1) (h o (by simp))
    simp only [bodyO, List.flatMap_cons, List.length_append, List.length_cons] at *
    omega
/-- Put's answer. -/
def putA (os : List Opn) : List UInt8 × Int := if mayO os then (if 1200 < (putO os).length then ([], 601) else (putO os, 0)) else ([], 600)
/-- Get's answer. -/
def getA (s : List UInt8) : List Opn × Int := match getO s [] with | some os => (os, 0) | none => ([], 600)
end Go.Pin
