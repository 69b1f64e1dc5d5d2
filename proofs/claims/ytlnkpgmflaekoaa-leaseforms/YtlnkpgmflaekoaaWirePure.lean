/-
  Plain lemmas that speak of no program: names put into a message, with pointers to those that stand there; names told out of one.
-/
import Derived.Test.YtlnkpgmflaekoaaNamePlain
namespace Go.Pin

/-! ### Put -/
abbrev Kn := List UInt8 × Int
/-- Where the first of these names stands. -/
def findK : List Kn → List UInt8 → Option Int
  | [], _ => none
  | k :: r, x => if k.1 = x then some k.2 else findK r x
/-- May a name be known there? -/
def knownL (k : Kn) : Bool := !decide (k.1 = []) && mayL k.1 && decide (0 ≤ k.2) && decide (k.2 < 16384)
/-- Two bytes of a number, the highest first. -/
def be2 (x : Int) : List UInt8 := [UInt8.ofNat (x / 256).toNat, UInt8.ofNat (x % 256).toNat]
/-- The bytes of labels. -/
def putS (ks : List Kn) : List (List UInt8) → List UInt8
  | [] => [0]
  | p :: r => match findK ks (join (p :: r)) with
    | some a => be2 (49152 + a)
    | none => UInt8.ofNat p.length :: (p ++ putS ks r)
/-- What is known from then on. -/
def putN (ks : List Kn) : Int → List (List UInt8) → List Kn
  | _, [] => []
  | at_, p :: r => match findK ks (join (p :: r)) with
    | some _ => []
    | none => (if at_ < 16384 then [(join (p :: r), at_)] else []) ++ putN ks (at_ + 1 + p.length) r
def mayPutL (at_ : Int) (ks : List Kn) (name : List UInt8) : Bool := decide (0 ≤ at_) && decide (at_ ≤ 65535) && mayL name && ks.all knownL

/-! ### Get -/
/-- Where the reader stands: at, where its row began, where it goes on (0: not clear yet), the labels. -/
structure St where
  at_ : Nat
  row : Nat
  en : Nat
  labs : List (List UInt8)
def goOn (en x : Nat) : Nat := if en = 0 then x else en
/-- One step: an error's number, or whether that was the end. -/
def stepWire (s : List UInt8) (x : St) : Sum Int (Bool × St) :=
  match s[x.at_]? with
  | none => .inl 301
  | some c0 =>
    let c := c0.toNat
    if c = 0 then .inr (true, { x with en := goOn x.en (x.at_ + 1) })
    else if c ≤ 8 then
      if s.length < x.at_ + 1 + c then .inl 301
      else if okL (foldL ((s.drop (x.at_ + 1)).take c)) = true ∧ x.labs.length ≠ 8 then
        .inr (false, { x with at_ := x.at_ + 1 + c, labs := x.labs ++ [foldL ((s.drop (x.at_ + 1)).take c)] })
      else .inl 300
    else if 192 ≤ c then
      match s[x.at_ + 1]? with
      | none => .inl 301
      | some d =>
        let p := (c - 192) * 256 + d.toNat
        if x.row ≤ p then .inl 300 else .inr (false, { x with at_ := p, row := p, en := goOn x.en (x.at_ + 2) })
    else .inl 300
def runWire : Nat → List UInt8 → St → Sum Int St
  | 0, _, _ => .inl 0
  | f + 1, s, x => match stepWire s x with
    | .inl e => .inl e
    | .inr (true, y) => .inr y
    | .inr (false, y) => runWire f s y
def muWire (s : List UInt8) (x : St) : Nat := x.row * (s.length + 1) + (s.length - x.at_)
/-- All of it from here. -/
def allWire (s : List UInt8) (x : St) : Sum Int St := runWire (muWire s x + 1) s x
def endWire : Sum Int St → List UInt8 × Int × Int
  | .inl e => ([], 0, e)
  | .inr y => (join y.labs, y.en, 0)
def getL (s : List UInt8) (at_ : Nat) : List UInt8 × Int × Int := endWire (allWire s ⟨at_, at_, 0, []⟩)

theorem wstep_mu {s : List UInt8} {x y : St} (h : stepWire s x = .inr (false, y)) : muWire s y < muWire s x := by
  unfold stepWire at h
  split at h
  · cases h
  · rename_i c0 hc
    have hat : x.at_ < s.length := (List.getElem?_eq_some_iff.1 hc).1
    simp only at h
    split at h
    · simp at h
    · split at h
      · rename_i h0 h8
        split at h
        · cases h
        · split at h
          · simp only [Sum.inr.injEq, Prod.mk.injEq, true_and] at h
            subst h
            simp only [muWire]
            omega
          · cases h
      · split at h
        · split at h
          · cases h
          · split at h
            · cases h
            · rename_i hp
              simp only [Sum.inr.injEq, Prod.mk.injEq, true_and] at h
              subst h
              simp only [muWire]
              generalize (c0.toNat - 192) * 256 + _ = p at hp ⊢
              have h1 : p + 1 ≤ x.row := by omega
              have h2 : (p + 1) * (s.length + 1) ≤ x.row * (s.length + 1) := Nat.mul_le_mul_right _ h1
              rw [Nat.add_mul, Nat.one_mul] at h2
              omega
        · cases h

theorem run_fuel (s : List UInt8) : ∀ (f g : Nat) (x : St), muWire s x < f → muWire s x < g → runWire f s x = runWire g s x
  | 0, _, _, h, _ => by omega
  | _, 0, _, _, h => by omega
  | f + 1, g + 1, x, hf, hg => by
    unfold runWire
    split
    · rfl
    · rfl
    · rename_i y hy
      have := wstep_mu hy
      exact run_fuel s f g y (by omega) (by omega)

theorem allWire_step (s : List UInt8) (x : St) : allWire s x = match stepWire s x with
    | .inl e => .inl e
    | .inr (true, y) => .inr y
    | .inr (false, y) => allWire s y := by
  unfold allWire
  rw [runWire]
  split
  · rfl
  · rfl
  · rename_i y hy
    exact run_fuel s _ _ y (wstep_mu hy) (by omega)
theorem allWire_err {s : List UInt8} {x : St} {e : Int} (h : stepWire s x = .inl e) : allWire s x = .inl e := by rw [allWire_step, h]
theorem allWire_end {s : List UInt8} {x y : St} (h : stepWire s x = .inr (true, y)) : allWire s x = .inr y := by rw [allWire_step, h]
theorem allWire_on {s : List UInt8} {x y : St} (h : stepWire s x = .inr (false, y)) : allWire s x = allWire s y := by rw [allWire_step, h]

/-! ### what a step is, case by case -/
theorem wstep_past {s : List UInt8} {x : St} (h : s.length ≤ x.at_) : stepWire s x = .inl 301 := by
  unfold stepWire; rw [List.getElem?_eq_none h]
theorem wstep_zero {s : List UInt8} {x : St} {c : UInt8} (hc : s[x.at_]? = some c) (h : c.toNat = 0) : stepWire s x = .inr (true, { x with en := goOn x.en (x.at_ + 1) }) := by
  unfold stepWire; simp only [hc, h, if_true]
theorem wstep_short {s : List UInt8} {x : St} {c : UInt8} (hc : s[x.at_]? = some c) (h0 : c.toNat ≠ 0) (h8 : c.toNat ≤ 8) (h : s.length < x.at_ + 1 + c.toNat) : stepWire s x = .inl 301 := by
  unfold stepWire; simp only [hc]; rw [if_neg h0, if_pos h8, if_pos h]
theorem wstep_label {s : List UInt8} {x : St} {c : UInt8} (hc : s[x.at_]? = some c) (h0 : c.toNat ≠ 0) (h8 : c.toNat ≤ 8) (h : x.at_ + 1 + c.toNat ≤ s.length) (hok : okL (foldL ((s.drop (x.at_ + 1)).take c.toNat)) = true) (hl : x.labs.length ≠ 8) :
    stepWire s x = .inr (false, { x with at_ := x.at_ + 1 + c.toNat, labs := x.labs ++ [foldL ((s.drop (x.at_ + 1)).take c.toNat)] }) := by
  unfold stepWire; simp only [hc]; rw [if_neg h0, if_pos h8, if_neg (by omega), if_pos ⟨hok, hl⟩]
theorem wstep_form {s : List UInt8} {x : St} {c : UInt8} (hc : s[x.at_]? = some c) (h0 : c.toNat ≠ 0) (h8 : c.toNat ≤ 8) (h : x.at_ + 1 + c.toNat ≤ s.length) (hno : okL (foldL ((s.drop (x.at_ + 1)).take c.toNat)) = false ∨ x.labs.length = 8) : stepWire s x = .inl 300 := by
  unfold stepWire; simp only [hc]; rw [if_neg h0, if_pos h8, if_neg (by omega), if_neg]
  rintro ⟨h1, h2⟩
  rcases hno with h | h
  · rw [h] at h1; cases h1
  · exact h2 h
theorem wstep_half {s : List UInt8} {x : St} {c : UInt8} (hc : s[x.at_]? = some c) (h : 192 ≤ c.toNat) (hl : s.length < x.at_ + 2) : stepWire s x = .inl 301 := by
  have hat : x.at_ < s.length := (List.getElem?_eq_some_iff.1 hc).1
  unfold stepWire; simp only [hc]; rw [if_neg (by omega), if_neg (by omega), if_pos h, List.getElem?_eq_none (by omega)]
theorem wstep_point {s : List UInt8} {x : St} {c d : UInt8} (hc : s[x.at_]? = some c) (hd : s[x.at_ + 1]? = some d) (h : 192 ≤ c.toNat) (hp : (c.toNat - 192) * 256 + d.toNat < x.row) :
    stepWire s x = .inr (false, { x with at_ := (c.toNat - 192) * 256 + d.toNat, row := (c.toNat - 192) * 256 + d.toNat, en := goOn x.en (x.at_ + 2) }) := by
  unfold stepWire; simp only [hc, hd]; rw [if_neg (by omega), if_neg (by omega), if_pos h, if_neg (by omega)]
theorem wstep_far {s : List UInt8} {x : St} {c d : UInt8} (hc : s[x.at_]? = some c) (hd : s[x.at_ + 1]? = some d) (h : 192 ≤ c.toNat) (hp : x.row ≤ (c.toNat - 192) * 256 + d.toNat) : stepWire s x = .inl 300 := by
  unfold stepWire; simp only [hc, hd]; rw [if_neg (by omega), if_neg (by omega), if_pos h, if_pos hp]
theorem wstep_none {s : List UInt8} {x : St} {c : UInt8} (hc : s[x.at_]? = some c) (h8 : 8 < c.toNat) (h : c.toNat < 192) : stepWire s x = .inl 300 := by
  unfold stepWire; simp only [hc]; rw [if_neg (by omega), if_neg (by omega), if_neg (by omega)]

/-! ### a block just made -/
theorem new_cell (w : World) (cs : Array Value) (t : TypeId) (j : Nat) (v : Value) (h : cs[j]? = some v) : (w.alloc (.cells cs t)).cell? ⟨w.heap.size, j, none⟩ = some v := by
  have hh : (w.alloc (.cells cs t)).heap[w.heap.size]? = some (.cells cs t) := heap_alloc_new w _
  simp only [World.cell?, hh]
  exact h
theorem heap_set {w : World} {c j : Nat} {cs : Array Value} {t : TypeId} {fr : Nat × Nat} {v : Value} (h : w.heap[c]? = some (.cells cs t fr)) : (w.setCell ⟨c, j, none⟩ v).heap[c]? = some (.cells (cs.setIfInBounds j v) t fr) := by
  simp [World.setCell, Array.getElem?_modify, h]
theorem new_frozen (w : World) (cs : Array Value) (t : TypeId) (j : Nat) : (w.alloc (.cells cs t)).frozen? ⟨w.heap.size, j, none⟩ = false := by
  have hh : (w.alloc (.cells cs t)).heap[w.heap.size]? = some (.cells cs t) := heap_alloc_new w _
  simp only [World.frozen?, hh]
  simp

end Go.Pin
