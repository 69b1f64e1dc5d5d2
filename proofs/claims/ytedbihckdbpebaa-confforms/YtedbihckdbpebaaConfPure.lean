/-
  Plain: configurations: which may be, and what they tell.
-/
import Derived.Test.YtedbihckdbpebaaRrPure
namespace Go.Pin

/-- A reservation: a client, its host. -/
structure Rsv where
  c : ByteArray
  h : Int
def zeroV : Rsv := ⟨⟨#[]⟩, 0⟩
/-- A configuration. -/
structure Cf where
  fi : Int
  la : Int
  ex : List Int
  rs : List Rsv
  ti : Int
  zo : ByteArray
  st : List Rec
def zeroC : Cf := ⟨0, 0, [], [], 0, ⟨#[]⟩, []⟩

def betw (a x b : Int) : Bool := decide (a ≤ x) && decide (x ≤ b)
theorem betw_iff (a x b : Int) : betw a x b = true ↔ a ≤ x ∧ x ≤ b := by simp [betw]
def rangeB (a b : Int) : Bool := decide (2 ≤ a) && decide (a ≤ b) && decide (b ≤ 254) && decide (b - a < 8)
theorem rangeB_iff (a b : Int) : rangeB a b = true ↔ 2 ≤ a ∧ a ≤ b ∧ b ≤ 254 ∧ b - a < 8 := by simp [rangeB, and_assoc]
/-- Is none of them there twice? -/
def onceB {α : Type} [DecidableEq α] (xs : List α) : Bool := decide xs.Nodup
def hostsB (a b : Int) (xs : List Int) : Bool := xs.all (fun x => betw a x b) && onceB xs
def clB (s : List UInt8) : Bool := betw 1 s.length 16
def clsB (xs : List (List UInt8)) : Bool := xs.all clB && onceB xs
def zoneB (z : ByteArray) : Bool := betw 1 (labsL (bs z)).length 4
def standT (t : Int) : Bool := decide (t = 1) || decide (t = 5) || decide (t = 16)
def statB (z : ByteArray) (r : Rec) : Bool := standT r.ty && mayR r && !(r.n.toList == z.toList) && underL (bs r.n) (bs z)
def exB (c : Cf) : Bool := decide (c.ex.length ≤ 8) && hostsB c.fi c.la c.ex
def hostsV (rs : List Rsv) : List Int := rs.map (·.h)
def clientsV (rs : List Rsv) : List (List UInt8) := rs.map fun r => bs r.c
def rsB (c : Cf) : Bool := decide (c.rs.length ≤ 4) && (hostsB c.fi c.la (hostsV c.rs) && clsB (clientsV c.rs))
def stB (c : Cf) : Bool := decide (c.st.length ≤ 8) && c.st.all (statB c.zo)
/-- May a configuration be? -/
def mayC (c : Cf) : Bool := rangeB c.fi c.la && exB c && rsB c && betw 1 c.ti 1048576 && zoneB c.zo && stB c
def usableC (c : Cf) (h : Int) : Bool := mayC c && betw c.fi h c.la && !(c.ex.contains h)
def byHost (h : Int) (r : Rsv) : Bool := decide (r.h = h)
def byClient (s : ByteArray) (r : Rsv) : Bool := r.c.toList == s.toList
/-- The reservation that is asked for. -/
def resC (c : Cf) (p : Rsv → Bool) : Rsv × Bool := if mayC c then (match c.rs.find? p with | some r => (r, true) | none => (zeroV, false)) else (zeroV, false)
def ownerC (c : Cf) (h : Int) : ByteArray × Bool := ((resC c (byHost h)).1.c, (resC c (byHost h)).2)
def reservedC (c : Cf) (s : ByteArray) : Int × Bool := ((resC c (byClient s)).1.h, (resC c (byClient s)).2)
def addrA (h : Int) : Int × Int := if betw 1 h 254 then (167772160 + h, 0) else (0, 1100)
def hostA (a : Int) : Int := if betw 167772161 a 167772414 then a - 167772160 else 0

theorem all_get {α : Type} {p : α → Bool} {xs : List α} (h : xs.all p = true) {j : Nat} {x : α} (hx : xs[j]? = some x) : p x = true := List.all_eq_true.1 h x (List.mem_of_getElem? hx)
theorem all_of_get {α : Type} {p : α → Bool} {xs : List α} (h : ∀ (j : Nat) (x : α), xs[j]? = some x → p x = true) : xs.all p = true := List.all_eq_true.2 fun x hx => by
  obtain ⟨j, hj, rfl⟩ := List.mem_iff_getElem.1 hx
  exact h j _ (List.getElem?_eq_getElem hj)
theorem all_not {α : Type} {p : α → Bool} {xs : List α} {j : Nat} {x : α} (hx : xs[j]? = some x) (h : p x = false) : xs.all p = false := by
  cases hh : xs.all p with
  | false => rfl
  | true => rw [all_get hh hx] at h; cases h

/-! ### the j-th, of what may be -/
theorem hostsB_mem {a b : Int} {xs : List Int} (h : hostsB a b xs = true) {x : Int} (hx : x ∈ xs) : a ≤ x ∧ x ≤ b := by
  simp only [hostsB, Bool.and_eq_true] at h
  exact (betw_iff _ _ _).1 (List.all_eq_true.1 h.1 x hx)
theorem mayC_iff (c : Cf) : mayC c = true ↔ rangeB c.fi c.la = true ∧ exB c = true ∧ rsB c = true ∧ betw 1 c.ti 1048576 = true ∧ zoneB c.zo = true ∧ stB c = true := by
  simp [mayC, and_assoc]
/-- Lists as in a configuration that may be: the places of hosts and of clients tell each other. -/
theorem find_one {c : Cf} (hm : mayC c = true) {p : Rsv → Bool} (hp : ∀ r s, r ∈ c.rs → s ∈ c.rs → p r = true → p s = true → r = s) {r : Rsv} (hr : r ∈ c.rs) (h : p r = true) : resC c p = (r, true) := by
  unfold resC
  rw [if_pos hm]
  cases hf : c.rs.find? p with
  | none =>
    have := List.find?_eq_none.1 hf r hr
    exact absurd h this
  | some s =>
    have h1 := List.find?_some hf
    have h2 := List.mem_of_find?_eq_some hf
    rw [hp s r h2 hr h1 h]
theorem nodup_inj {α β : Type} {f : α → β} {l : List α} (h : (l.map f).Nodup) {x y : α} (hx : x ∈ l) (hy : y ∈ l) (e : f x = f y) : x = y := by
  induction l with
  | nil => cases hx
  | cons a l ih =>
    simp only [List.map_cons, List.nodup_cons, List.mem_map, not_exists, not_and] at h
    rcases List.mem_cons.1 hx with e1 | hx1
    · rcases List.mem_cons.1 hy with e2 | hy1
      · rw [e1, e2]
      · exact absurd (e.symm.trans (by rw [e1])) (h.1 y hy1)
    · rcases List.mem_cons.1 hy with e2 | hy1
      · exact absurd (e.trans (by rw [e2])) (h.1 x hx1)
      · exact ih h.2 hx1 hy1
theorem byHost_one {c : Cf} (hm : mayC c = true) (h : Int) : ∀ r s, r ∈ c.rs → s ∈ c.rs → byHost h r = true → byHost h s = true → r = s := by
  intro r s hr hs h1 h2
  obtain ⟨_, _, hrs, _⟩ := (mayC_iff c).1 hm
  simp only [rsB, hostsB, clsB, onceB, Bool.and_eq_true, decide_eq_true_eq] at hrs
  simp only [byHost, decide_eq_true_eq] at h1 h2
  exact nodup_inj (f := fun r : Rsv => r.h) (l := c.rs) hrs.2.1.2 hr hs (h1.trans h2.symm)
theorem byClient_one {c : Cf} (hm : mayC c = true) (n : ByteArray) : ∀ r s, r ∈ c.rs → s ∈ c.rs → byClient n r = true → byClient n s = true → r = s := by
  intro r s hr hs h1 h2
  obtain ⟨_, _, hrs, _⟩ := (mayC_iff c).1 hm
  simp only [rsB, hostsB, clsB, onceB, Bool.and_eq_true, decide_eq_true_eq] at hrs
  simp only [byClient, beq_iff_eq, text_inj] at h1 h2
  exact nodup_inj (f := fun r : Rsv => bs r.c) (l := c.rs) hrs.2.2.2 hr hs (by rw [h1, h2])
/-- Who has a host reserved has that one. -/
theorem owner_back {c : Cf} {h : Int} (ho : (ownerC c h).2 = true) : reservedC c (ownerC c h).1 = (h, true) := by
  have hm : mayC c = true := by
    cases hm : mayC c with
    | true => rfl
    | false => simp [ownerC, resC, hm] at ho
  have hr : ∃ r, c.rs.find? (byHost h) = some r := by
    cases hf : c.rs.find? (byHost h) with
    | some r => exact ⟨r, rfl⟩
    | none => simp [ownerC, resC, hm, hf] at ho
  obtain ⟨r, hr⟩ := hr
  have h1 := List.find?_some hr
  have h2 := List.mem_of_find?_eq_some hr
  have e1 : resC c (byHost h) = (r, true) := find_one hm (byHost_one hm h) h2 h1
  have e2 : resC c (byClient r.c) = (r, true) := find_one hm (byClient_one hm r.c) h2 (by simp [byClient])
  simp only [ownerC, reservedC, e1, e2]
  simp only [byHost, decide_eq_true_eq] at h1
  rw [h1]
theorem owner_no {c : Cf} (h : Int) (hm : mayC c = false) : ownerC c h = (⟨#[]⟩, false) := by simp [ownerC, resC, hm, zeroV]
theorem reserved_no {c : Cf} (s : ByteArray) (hm : mayC c = false) : reservedC c s = (0, false) := by simp [reservedC, resC, hm, zeroV]
theorem usable_no {c : Cf} (h : Int) (hm : mayC c = false) : usableC c h = false := by simp [usableC, hm]

/-! ### rows turned round -/
def turnedC (c : Cf) : Cf := { c with ex := c.ex.reverse, rs := c.rs.reverse }
theorem nodup_rev {α : Type} (xs : List α) : xs.reverse.Nodup ↔ xs.Nodup := by
  unfold List.Nodup
  rw [List.pairwise_reverse]
  exact ⟨fun h => h.imp fun h e => h e.symm, fun h => h.imp fun h e => h e.symm⟩
theorem onceB_rev {α : Type} [DecidableEq α] (xs : List α) : onceB xs.reverse = onceB xs := decide_eq_decide.2 (nodup_rev xs)
theorem hostsB_rev (a b : Int) (xs : List Int) : hostsB a b xs.reverse = hostsB a b xs := by simp only [hostsB, onceB_rev, List.all_reverse]
theorem clsB_rev (xs : List (List UInt8)) : clsB xs.reverse = clsB xs := by simp only [clsB, onceB_rev, List.all_reverse]
theorem turned_may (c : Cf) : mayC (turnedC c) = mayC c := by
  simp only [mayC, turnedC, exB, rsB, stB, hostsV, clientsV, List.map_reverse, hostsB_rev, clsB_rev, List.length_reverse]
  rfl
theorem turned_usable (c : Cf) (h : Int) : usableC (turnedC c) h = usableC c h := by
  unfold usableC
  rw [turned_may]
  simp [turnedC]
theorem turned_res (c : Cf) (p : Rsv → Bool) (hp : mayC c = true → ∀ r s, r ∈ c.rs → s ∈ c.rs → p r = true → p s = true → r = s) : resC (turnedC c) p = resC c p := by
  cases hm : mayC c with
  | false => simp [resC, turned_may, hm]
  | true =>
    cases hf : c.rs.find? p with
    | some r =>
      have h1 := List.find?_some hf
      have h2 := List.mem_of_find?_eq_some hf
      rw [find_one hm (hp hm) h2 h1]
      refine find_one (by rw [turned_may]; exact hm) (fun r s hr hs => hp hm r s (by simpa [turnedC] using hr) (by simpa [turnedC] using hs)) (by simpa [turnedC] using h2) h1
    | none =>
      have h0 := List.find?_eq_none.1 hf
      have h3 : (turnedC c).rs.find? p = none := List.find?_eq_none.2 fun x hx => h0 x (by simpa [turnedC] using hx)
      unfold resC
      rw [turned_may, h3, hf]
theorem turned_owner (c : Cf) (h : Int) : ownerC (turnedC c) h = ownerC c h := by
  unfold ownerC; rw [turned_res c _ fun hm => byHost_one hm h]
theorem turned_reserved (c : Cf) (s : ByteArray) : reservedC (turnedC c) s = reservedC c s := by
  unfold reservedC; rw [turned_res c _ fun hm => byClient_one hm s]

/-! ### addresses -/
theorem addr_back {h : Int} (h0 : 1 ≤ h) (h1 : h ≤ 254) : addrA h = (167772160 + h, 0) ∧ hostA (167772160 + h) = h := by
  refine ⟨by simp [addrA, betw, h0, h1], ?_⟩
  have : betw 167772161 (167772160 + h) 167772414 = true := (betw_iff _ _ _).2 ⟨by omega, by omega⟩
  simp only [hostA, this, if_true]; omega

end Go.Pin
