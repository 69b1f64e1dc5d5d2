/-
  Contracts of package conf's once, at lists of numbers and of texts: what is there once only.
-/
import Derived.Test.YtedbihckdbpebaaConfFew
import Derived.Test.YtedbihckdbpebaaBName
import Derived.Maps.OwnSet
import Derived.StringKeys
namespace Go.Proofs.Ytedbihckdbpebaa
open Go.ChangeShapes Go.WideShapes Go.ChangeAt Go.RowKit Go.Pin Go.PlainAid

theorem Try.cIntKeyed : Maps.Keyed Try.prog 3 := Maps.int_keyed Try.underlying3
theorem Try.cStrKeyed : Maps.Keyed Try.prog 9 := Maps.string_keyed Try.underlying9
theorem run_mkI (w : World) : (Instr.makeMap 83 none).run Try.prog w = .ok (.map (some w.heap.size)) (w.alloc (.map #[] 0)) := by
  simp [Instr.makeMap]
theorem run_mkS (w : World) : (Instr.makeMap 85 none).run Try.prog w = .ok (.map (some w.heap.size)) (w.alloc (.map #[] 0)) := by
  simp [Instr.makeMap]

/-- Block m is a set of the xs. -/
def Seen {α : Type} [DecidableEq α] (key : α → Lit) (k : TypeId) (w : World) (m : Nat) (xs : List α) : Prop :=
  ∃ D : DataW Unit, w.ownsMap Try.prog k unitElem m xs.length D ∧ (∀ c, Maps.has D (key c) = decide (c ∈ xs)) ∧ (Maps.size D = xs.length ↔ xs.Nodup)
theorem Seen.made {α : Type} [DecidableEq α] (key : α → Lit) (k : TypeId) (w : World) : Seen key k (w.alloc (.map #[] 0)) w.heap.size [] :=
  ⟨.map [], World.ownsMap_made _ _ _ _, fun c => by simp; rfl, by simp; rfl⟩
theorem Seen.put {α : Type} [DecidableEq α] {key : α → Lit} {k : TypeId} {w w2 : World} {m : Nat} {xs : List α} {D : DataW Unit} (K : Maps.Keyed Try.prog k) (inj : ∀ a b, key a = key b → a = b) (hown : w.ownsMap Try.prog k unitElem m xs.length D)
    (hh : ∀ c, Maps.has D (key c) = decide (c ∈ xs)) (hs : Maps.size D = xs.length ↔ xs.Nodup) {x : α} (hx : WideAt.IsKeyLit (key x)) (hown2 : w2.ownsMap Try.prog k unitElem m (xs.length + 1) (D.put (key x) (.agg []))) : Seen key k w2 m (xs ++ [x]) := by
  have hT := hown.tidy K
  have hM := hown.isMap
  have hle := hown.size_le
  refine ⟨_, by simpa using hown2, fun c => ?_, ?_⟩
  · by_cases hc : c = x
    · subst hc
      rw [Maps.has_put_same hM hx]; simp
    · rw [Maps.has_put_other (fun e => hc (inj _ _ e)), hh c]
      simp [hc]
  · rw [Maps.size_put hT, hh x]
    have hn : (xs ++ [x]).Nodup ↔ xs.Nodup ∧ x ∉ xs := by
      rw [List.nodup_append]
      constructor
      · rintro ⟨h1, _, h3⟩; exact ⟨h1, fun h => h3 x h x (by simp) rfl⟩
      · rintro ⟨h1, h2⟩; exact ⟨h1, by simp, fun a ha b hb e => by simp at hb; subst hb; subst e; exact h2 ha⟩
    rw [hn]
    by_cases hmem : x ∈ xs
    · simp [hmem]; omega
    · simp [hmem, ← hs]

def keyI (c : Int) : Lit := .int .i64 c
def keyS (l : List UInt8) : Lit := .string l
theorem keyI_inj : ∀ a b, keyI a = keyI b → a = b := fun a b e => by injection e
theorem keyS_inj : ∀ a b, keyS a = keyS b → a = b := fun a b e => by injection e

set_option maxRecDepth 100000 in
theorem onceI_none (a : Option Addr) (cap : Nat) (w : World) :
    Calls Try.prog 60 #[.slice a 0 cap] w fun e w' => e = .returned (.bool true) ∧ Below w.heap.size w w' := by
  have hmm := run_mkI
  have hown : (w.alloc (.map #[] 0)).ownsMap Try.prog 3 unitElem w.heap.size 0 (.map [] : DataW Unit) := World.ownsMap_made _ _ _ _
  have hlen : (Builtin.len_ #[83] 3 #[.map (some w.heap.size)]).run Try.prog (w.alloc (.map #[] 0)) = .ok (.int .i64 0) (w.alloc (.map #[] 0)) := hown.len Try.underlying83 3
  go_enter Try.func60, Try.ntmps60
  go_wp2
  go_rounds 1
  go_ret
  exact ⟨rfl, (Below.refl _ _).alloc (Nat.le_refl _) _⟩
set_option maxRecDepth 100000 in
set_option maxHeartbeats 400000 in
theorem onceI_from (x : Addr) (cap : Nat) (xs : List Int) (w : World) (hl : xs.length ≤ 1000000) (hx : ∀ c ∈ xs, (Lit.int .i64 c).wf = true) (h : ∀ j n, xs[j]? = some n → w.cell? (x.add j) = some (.int .i64 n)) :
    Calls Try.prog 60 #[.slice (some x) xs.length cap] w fun e w' => e = .returned (.bool (onceB xs)) ∧ Below w.heap.size w w' := by
  have hmm := run_mkI
  have H : Hid (∀ j, (hj : j < xs.length) → w.cell? (x.add j) = some (let n := xs[j]; .int .i64 n) ∧ (let c := xs[j]; (Lit.int .i64 c).wf = true)) := fun j hj => ⟨h j _ (List.getElem?_eq_getElem hj), hx _ (List.getElem_mem hj)⟩
  have Htk : Hid (∀ j, (hj : j < xs.length) → xs.take (j + 1) = xs.take j ++ [xs[j]]) := fun j hj => by rw [List.take_add_one, List.getElem?_eq_getElem hj]; rfl
  have HV : Hid (∀ n : Nat, (n = xs.length ↔ xs.Nodup) → ((n : Int) == (xs.length : Int)) = onceB xs) := fun n hn => by
    rw [onceB, Bool.eq_iff_iff, beq_iff_eq, decide_eq_true_eq, ← hn]; omega
  have HL : Hid (∀ (wr : World) (m n : Nat) (D : DataW Unit), wr.ownsMap Try.prog 3 unitElem m n D → (Builtin.len_ #[83] 3 #[.map (some m)]).run Try.prog wr = .ok (.int .i64 (Maps.size D)) wr) := fun wr m n D h => h.len Try.underlying83 3
  generalize onceB xs = V at *
  clear h hx
  go_enter Try.func60, Try.ntmps60
  go_wp2
  go_loopw [9] (fun i wr => ∃ j : Nat, j ≤ xs.length ∧ i = .int .i64 j ∧ Hid (Seen keyI 3 wr w.heap.size (xs.take j)) ∧ Below w.heap.size w wr) (fun i _ => xs.length - (intOf i).toNat)
  case atStart => exact ⟨0, Nat.zero_le _, rfl, Seen.made _ _ w, (Below.refl _ _).alloc (Nat.le_refl _) _⟩
  case round =>
    obtain ⟨j, hj, rfl, hS, B⟩ := hrel
    clear hmm
    by_cases hlt : j < xs.length
    · obtain ⟨hc, hd⟩ := H.out j hlt
      have htk := Htk.out j hlt
      have hc := (B.cell (World.block_lt_of_cell? w _ hc)).trans hc
      generalize xs[j] = c at *
      have HT : Hid (_ = _) := htk
      obtain ⟨D, hown, hh, hs⟩ := hS.out
      have hjl : (xs.take j).length = j := by rw [List.length_take]; omega
      have hk : keyOf Try.prog 3 (.int .i64 c) = some (keyI c) := Maps.keyOf_int_mk Try.underlying3 hd
      have Hh : Hid (_ ∧ _) := ⟨hh, hs⟩
      have HK : Hid (_) := hk
      have HO : Hid (_) := hown
      clear hh hs htk hS hd
      go_wp2_with (first | (at_mapUpdate; refine wpList_mapUpdate_own _ rfl _ _ _ 83 rfl 3 84 Try.cIntKeyed Try.underlying83 _ w.heap.size (xs.take j).length D rfl hown (by rw [hjl]; unfold maxLen; omega) _ _ _ rfl rfl hk _ [] unitElem_mk ?_; intro w2 hown2 hgrow2) | fail)
      have B2 : Below w.heap.size w w2 := B.grown hgrow2 B.size (fun i hi => by cases hi; exact Nat.le_refl _)
      have P2 : Hid (Seen keyI 3 w2 w.heap.size (xs.take (j + 1))) := by
        show Seen _ _ _ _ _
        rw [HT.out]
        exact Seen.put Try.cIntKeyed keyI_inj HO.out Hh.out.1 Hh.out.2 (Try.cIntKeyed.key HK.out) hown2
      clear hown2 hgrow2 hown hc
      go_wp2
      go_roundw
      case rel => exact ⟨j + 1, by omega, by go_num, P2, B2⟩
      case measure => simp [intOf]; omega
    · obtain rfl : j = xs.length := by omega
      obtain ⟨D, hown, _, hs⟩ := hS.out
      rw [List.take_length] at hown hs
      have hlen := HL.out _ _ _ _ hown
      have HVn : Hid (_) := HV.out _ hs
      clear hown hs
      go_wp2
      go_ret
      exact ⟨ret_bool HVn.out, B⟩
set_option maxRecDepth 100000 in
theorem onceS_none (a : Option Addr) (cap : Nat) (w : World) :
    Calls Try.prog 63 #[.slice a 0 cap] w fun e w' => e = .returned (.bool true) ∧ Below w.heap.size w w' := by
  have hmm := run_mkS
  have hown : (w.alloc (.map #[] 0)).ownsMap Try.prog 9 unitElem w.heap.size 0 (.map [] : DataW Unit) := World.ownsMap_made _ _ _ _
  have hlen : (Builtin.len_ #[85] 3 #[.map (some w.heap.size)]).run Try.prog (w.alloc (.map #[] 0)) = .ok (.int .i64 0) (w.alloc (.map #[] 0)) := hown.len Try.underlying85 3
  go_enter Try.func63, Try.ntmps63
  go_wp2
  go_rounds 1
  go_ret
  exact ⟨rfl, (Below.refl _ _).alloc (Nat.le_refl _) _⟩
set_option maxRecDepth 100000 in
set_option maxHeartbeats 400000 in
theorem onceS_from (x : Addr) (cap : Nat) (xs : List (List UInt8)) (w : World) (hl : xs.length ≤ 1000000) (hx : ∀ c ∈ xs, c.length ≤ maxLen) (h : ∀ j n, xs[j]? = some n → w.cell? (x.add j) = some (.string (mk n))) :
    Calls Try.prog 63 #[.slice (some x) xs.length cap] w fun e w' => e = .returned (.bool (onceB xs)) ∧ Below w.heap.size w w' := by
  have hmm := run_mkS
  have H : Hid (∀ j, (hj : j < xs.length) → w.cell? (x.add j) = some (let n := xs[j]; .string (mk n)) ∧ (let c := xs[j]; c.length ≤ maxLen)) := fun j hj => ⟨h j _ (List.getElem?_eq_getElem hj), hx _ (List.getElem_mem hj)⟩
  have Htk : Hid (∀ j, (hj : j < xs.length) → xs.take (j + 1) = xs.take j ++ [xs[j]]) := fun j hj => by rw [List.take_add_one, List.getElem?_eq_getElem hj]; rfl
  have HV : Hid (∀ n : Nat, (n = xs.length ↔ xs.Nodup) → ((n : Int) == (xs.length : Int)) = onceB xs) := fun n hn => by
    rw [onceB, Bool.eq_iff_iff, beq_iff_eq, decide_eq_true_eq, ← hn]; omega
  have HL : Hid (∀ (wr : World) (m n : Nat) (D : DataW Unit), wr.ownsMap Try.prog 9 unitElem m n D → (Builtin.len_ #[85] 3 #[.map (some m)]).run Try.prog wr = .ok (.int .i64 (Maps.size D)) wr) := fun wr m n D h => h.len Try.underlying85 3
  generalize onceB xs = V at *
  clear h hx
  go_enter Try.func63, Try.ntmps63
  go_wp2
  go_loopw [9] (fun i wr => ∃ j : Nat, j ≤ xs.length ∧ i = .int .i64 j ∧ Hid (Seen keyS 9 wr w.heap.size (xs.take j)) ∧ Below w.heap.size w wr) (fun i _ => xs.length - (intOf i).toNat)
  case atStart => exact ⟨0, Nat.zero_le _, rfl, Seen.made _ _ w, (Below.refl _ _).alloc (Nat.le_refl _) _⟩
  case round =>
    obtain ⟨j, hj, rfl, hS, B⟩ := hrel
    clear hmm
    by_cases hlt : j < xs.length
    · obtain ⟨hc, hd⟩ := H.out j hlt
      have htk := Htk.out j hlt
      have hc := (B.cell (World.block_lt_of_cell? w _ hc)).trans hc
      generalize xs[j] = c at *
      have HT : Hid (_ = _) := htk
      obtain ⟨D, hown, hh, hs⟩ := hS.out
      have hjl : (xs.take j).length = j := by rw [List.length_take]; omega
      have hk : keyOf Try.prog 9 (.string (mk c)) = some (keyS c) := WideMaps.keyOf_string_mk Try.underlying9 (by rw [size_mk]; exact hd)
      have Hh : Hid (_ ∧ _) := ⟨hh, hs⟩
      have HK : Hid (_) := hk
      have HO : Hid (_) := hown
      clear hh hs htk hS hd
      go_wp2_with (first | (at_mapUpdate; refine wpList_mapUpdate_own _ rfl _ _ _ 85 rfl 9 84 Try.cStrKeyed Try.underlying85 _ w.heap.size (xs.take j).length D rfl hown (by rw [hjl]; unfold maxLen; omega) _ _ _ rfl rfl hk _ [] unitElem_mk ?_; intro w2 hown2 hgrow2) | fail)
      have B2 : Below w.heap.size w w2 := B.grown hgrow2 B.size (fun i hi => by cases hi; exact Nat.le_refl _)
      have P2 : Hid (Seen keyS 9 w2 w.heap.size (xs.take (j + 1))) := by
        show Seen _ _ _ _ _
        rw [HT.out]
        exact Seen.put Try.cStrKeyed keyS_inj HO.out Hh.out.1 Hh.out.2 (Try.cStrKeyed.key HK.out) hown2
      clear hown2 hgrow2 hown hc
      go_wp2
      go_roundw
      case rel => exact ⟨j + 1, by omega, by go_num, P2, B2⟩
      case measure => simp [intOf]; omega
    · obtain rfl : j = xs.length := by omega
      obtain ⟨D, hown, _, hs⟩ := hS.out
      rw [List.take_length] at hown hs
      have hlen := HL.out _ _ _ _ hown
      have HVn : Hid (_) := HV.out _ hs
      clear hown hs
      go_wp2
      go_ret
      exact ⟨ret_bool HVn.out, B⟩

theorem onceI_c (a : Option Addr) (cap : Nat) (xs : List Int) (w : World) (hl : xs.length ≤ 1000000) (hx : ∀ c ∈ xs, (Lit.int .i64 c).wf = true) (h : NumsLie w a xs) :
    Calls Try.prog 60 #[.slice a xs.length cap] w fun e w' => e = .returned (.bool (onceB xs)) ∧ Below w.heap.size w w' := by
  rcases h with rfl | ⟨x, rfl, h⟩
  · exact onceI_none a cap w
  · exact onceI_from x cap xs w hl hx h
/-- The texts ls lie behind the address a. -/
def StrsLie (w : World) (a : Option Addr) (ls : List (List UInt8)) : Prop := ls = [] ∨ ∃ x, a = some x ∧ ∀ j l, ls[j]? = some l → w.cell? (x.add j) = some (.string (mk l))
theorem StrsLie.below {w w' : World} {a : Option Addr} {ls : List (List UInt8)} (h : StrsLie w a ls) (hb : Below w.heap.size w w') : StrsLie w' a ls := by
  rcases h with h | ⟨x, h1, h2⟩
  · exact .inl h
  · exact .inr ⟨x, h1, fun j n hj => (hb.cell (World.block_lt_of_cell? w _ (h2 j n hj))).trans (h2 j n hj)⟩
theorem onceS_c (a : Option Addr) (cap : Nat) (xs : List (List UInt8)) (w : World) (hl : xs.length ≤ 1000000) (hx : ∀ c ∈ xs, c.length ≤ maxLen) (h : StrsLie w a xs) :
    Calls Try.prog 63 #[.slice a xs.length cap] w fun e w' => e = .returned (.bool (onceB xs)) ∧ Below w.heap.size w w' := by
  rcases h with rfl | ⟨x, rfl, h⟩
  · exact onceS_none a cap w
  · exact onceS_from x cap xs w hl hx h

end Go.Proofs.Ytedbihckdbpebaa
