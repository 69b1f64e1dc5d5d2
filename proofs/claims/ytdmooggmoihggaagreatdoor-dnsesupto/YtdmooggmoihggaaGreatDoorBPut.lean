/-
  Several texts in one.
-/
import Derived.Test.YtdmooggmoihggaaGreatDoorBWire
import Derived.Maps.OwnSet
import Derived.DeepKeys4
import Derived.Deep.RegionWith
import Derived.Test.YtdmooggmoihggaaGreatDoorBBe
import Derived.Test.YtdmooggmoihggaaGreatDoorBName
/-
  The map of package wire's placesOf: where each known name stands; contract of placesOf.
-/
namespace Go.Proofs.YtdmooggmoihggaaGreatDoor
set_option maxRecDepth 100000
open Go.ChangeShapes Go.WideShapes Go.ChangeAt Go.RowKit Go.Pin Go.PlainAid

theorem Tryz.laid : laidOutB Tryz.prog = true := by kernel_rfl
theorem Tryz.tailRow : (154 : TypeId) < Tryz.prog.types.size := of_decide_eq_true (by kernel_rfl)
theorem Tryz.tailWide : (match Tryz.prog.underlying 154 with | some (.array _ _) | some (.struct _) => true | _ => false) = true := by kernel_rfl
set_option maxRecDepth 100000 in
theorem Tryz.tailKeyed : Maps.Keyed Tryz.prog 154 := Maps.Keyed.of_law (deep_law_laid Tryz.laid (m := 3) (by omega) Tryz.tailRow (by kernel_rfl) Tryz.tailWide)
theorem Tryz.zeroInt (w : World) : (zeroValue 3).run Tryz.prog w = .ok (.int .i64 0) w := by kernel_rfl
theorem Tryz.tailKeyType : Tryz.prog.keyType 154 = true := by kernel_rfl
theorem Tryz.tailCells : Tryz.prog.cellsOf 154 = 2 := by kernel_rfl
theorem Tryz.strCells : Tryz.prog.cellsOf 9 = 1 := by kernel_rfl
theorem Tryz.typesBig : ∃ n, Tryz.prog.types.size = n + 2 := ⟨Tryz.prog.types.size - 2, by have h : (154 : Nat) < Tryz.prog.types.size := Tryz.tailRow; omega⟩

theorem key_is (l r : ByteArray) (hl : l.size ≤ maxLen) (hr : r.size ≤ maxLen) : ∃ kl, keyOf Tryz.prog 154 (.agg #[.string l, .string r]) = some kl := by
  obtain ⟨n, hn⟩ := Tryz.typesBig
  have hu := Tryz.underlying154
  have hs := Tryz.underlying9
  have hf : (Value.agg #[.string l, .string r]).formed Tryz.prog 154 = true := by simp [Value.formed, hu, Tryz.tailCells]
  have hstr : ∀ s : ByteArray, s.size ≤ maxLen → Tryz.prog.keyLits (n + 2) 9 [.string s] = some [.string s.data.toList] := by
    intro s h
    unfold Program.keyLits
    simp [hs, h]
  have hk : Tryz.prog.keyLits (n + 2 + 1) 154 (Value.agg #[.string l, .string r]).cells.toList = some [.string l.data.toList, .string r.data.toList] := by
    unfold Program.keyLits
    simp [hu, Value.cells, Tryz.tailCells, Tryz.strCells, hstr l hl, hstr r hr]
  refine ⟨.string (keyBytes [.string l.data.toList, .string r.data.toList]), ?_⟩
  unfold keyOf
  rw [hu]
  simp only [Tryz.tailKeyType, hf, hn, hk]
  rfl

/-- The first of ks with this label and this rest. -/
def findT : List Kn → List UInt8 → List UInt8 → Option Int
  | [], _, _ => none
  | k :: r, l, m => if headL k.1 = l ∧ tailL k.1 = m then some k.2 else findT r l m
theorem findT_snoc (ks : List Kn) (k : Kn) (l m : List UInt8) : findT (ks ++ [k]) l m = match findT ks l m with | some a => some a | none => if headL k.1 = l ∧ tailL k.1 = m then some k.2 else none := by
  induction ks with
  | nil => simp [findT]
  | cons x r ih =>
    simp only [List.cons_append, findT]
    by_cases h : headL x.1 = l ∧ tailL x.1 = m
    · simp [h]
    · simp only [h, if_false]; exact ih

theorem head_tail {y : List UInt8} (hm : mayL y = true) (hy : y ≠ []) : y = if tailL y = [] then headL y else headL y ++ 46 :: tailL y := by
  have hl := labsL_yes hm hy
  cases hs : split y with
  | nil => exact absurd hs (split_ne y)
  | cons p r =>
    have hp : okL p = true := labsL_ok (l := y) (by rw [hl, hs]; simp)
    have hj := join_split y
    rw [hs] at hj
    have hd : (46 : UInt8) ∉ p := okL_nodot hp
    by_cases hr : r = []
    · subst hr
      simp only [join] at hj
      obtain ⟨h1, h2⟩ := head_miss y (by rw [← hj]; exact hd)
      rw [h2, if_pos rfl, h1]
    · rw [join_cons p r hr] at hj
      obtain ⟨h1, h2⟩ := head_hit p (join r) hd
      rw [hj] at h1 h2
      have hne : join r ≠ [] := join_ne hr (fun x hx => labsL_ok (l := y) (by rw [hl, hs]; exact List.mem_cons_of_mem _ hx))
      rw [h1, h2, if_neg hne, hj]
theorem findT_is (ks : List Kn) (x : List UInt8) (hm : mayL x = true) (hx : x ≠ []) (hk : ks.all knownL = true) : findT ks (headL x) (tailL x) = findK ks x := by
  induction ks with
  | nil => rfl
  | cons k r ih =>
    simp only [List.all_cons, Bool.and_eq_true] at hk
    have hkk : mayL k.1 = true ∧ k.1 ≠ [] := by
      rcases known_cases k with ⟨h, _⟩ | ⟨h, _⟩ | ⟨h, _⟩ | ⟨h, _⟩ | ⟨_, h1, h2, _⟩
      · rw [hk.1] at h; cases h
      · rw [hk.1] at h; cases h
      · rw [hk.1] at h; cases h
      · rw [hk.1] at h; cases h
      · exact ⟨h2, h1⟩
    simp only [findT, findK]
    by_cases he : k.1 = x
    · rw [if_pos he, if_pos ⟨by rw [he], by rw [he]⟩]
    · rw [if_neg he, if_neg, ih hk.2]
      rintro ⟨h1, h2⟩
      apply he
      rw [head_tail hkk.1 hkk.2, head_tail hm hx, h1, h2]

/-- Block b is a map that tells f. -/
def Places (w : World) (b n : Nat) (f : List UInt8 → List UInt8 → Option Int) : Prop :=
  ∃ D : DataW Unit, w.ownsMap Tryz.prog 154 (plainElem Tryz.prog 3) b n D ∧ ∀ l r kl, keyOf Tryz.prog 154 (.agg #[.string (mk l), .string (mk r)]) = some kl →
    Maps.has D kl = (f l r).isSome ∧ D.atKey kl (.lit (.int .i64 0)) = .lit (.int .i64 ((f l r).getD 0))
theorem Places.lt {w : World} {b n : Nat} {f : List UInt8 → List UInt8 → Option Int} (h : Places w b n f) : b < w.heap.size := by
  obtain ⟨D, hown, _⟩ := h
  exact hown.lt
theorem Places.keep {w w' : World} {b n : Nat} {f : List UInt8 → List UInt8 → Option Int} (h : Places w b n f) (he : w'.heap[b]? = w.heap[b]?) : Places w' b n f := by
  obtain ⟨D, ⟨es, clock, hb, r⟩, hf⟩ := h
  exact ⟨D, ⟨es, clock, he.trans hb, r⟩, hf⟩
theorem own_keep {w w' : World} {b n : Nat} {D : DataW Unit} (h : w.ownsMap Tryz.prog 154 (plainElem Tryz.prog 3) b n D) (he : w'.heap[b]? = w.heap[b]?) : w'.ownsMap Tryz.prog 154 (plainElem Tryz.prog 3) b n D := by
  obtain ⟨es, clock, hb, r⟩ := h
  exact ⟨es, clock, he.trans hb, r⟩
theorem Places.below {w w' : World} {b n : Nat} {f : List UInt8 → List UInt8 → Option Int} (h : Places w b n f) {m : Nat} (hb : Below m w w') (hm : b < m) (_hw : m ≤ w.heap.size) : Places w' b n f := h.keep (hb.block b hm)
theorem places_made (w : World) : Places (w.alloc (.map #[] 0)) w.heap.size 0 (fun _ _ => none) :=
  ⟨.map [], World.ownsMap_made _ _ _ _, fun _ _ _ _ => ⟨rfl, rfl⟩⟩
theorem run_mk (n : Int) (w : World) : (Instr.makeMap 150 (some (.int .i64 n))).run Tryz.prog w = .ok (.map (some w.heap.size)) (w.alloc (.map #[] 0)) := by
  simp [Instr.makeMap, run_underlying Tryz.underlying150]
  rfl
theorem keyLit_inj {a b c d : List UInt8} {kl : Lit} (h1 : keyOf Tryz.prog 154 (.agg #[.string (mk a), .string (mk b)]) = some kl) (h2 : keyOf Tryz.prog 154 (.agg #[.string (mk c), .string (mk d)]) = some kl) : a = c ∧ b = d := by
  have := Tryz.tailKeyed.inj h1 h2
  simp only [Value.agg.injEq, Array.mk.injEq, List.cons.injEq, Value.string.injEq, and_true] at this
  exact ⟨mk_inj this.1, mk_inj this.2⟩
theorem places_put {w : World} {b n : Nat} {D : DataW Unit} {f : List UInt8 → List UInt8 → Option Int} {l r : List UInt8} {kl : Lit} {c : Int}
    (hown : w.ownsMap Tryz.prog 154 (plainElem Tryz.prog 3) b n (D.put kl (.lit (.int .i64 c)))) (hD : Maps.IsMap D) (hkl : keyOf Tryz.prog 154 (.agg #[.string (mk l), .string (mk r)]) = some kl)
    (hf : ∀ l r kl, keyOf Tryz.prog 154 (.agg #[.string (mk l), .string (mk r)]) = some kl → Maps.has D kl = (f l r).isSome ∧ D.atKey kl (.lit (.int .i64 0)) = .lit (.int .i64 ((f l r).getD 0))) :
    Places w b n (fun x y => if x = l ∧ y = r then some c else f x y) := by
  refine ⟨_, hown, fun x y k2 h2 => ?_⟩
  by_cases he : x = l ∧ y = r
  · obtain ⟨rfl, rfl⟩ := he
    rw [hkl] at h2
    cases h2
    have hlit := Tryz.tailKeyed.key hkl
    rw [Maps.has_put_same hD hlit, Maps.atKey_put_same hD hlit]
    simp
  · have hne : k2 ≠ kl := by
      rintro rfl
      exact he (keyLit_inj h2 hkl)
    simp only [he, if_false]
    rw [Maps.has_put_other hne, Maps.atKey_put_other hne]
    exact hf x y k2 h2

theorem places_next {w : World} {b n : Nat} {ks : List Kn} {k : Kn} (h : Places w b n (findT ks)) (hs : (findT ks (headL k.1) (tailL k.1)).isSome = true) : Places w b (n + 1) (findT (ks ++ [k])) := by
  obtain ⟨D, hown, hf⟩ := h
  refine ⟨D, hown.mono (by omega), fun l r kl hkl => ?_⟩
  have : findT (ks ++ [k]) l r = findT ks l r := by
    rw [findT_snoc]
    cases hh : findT ks l r with
    | some a => rfl
    | none =>
      simp only
      rw [if_neg]
      rintro ⟨rfl, rfl⟩
      rw [hh] at hs; cases hs
  rw [this]
  exact hf l r kl hkl
theorem places_more {w : World} {b n : Nat} {ks : List Kn} {k : Kn} (hs : findT ks (headL k.1) (tailL k.1) = none) (h : Places w b n (fun x y => if x = headL k.1 ∧ y = tailL k.1 then some k.2 else findT ks x y)) : Places w b n (findT (ks ++ [k])) := by
  have : findT (ks ++ [k]) = (fun x y => if x = headL k.1 ∧ y = tailL k.1 then some k.2 else findT ks x y) := by
    funext l r
    rw [findT_snoc]
    by_cases he : l = headL k.1 ∧ r = tailL k.1
    · obtain ⟨rfl, rfl⟩ := he
      simp [hs]
    · rw [if_neg he]
      cases hh : findT ks l r with
      | some a => rfl
      | none => simp only; rw [if_neg (fun e => he ⟨e.1.symm, e.2.symm⟩)]
  rw [this]; exact h
theorem head_len (l : List UInt8) : (headL l).length ≤ l.length := by unfold headL; exact (List.takeWhile_sublist _).length_le
theorem tail_len (l : List UInt8) : (tailL l).length ≤ l.length := by unfold tailL; exact ((List.drop_sublist _ _).trans (List.dropWhile_sublist _)).length_le
theorem take_kn (ks : List Kn) (j : Nat) (h : j < ks.length) : ks.take (j + 1) = ks.take j ++ [knAt ks j] := by
  unfold knAt
  rw [List.take_add_one, List.getD_eq_getElem?_getD, List.getElem?_eq_getElem h]; rfl

theorem placesOf_none (a : Option Addr) (cap : Nat) (w : World) :
    Calls Tryz.prog 107 #[.slice a 0 cap] w fun e w' => e = .returned (.map (some w.heap.size)) ∧ Places w' w.heap.size 0 (findT []) ∧ Below w.heap.size w w' := by
  have hmm := run_mk
  go_enter Tryz.func107, Tryz.ntmps107
  go_wp2
  go_rounds 1
  go_ret
  exact ⟨rfl, places_made w, (Below.refl _ _).alloc (Nat.le_refl _) _⟩

set_option maxRecDepth 100000 in
theorem placesOf_from (x : Addr) (cap : Nat) (ks : List Kn) (w : World) (hl : ks.length ≤ 1000000000) (hs : ∀ k ∈ ks, k.1.length ≤ maxLen) (hw : ∀ k ∈ ks, (Lit.int .i64 k.2).wf = true) (h : KnFrom w x ks) :
    Calls Tryz.prog 107 #[.slice (some x) ks.length cap] w fun e w' => e = .returned (.map (some w.heap.size)) ∧ Places w' w.heap.size ks.length (findT ks) ∧ Below w.heap.size w w' := by
  have hmm := run_mk
  have H : Hid (KnFrom w x ks) := h
  have Hs : Hid (∀ j, j < ks.length → (knAt ks j).1.length ≤ maxLen ∧ (Lit.int .i64 (knAt ks j).2).wf = true) := fun j hj => ⟨hs _ (knAt_mem hj), hw _ (knAt_mem hj)⟩
  clear h hs hw
  go_enter Tryz.func107, Tryz.ntmps107
  go_wp2
  go_loopw [14] (fun i wr => ∃ j : Nat, j ≤ ks.length ∧ i = .int .i64 j ∧ Hid (Places wr w.heap.size j (findT (ks.take j))) ∧ Below w.heap.size w wr) (fun i _ => ks.length - (intOf i).toNat)
  case atStart => exact ⟨0, Nat.zero_le _, rfl, places_made w, (Below.refl _ _).alloc (Nat.le_refl _) _⟩
  case round =>
    obtain ⟨j, hj, rfl, hpl, B⟩ := hrel
    clear hmm
    by_cases hlt : j < ks.length
    · obtain ⟨h0, h1⟩ := (H.out j hlt).below B
      obtain ⟨hsz, hwf⟩ := Hs.out j hlt
      have Htk : Hid (ks.take (j + 1) = ks.take j ++ [knAt ks j]) := take_kn ks j hlt
      generalize knAt ks j = k at *
      obtain ⟨n, a⟩ := k
      simp only at h0 h1 hsz hwf
      have HT : Hid (∀ w, _) := fun w => tailOf_c n w hsz
      obtain ⟨kl, hkl⟩ := key_is (mk (headL n)) (mk (tailL n)) (by rw [size_mk]; exact Nat.le_trans (head_len n) hsz) (by rw [size_mk]; exact Nat.le_trans (tail_len n) hsz)
      have Hkl : Hid (_) := hkl
      clear hkl hsz
      go_wp2_with fail
      refine (HT.out _).mono ?_; rintro e w1 ⟨rfl, hb1⟩
      obtain ⟨D, hown, hf⟩ := hpl.out
      have hlt0 := hown.lt
      have hown1 := own_keep hown (w' := w1) ((hb1.block w.heap.size (by simp; omega)).trans (((Below.refl wr.heap.size wr).alloc (Nat.le_refl _) _).block _ hlt0))
      have hfk := hf _ _ _ Hkl.out
      have Hf : Hid (_) := hf
      have c1 := (hb1.cell (p := ⟨wr.heap.size, 1, none⟩) (by simp)).trans (new_cell wr _ _ 1 _ rfl)
      have hlt1 : wr.heap.size < w1.heap.size := by have := hb1.size; simp at this; omega
      have B1 : Below w.heap.size w w1 := (B.alloc B.size _).trans (hb1.mono (by simp; have := B.size; omega))
      have hD : Hid (Maps.IsMap D) := hown.isMap
      clear hb1 hf hown hpl h0 h1
      have c1' : ∀ o, (w1.alloc o).cell? ⟨wr.heap.size, 1, none⟩ = some (.int .i64 a) := fun o => (((Below.refl w1.heap.size w1).alloc (Nat.le_refl _) o).cell (p := ⟨wr.heap.size, 1, none⟩) hlt1).trans c1
      cases hq : findT (ks.take j) (headL n) (tailL n) with
      | some q =>
        rw [hq] at hfk
        obtain ⟨hf1, hf2⟩ := hfk
        have Hq : Hid (_) := hq
        have hf1' : Maps.has D kl = true := hf1
        clear hf1 hf2 hq
        go_wp2_with (first | (at_lookup; refine wpList_lookup_own_ok_int _ rfl _ _ 150 rfl 154 3 .i64 Tryz.tailKeyed Tryz.underlying150 Tryz.underlying3 (Tryz.zeroInt _) w.heap.size j D rfl (hown1.alloc _) _ kl rfl Hkl.out ?_; intro c hat hwc; clear hat hwc; rw [hf1']) | go_in)
        have P1 : ∀ o, Places (w1.alloc o) w.heap.size j (findT (ks.take j)) := fun o => ⟨D, hown1.alloc _, Hf.out⟩
        refine ⟨⟨j + 1, by omega, by go_num, ?_, B1.alloc B1.size _⟩, by simp [intOf]; omega⟩
        show Places _ _ _ _
        rw [Htk.out]
        exact places_next (P1 _) (by rw [Hq.out]; rfl)
      | none =>
        rw [hq] at hfk
        obtain ⟨hf1, hf2⟩ := hfk
        have Hq : Hid (_) := hq
        have hf1' : Maps.has D kl = false := hf1
        clear hf1 hf2 hq
        go_wp2_with (first | (at_lookup; refine wpList_lookup_own_ok_int _ rfl _ _ 150 rfl 154 3 .i64 Tryz.tailKeyed Tryz.underlying150 Tryz.underlying3 (Tryz.zeroInt _) w.heap.size j D rfl (hown1.alloc _) _ kl rfl Hkl.out ?_; intro c hat hwc; clear hat hwc; rw [hf1']) | (at_mapUpdate; refine wpList_mapUpdate_own _ rfl _ _ _ 150 rfl 154 3 Tryz.tailKeyed Tryz.underlying150 _ w.heap.size j D rfl (hown1.alloc _) (by unfold maxLen; omega) _ _ kl rfl rfl Hkl.out _ [] (plainElem_int Tryz.underlying3 hwf) ?_; intro w2 hown2 hgrow2) | go_in)
        have B2 : Below w.heap.size w w2 := (B1.alloc B1.size _).grown hgrow2 (by simp; have := B1.size; omega) (fun i hi => by cases hi; exact Nat.le_refl _)
        have P2 : Hid (Places w2 w.heap.size (j + 1) (findT (ks.take (j + 1)))) := by
          show Places _ _ _ _
          rw [Htk.out]
          exact places_more (k := (n, a)) Hq.out (places_put hown2 hD.out Hkl.out Hf.out)
        clear hown2 hgrow2 hown1
        go_wp2
        go_roundw
        case rel => exact ⟨j + 1, by omega, by go_num, P2, B2⟩
        case measure => simp [intOf]; omega
    · obtain rfl : j = ks.length := by omega
      have HP : Hid (Places wr w.heap.size ks.length (findT ks)) := by have := hpl.out; rwa [List.take_length] at this
      go_wp2
      go_ret
      exact ⟨rfl, HP.out, B⟩

end Go.Proofs.YtdmooggmoihggaaGreatDoor

/-
  Contract of package wire's Put, at every place, list of known names and name.
-/
namespace Go.Proofs.YtdmooggmoihggaaGreatDoor
set_option maxRecDepth 100000
set_option maxRecDepth 100000
open Go.ChangeShapes Go.WideShapes Go.ChangeAt Go.RowKit Go.Pin Go.PlainAid

theorem run_eql_nil (w : World) (a : Option Addr) (l c : Nat) : (binOp .eql 73 (.slice a l c) (.slice none 0 0)).run Tryz.prog w = .ok (.bool a.isNone) w := by
  simp [binOp, Op.equal, Result.andThen]
  cases a <;> rfl

set_option maxRecDepth 100000 in
theorem clone_nil (cap : Nat) (w : World) : Calls Tryz.prog 108 #[.slice none 0 cap] w fun e w' => e = .returned (.slice none 0 0) ∧ w' = w := by
  have heq := run_eql_nil
  go_enter Tryz.func108, Tryz.ntmps108
  go_wp2
  go_ret
  exact ⟨rfl, rfl⟩

theorem owns_empty (w : World) : (w.alloc (.cells #[] 123)).ownsRow w.heap.size 123 2 (.slice (some ⟨w.heap.size, 0, none⟩) 0 0) 0 [] :=
  ⟨rfl, .inr ⟨w.heap.size, 0, #[], rfl, Nat.le_refl _, heap_alloc_new w _, Nat.le_refl _, by unfold maxLen; omega, rfl, rfl⟩⟩

set_option maxRecDepth 100000 in
theorem clone_some (x : Addr) (cap : Nat) (ks : List Kn) (w : World) (hl : ks.length ≤ 1000000000) (h : ∀ j u, (knCells ks)[j]? = some u → w.cell? (x.add j) = some u) :
    Calls Tryz.prog 108 #[.slice (some x) ks.length cap] w fun e w' => (∃ v, e = .returned v ∧ Knowns w' w.heap.size v ks) ∧ Below w.heap.size w w' := by
  obtain ⟨i0, hi, hz0, hz1, hz2⟩ := info_parts Tryz.infoKn
  have H : Hid (∀ o j u, (knCells ks)[j]? = some u → (w.alloc o).cell? (x.add j) = some u) := by
    intro o j u hj
    have := h j u hj
    rw [← this]
    exact ((Below.refl w.heap.size w).alloc (Nat.le_refl _) o).cell (World.block_lt_of_cell? w _ this)
  clear h
  have heq := run_eql_nil
  go_enter Tryz.func108, Tryz.ntmps108
  go_wp2_with (first
    | (at_builtin; refine wpList_append_own _ rfl _ _ 73 rfl w.heap.size 123 i0 (.agg #[.string ByteArray.empty, .int .i64 0]) 2 24 Tryz.underlying73 hi hz0 hz1 hz2 rfl (by decide) _ 0 [] rfl (owns_empty w) x ks.length cap (knCells ks) rfl (knCells_len ks) (H.out _) (knCells_one ks) ?c3 ?c4 ?c5 ?_)
    | go_in)
  case c3 => unfold maxLen; omega
  case c4 => omega
  case c5 => simp
  · intro v' w3 hown' hgrow _
    have R : Hid (Knowns w3 w.heap.size v' ks) := by
      show w3.ownsRow _ _ _ _ _ _
      simpa using hown'
    have B : Below w.heap.size w w3 := ((Below.refl _ _).alloc (Nat.le_refl _) _).grown hgrow (by simp) (fun k hk => by cases hk; exact Nat.le_refl _)
    clear hown' hgrow
    go_wp2
    go_ret
    exact ⟨⟨_, rfl, R.out⟩, B⟩

theorem clone_c (a : Option Addr) (cap : Nat) (ks : List Kn) (w : World) (hl : ks.length ≤ 1000000000) (h : KnLies w a ks) :
    Calls Tryz.prog 108 #[.slice a ks.length cap] w fun e w' => (∃ v, e = .returned v ∧ Knowns w' w.heap.size v ks) ∧ Below w.heap.size w w' := by
  rcases h with rfl | ⟨x, rfl, h⟩
  · cases a with
    | none => exact (clone_nil cap w).mono fun e w' ⟨h1, h2⟩ => ⟨⟨_, h1, World.ownsRow_nil _ _ _ _⟩, by rw [h2]; exact Below.refl _ _⟩
    | some x => exact clone_some x cap [] w hl (fun j u hj => by simp [knCells] at hj)
  · exact clone_some x cap ks w hl (cells_of_from h)

theorem placesOf_c (a : Option Addr) (cap : Nat) (ks : List Kn) (w : World) (hl : ks.length ≤ 1000000000) (hs : ∀ k ∈ ks, k.1.length ≤ maxLen) (hw : ∀ k ∈ ks, (Lit.int .i64 k.2).wf = true) (h : KnLies w a ks) :
    Calls Tryz.prog 107 #[.slice a ks.length cap] w fun e w' => e = .returned (.map (some w.heap.size)) ∧ Places w' w.heap.size ks.length (findT ks) ∧ Below w.heap.size w w' := by
  rcases h with rfl | ⟨x, rfl, h⟩
  · exact placesOf_none a cap w
  · exact placesOf_from x cap ks w hl hs hw h

theorem wput_no (at_ : Int) (a : Option Addr) (cap : Nat) (ks : List Kn) (name : ByteArray) (w : World) (hs : name.size ≤ maxLen) (hl : ks.length ≤ 1000000000) (hks : ∀ k ∈ ks, k.1.length ≤ maxLen) (hk : KnLies w a ks) (hm : mayPutL at_ ks (bs name) = false) :
    Calls Tryz.prog 97 #[.int .i64 at_, .slice a ks.length cap, .string name] w fun e w' => e = .returned (.tuple #[.string ⟨#[]⟩, .slice none 0 0, .int .i64 300]) ∧ Below w.heap.size w w' := by
  have HC := mayPut_c at_ a cap ks name w hs hl hks hk
  rw [hm] at HC
  clear hm hk hks
  go_enter Tryz.func97, Tryz.ntmps97
  go_wp2_with fail
  refine HC.mono ?_; rintro e w1 ⟨rfl, hb1⟩
  go_wp2
  go_ret3
  exact ⟨rfl, hb1⟩

theorem be1_is (n : Nat) (h : n ≤ 255) : be (n : Int) 1 = mk [UInt8.ofNat n] := by
  rw [be_1 n (by omega) (by omega)]; rfl
theorem be2_is (x : Int) (h0 : 0 ≤ x) (h1 : x < 65536) : be x 2 = mk (be2 x) := by
  rw [be_2 x h0 h1]; rfl

/-- How far Put has come. -/
structure Putting (ks : List Kn) (at_ : Int) (ls r : List (List UInt8)) (P : List UInt8) (N : List Kn) : Prop where
  s : putS ks ls = P ++ putS ks r
  n : putN ks at_ ls = N ++ putN ks (at_ + P.length) r
  len : P.length + 9 * r.length ≤ 72
  nlen : N.length + r.length ≤ 8
  ok : ∀ x ∈ r, okL x = true

theorem Putting.next {ks : List Kn} {at_ : Int} {ls r : List (List UInt8)} {p : List UInt8} {P : List UInt8} {N : List Kn} (h : Putting ks at_ ls (p :: r) P N) (hf : findK ks (join (p :: r)) = none) :
    Putting ks at_ ls r (P ++ (UInt8.ofNat p.length :: p)) (N ++ if at_ + P.length < 16384 then [(join (p :: r), at_ + P.length)] else []) := by
  obtain ⟨h1, h2, h3, h4, h5⟩ := h
  have hp := okL_bounds (h5 p (by simp))
  refine ⟨?_, ?_, ?_, ?_, fun x hx => h5 x (List.mem_cons_of_mem _ hx)⟩
  · rw [h1, putS, hf]; simp
  · rw [h2, putN, hf]
    simp only [List.length_append, List.length_cons, List.append_assoc]
    rw [show at_ + (P.length + (p.length + 1) : Nat) = at_ + P.length + 1 + p.length by omega]
  · simp only [List.length_append, List.length_cons] at h3 ⊢; omega
  · simp only [List.length_append, List.length_cons] at h4 ⊢
    split <;> simp <;> omega
theorem Putting.found {ks : List Kn} {at_ : Int} {ls r : List (List UInt8)} {p : List UInt8} {P : List UInt8} {N : List Kn} {a : Int} (h : Putting ks at_ ls (p :: r) P N) (hf : findK ks (join (p :: r)) = some a) :
    putS ks ls = P ++ be2 (49152 + a) ∧ putN ks at_ ls = N := by
  obtain ⟨h1, h2, _⟩ := h
  rw [h1, h2, putS, putN, hf]; simp
theorem Putting.done {ks : List Kn} {at_ : Int} {ls : List (List UInt8)} {P : List UInt8} {N : List Kn} (h : Putting ks at_ ls [] P N) : putS ks ls = P ++ [0] ∧ putN ks at_ ls = N := by
  obtain ⟨h1, h2, _⟩ := h
  rw [h1, h2]; simp [putS, putN]
theorem find_known {ks : List Kn} {x : List UInt8} {a : Int} (hk : ks.all knownL = true) (h : findK ks x = some a) : 0 ≤ a ∧ a < 16384 := by
  rcases findK_at ks x with ⟨j, hj, _, h2, _⟩ | ⟨h2, _⟩
  · rw [h2] at h; cases h
    have := List.all_eq_true.1 hk _ (knAt_mem hj)
    rcases known_cases (knAt ks j) with ⟨h, _⟩ | ⟨h, _⟩ | ⟨h, _⟩ | ⟨h, _⟩ | ⟨_, _, _, h1, h2⟩
    all_goals first | (rw [this] at h; cases h; done) | exact ⟨h1, h2⟩
  · rw [h2] at h; cases h
theorem join_head {p : List UInt8} {r : List (List UInt8)} (ho : ∀ x ∈ p :: r, okL x = true) : headL (join (p :: r)) = p ∧ tailL (join (p :: r)) = join r := by
  have hd : (46 : UInt8) ∉ p := okL_nodot (ho p (by simp))
  by_cases hr : r = []
  · subst hr; exact head_miss p hd
  · rw [join_cons p r hr]; exact head_hit p (join r) hd

theorem new_at (w : World) (cs : Array Value) (t : TypeId) (j : Nat) (v : Value) (n : Nat) (hn : w.heap.size = n) (h : cs[j]? = some v) : (w.alloc (.cells cs t)).cell? ⟨n, j, none⟩ = some v := by
  subst hn; exact new_cell w cs t j v h
theorem cell_of_block {w w' : World} {b : Nat} (h : w'.heap[b]? = w.heap[b]?) (j : Nat) : w'.cell? ⟨b, j, none⟩ = w.cell? ⟨b, j, none⟩ := by simp only [World.cell?, h]
theorem knowns_snoc {w : World} {base : Nat} {v : Value} {ks : List Kn} {n : List UInt8} {a : Int} (h : w.ownsRow base 123 2 v (ks.length + 1) (knCells ks ++ [.string (mk n), .int .i64 a])) : Knowns w base v (ks ++ [(n, a)]) := by
  show w.ownsRow _ _ _ _ _ _
  rw [knCells_append]
  simpa [knCells] using h
theorem Knowns.form {w : World} {base : Nat} {v : Value} {ks : List Kn} (h : Knowns w base v ks) : ∃ a cap, v = .slice a ks.length cap := by
  obtain ⟨a, cap, h, _⟩ := h.lies
  exact ⟨a, cap, h⟩

set_option maxHeartbeats 2000000 in
set_option maxRecDepth 100000 in
theorem wput_ok (at_ : Int) (a : Option Addr) (cap : Nat) (ks : List Kn) (name : ByteArray) (w : World) (hs : name.size ≤ maxLen) (hl : ks.length ≤ 1048576) (hks : ∀ k ∈ ks, k.1.length ≤ maxLen) (hk : KnLies w a ks) (hm : mayPutL at_ ks (bs name) = true) :
    Calls Tryz.prog 97 #[.int .i64 at_, .slice a ks.length cap, .string name] w fun e w' => (∃ v, e = .returned (.tuple #[.string (mk (putS ks (labsL (bs name)))), v, .int .i64 0]) ∧ Knowns w' w.heap.size v (ks ++ putN ks at_ (labsL (bs name)))) ∧ Below w.heap.size w w' := by
  have HC := mayPut_c at_ a cap ks name w hs (by omega) hks hk
  rw [hm] at HC
  simp only [mayPutL, Bool.and_eq_true, decide_eq_true_eq] at hm
  obtain ⟨⟨⟨ha0, ha1⟩, hmay⟩, hall⟩ := hm
  have Hall : Hid (ks.all knownL = true) := hall
  have HP : Hid (∀ w', Below w.heap.size w w' → _) := fun w' hb => placesOf_c a cap ks w' (by omega) hks (fun k hkk => by
    have := List.all_eq_true.1 hall k hkk
    rcases known_cases k with ⟨h, _⟩ | ⟨h, _⟩ | ⟨h, _⟩ | ⟨h, _⟩ | ⟨_, _, _, h1, h2⟩
    all_goals first | (rw [this] at h; cases h; done) | exact WalkArith.wf_i64 (by omega)) (hk.below hb)
  have HD : Hid (∀ w', Below w.heap.size w w' → _) := fun w' hb => clone_c a cap ks w' (by omega) (hk.below hb)
  obtain ⟨i0, hi, hz0, hz1, hz2⟩ := info_parts Tryz.infoKn
  have hname : name = mk (join (labsL (bs name))) := by rw [join_labs hmay, mk_bs]
  have hL8 := labsL_len (bs name)
  have hLok : ∀ x ∈ labsL (bs name), okL x = true := fun x hx => labsL_ok hx
  generalize labsL (bs name) = ls at *
  subst hname
  have Hstart : Hid (Putting ks at_ ls ls [] []) := ⟨by simp, by simp, by simp; omega, by simp; omega, hLok⟩
  clear hmay hall hks hk hLok hs
  go_enter Tryz.func97, Tryz.ntmps97
  go_wp2_with fail
  refine HC.mono ?_; rintro e w1 ⟨rfl, hb1⟩
  go_wp2_with fail
  refine (HP.out _ hb1).mono ?_; rintro e w2 ⟨rfl, hpl2, hb2⟩
  go_wp2_with fail
  refine (HD.out _ (bel_trans hb1 hb2)).mono ?_; rintro e w3 ⟨⟨v3, rfl, hkn3⟩, hb3⟩
  have hle1 := hb1.size
  have hle2 := hb2.size
  have hpl3 : Hid (Places w3 w1.heap.size ks.length (findT ks)) := hpl2.below hb3 hpl2.lt (Nat.le_refl _)
  have hB3 : Below w.heap.size w w3 := bel_trans hb1 (bel_trans hb2 hb3)
  have hlt2 := hpl2.lt
  have hkn3' : Hid (Knowns w3 (w1.heap.size + 1) v3 ks) := hkn3.base (by omega)
  generalize w1.heap.size = mb at *
  clear hb1 hb2 hb3 hpl2 hkn3 HC HP HD
  go_wp2_with fail
  go_loopw [10, 11, 12] (fun v p l wr => ∃ (r : List (List UInt8)) (P : List UInt8) (N : List Kn), p = .string (mk P) ∧ l = .string (mk (join r)) ∧ Hid (Knowns wr (mb + 1) v (ks ++ N)) ∧ Hid (Places wr mb ks.length (findT ks)) ∧ Below w.heap.size w wr ∧ Hid (Putting ks at_ ls r P N)) (fun _ _ l _ => (strOf l).size)
  case atStart => exact ⟨ls, [], [], rfl, rfl, by rw [List.append_nil]; exact hkn3', hpl3, hB3, Hstart⟩
  case round =>
    obtain ⟨r, P, N, rfl, rfl, hkn, hpl, B, hput⟩ := hrel
    clear hkn3' hpl3 hB3 Hstart
    have hPl := hput.out.len
    have hPs := size_mk P
    cases r with
    | nil =>
      have he : (mk (join ([] : List (List UInt8)))).toList.isEmpty = true := empty_mk_yes rfl
      have HN : Hid (∀ w, Calls Tryz.prog 110 #[.int .i64 0, .int .i64 1] w fun e w' => e = .returned (.string (mk [0])) ∧ Below w.heap.size w w') := by
        intro w; have := number_1 0 w (by omega) (by omega); rwa [show be 0 1 = mk [0] from be1_is 0 (by omega)] at this
      have h0s := size_mk [(0 : UInt8)]
      simp only [List.length_nil] at hPl
      go_wp2_with fail
      refine (HN.out _).mono ?_; rintro e w4 ⟨rfl, hb4⟩
      have R : Hid (Knowns w4 (mb + 1) u10 (ks ++ N)) := hkn.out.below hb4
      have B4 : Below w.heap.size w w4 := bel_trans B hb4
      clear hb4
      go_wp2
      go_ret3
      obtain ⟨e1, e2⟩ := hput.out.done
      rw [e1, e2, ← mk_append]
      exact ⟨⟨_, rfl, R.out.base (by omega)⟩, B4⟩
    | cons p r =>
      have hok := hput.out.ok
      obtain ⟨hh1, hh2⟩ := join_head hok
      have hpb := okL_bounds (hok p (by simp))
      have hjl := join_len (p :: r) hok
      have hne : join (p :: r) ≠ [] := join_ne (by simp) hok
      have he := empty_mk_no hne
      have hmay : mayL (join (p :: r)) = true := (may_join (ls := p :: r) (by have := hput.out.nlen; omega) hok).1
      have HFT : Hid (findT ks p (join r) = findK ks (join (p :: r))) := by rw [← findT_is ks _ hmay hne Hall.out, hh1, hh2]; rfl
      have HT : Hid (∀ w, Calls Tryz.prog 109 #[.string (mk (join (p :: r)))] w fun e w' => e = .returned (.agg #[.string (mk p), .string (mk (join r))]) ∧ Below w.heap.size w w') := by
        intro w
        have := tailOf_c (join (p :: r)) w (by unfold maxLen; simp at hjl hPl; omega)
        rwa [hh1, hh2] at this
      have hjr : (join r).length < (join (p :: r)).length := by
        by_cases hr : r = []
        · subst hr; simp [join]; omega
        · rw [join_cons p r hr]; simp; omega
      obtain ⟨kl, hkl⟩ := key_is (mk p) (mk (join r)) (by rw [size_mk]; unfold maxLen; omega) (by rw [size_mk]; unfold maxLen; simp at hjl hPl; omega)
      have Hkl : Hid (_) := hkl
      have Hjr : Hid (_) := hjr
      generalize hleft : join (p :: r) = left at *
      have Hleft : Hid (_) := hleft
      obtain ⟨D, hown, hf⟩ := hpl.out
      have Hf : Hid (_) := hf
      have hfk := hf _ _ _ hkl
      have hmlt := hown.lt
      clear hleft hkl hh1 hh2 hmay hne hf hok hpl
      go_wp2_with fail
      refine (HT.out _).mono ?_; rintro e w4 ⟨rfl, hb4⟩
      have hown4 := own_keep hown (w' := w4) (hb4.block mb hmlt)
      have hkn4 : Hid (Knowns w4 (mb + 1) u10 (ks ++ N)) := hkn.out.below hb4
      have B4 : Below w.heap.size w w4 := bel_trans B hb4
      have hle4 := hb4.size
      clear hb4 hown hkn B
      cases hq : findK ks left with
      | some q =>
        have hqb := find_known Hall.out hq
        rw [HFT.out, hq] at hfk
        obtain ⟨hf1, hf2⟩ := hfk
        have hf1' : Maps.has D kl = true := hf1
        have Hf2 : Hid (D.atKey kl (.lit (.int .i64 0)) = .lit (.int .i64 q)) := hf2
        have HN : Hid (∀ w, Calls Tryz.prog 110 #[.int .i64 (49152 + q), .int .i64 2] w fun e w' => e = .returned (.string (mk (be2 (49152 + q)))) ∧ Below w.heap.size w w') := by
          intro w; have := number_2 (49152 + q) w (by omega) (by omega); rwa [be2_is _ (by omega) (by omega)] at this
        have Hq : Hid (findK ks left = some q) := hq
        have h2s : (mk (be2 (49152 + q))).size = 2 := by rw [size_mk]; rfl
        clear hf1 hf2 hq
        go_wp2_with (first | (at_lookup; refine wpList_lookup_own_ok_int _ rfl _ _ 150 rfl 154 3 .i64 Tryz.tailKeyed Tryz.underlying150 Tryz.underlying3 (Tryz.zeroInt _) mb ks.length D rfl (hown4.alloc _) _ kl rfl Hkl.out ?_; intro c hat hwc; rw [Hf2.out] at hat; cases hat; rw [hf1']) | fail)
        refine (HN.out _).mono ?_; rintro e w5 ⟨rfl, hb5⟩
        have hb5' := bel_trans ((Below.refl w4.heap.size w4).alloc (Nat.le_refl _) _) hb5
        have R : Hid (Knowns w5 (mb + 1) u10 (ks ++ N)) := hkn4.out.below hb5'
        have B5 : Below w.heap.size w w5 := bel_trans B4 hb5'
        clear hb5 hb5' hown4
        go_wp2
        go_ret3
        obtain ⟨e1, e2⟩ := hput.out.found (by rw [Hleft.out]; exact Hq.out)
        rw [e1, e2, ← mk_append]
        exact ⟨⟨_, rfl, R.out.base (by omega)⟩, B5⟩
      | none =>
        rw [HFT.out, hq] at hfk
        have hf1' : Maps.has D kl = false := hfk.1
        have Hq : Hid (findK ks left = none) := hq
        have HN : Hid (∀ w, Calls Tryz.prog 110 #[.int .i64 p.length, .int .i64 1] w fun e w' => e = .returned (.string (mk [UInt8.ofNat p.length])) ∧ Below w.heap.size w w') := by
          intro w; have := number_1 p.length w (by omega) (by omega); rwa [be1_is _ (by omega)] at this
        have h1s := size_mk [UInt8.ofNat p.length]
        have hps := size_mk p
        have Hnext : Hid (Putting ks at_ ls r (P ++ (UInt8.ofNat p.length :: p)) (N ++ if at_ + P.length < 16384 then [(left, at_ + P.length)] else [])) := by
          have := hput.out.next (by rw [Hleft.out]; exact Hq.out)
          rwa [Hleft.out] at this
        clear hfk hq
        by_cases hfar : at_ + (P.length : Int) < 16384
        · rw [if_pos hfar] at Hnext
          obtain ⟨ua, ucap, rfl⟩ := hkn4.out.form
          have hknlen : (ks ++ N).length ≤ 1048576 + 8 := by have := hput.out.nlen; simp; omega
          have hat8 : 0 ≤ at_ + (P.length : Int) := by omega
          have hown5 : ∀ o o', World.ownsRow ((w4.alloc o).alloc o') (mb + 1) 123 2 (.slice ua (ks ++ N).length ucap) (ks ++ N).length (knCells (ks ++ N)) := fun o o' => World.ownsRow.alloc (World.ownsRow.alloc hkn4.out o) o'
          have hlo := World.ownsRow.lt hkn4.out
          generalize hkl2 : (ks ++ N).length = kn at *
          have Hkl2 : Hid (_) := hkl2
          clear hkl2
          go_wp2_with (first
            | (at_lookup; refine wpList_lookup_own_ok_int _ rfl _ _ 150 rfl 154 3 .i64 Tryz.tailKeyed Tryz.underlying150 Tryz.underlying3 (Tryz.zeroInt _) mb ks.length D rfl (hown4.alloc _) _ kl rfl Hkl.out ?_; intro c hat hwc; clear hat hwc; rw [hf1'])
            | (at_builtin; refine wpList_append_own _ rfl _ _ 73 rfl (mb + 1) 123 i0 (.agg #[.string ByteArray.empty, .int .i64 0]) 2 24 Tryz.underlying73 hi hz0 hz1 hz2 rfl (by decide) _ kn (knCells (ks ++ N)) rfl (hown5 _ _) ⟨w4.heap.size + 1, 0, none⟩ 1 1 [.string (mk left), .int .i64 (at_ + P.length)] rfl rfl ?c1 ?c2 ?c3 ?c4 ?c5 ?_)
            | fail)
          case c1 =>
            intro j u hj
            match j, hj with
            | 0, hj => simp at hj; subst hj; exact new_at _ _ _ 0 _ _ (World.size_alloc _ _) rfl
            | 1, hj => simp at hj; subst hj; exact new_at _ _ _ 1 _ _ (World.size_alloc _ _) rfl
          case c2 => intro u hu; simp at hu; rcases hu with rfl | rfl <;> rfl
          case c3 => unfold maxLen; omega
          case c4 => omega
          case c5 => simp; omega
          · intro v' w6 hown6 hgrow _
            have hm4 := hown4.lt
            have hz5 : ∀ o o', ((w4.alloc o).alloc o').heap.size = w4.heap.size + 2 := fun o o' => by simp
            have B5 : ∀ o o', Below w4.heap.size w4 ((w4.alloc o).alloc o') := fun o o' => ((Below.refl w4.heap.size w4).alloc (Nat.le_refl _) o).alloc (by simp) o'
            have k1 := hgrow.block w4.heap.size (by rw [hz5]; omega) (fun e => by have := (hlo _ e.symm).2; omega)
            have k2 := hgrow.block mb (by rw [hz5]; omega) (fun e => by have := (hlo _ e.symm).1; omega)
            have R6 : Knowns w6 (mb + 1) v' (ks ++ N ++ [(left, at_ + P.length)]) := knowns_snoc (by rw [Hkl2.out]; exact hown6)
            have B6 : Below w.heap.size w w6 := (bel_trans B4 (B5 _ _)).grown hgrow (by rw [hz5]; have := B4.size; omega) (fun k hk => by have := (hlo _ hk).1; omega)
            have P6 := own_keep (hown4) (w' := w6) (k2.trans ((B5 _ _).block mb hm4))
            have c0 : w6.cell? ⟨w4.heap.size, 0, none⟩ = some (.string (mk p)) := (cell_of_block k1 0).trans ((((Below.refl _ (w4.alloc _)).alloc (Nat.le_refl _) _).cell (p := ⟨w4.heap.size, 0, none⟩) (by simp)).trans (new_cell w4 _ _ 0 _ rfl))
            have c1 : w6.cell? ⟨w4.heap.size, 1, none⟩ = some (.string (mk (join r))) := (cell_of_block k1 1).trans ((((Below.refl _ (w4.alloc _)).alloc (Nat.le_refl _) _).cell (p := ⟨w4.heap.size, 1, none⟩) (by simp)).trans (new_cell w4 _ _ 1 _ rfl))
            have hlt6 : w4.heap.size < w6.heap.size := World.block_lt_of_cell? w6 _ c0
            have hR6 : Hid (_) := R6
            have hP6 := P6.lt
            clear hown6 hgrow hown5 k1 k2 B5 hz5 R6 hown4 hkn4
            go_wp2_with fail
            go_region_with (refine (HN.out _).mono ?_; rintro e w7 ⟨rfl, hb7⟩; have hb7' : Below _ w6 w7 := bel_trans ((Below.refl _ _).drew) hb7; have d0 := (hb7'.cell (p := ⟨w4.heap.size, 0, none⟩) hlt6).trans c0; have d1 := (hb7'.cell (p := ⟨w4.heap.size, 1, none⟩) hlt6).trans c1)
            all_goals
              have R7 : Hid (Knowns w7 (mb + 1) v' (ks ++ (N ++ [(left, at_ + P.length)]))) := by rw [← List.append_assoc]; exact Knowns.below hR6.out hb7'
              have P7 : Hid (Places w7 mb ks.length (findT ks)) := ⟨D, own_keep P6 (hb7'.block mb hP6), Hf.out⟩
              have B7 : Below w.heap.size w w7 := bel_trans B6 hb7'
              clear hb7 hb7' c0 c1
              go_wp2
              refine ⟨⟨r, P ++ (UInt8.ofNat p.length :: p), N ++ [(left, at_ + P.length)], ?_, rfl, R7, P7, B7, Hnext⟩, ?_⟩
              · rw [mk_append, mk_append]; rfl
              · simp only [strOf, size_mk]; exact Hjr.out
        · have hfar' : decide (at_ + (P.length : Int) < 16384) = false := by simp; omega
          rw [if_neg hfar] at Hnext
          clear hfar
          have c0 : ∀ w', Below (w4.alloc (.cells #[.string (mk p), .string (mk (join r))] 154)).heap.size (w4.alloc (.cells #[.string (mk p), .string (mk (join r))] 154)) w' → w'.cell? ⟨w4.heap.size, 0, none⟩ = some (.string (mk p)) ∧ w'.cell? ⟨w4.heap.size, 1, none⟩ = some (.string (mk (join r))) :=
            fun w' hb => ⟨(hb.cell (p := ⟨w4.heap.size, 0, none⟩) (by simp)).trans (new_cell w4 _ _ 0 _ rfl), (hb.cell (p := ⟨w4.heap.size, 1, none⟩) (by simp)).trans (new_cell w4 _ _ 1 _ rfl)⟩
          have C0 : Hid (_) := c0
          clear c0
          go_wp2_with (first | (at_lookup; refine wpList_lookup_own_ok_int _ rfl _ _ 150 rfl 154 3 .i64 Tryz.tailKeyed Tryz.underlying150 Tryz.underlying3 (Tryz.zeroInt _) mb ks.length D rfl (hown4.alloc _) _ kl rfl Hkl.out ?_; intro c hat hwc; clear hat hwc; rw [hf1']) | fail)
          go_region_with (refine (HN.out _).mono ?_; rintro e w7 ⟨rfl, hb7⟩; have hb7' : Below _ (w4.alloc (.cells #[.string (mk p), .string (mk (join r))] 154)) w7 := bel_trans ((Below.refl _ _).drew) hb7; obtain ⟨d0, d1⟩ := C0.out w7 hb7')
          all_goals
            have hb8 := bel_trans ((Below.refl w4.heap.size w4).alloc (Nat.le_refl _) _) hb7'
            have R7 : Hid (Knowns w7 (mb + 1) u10 (ks ++ N)) := hkn4.out.below hb8
            have P7 : Hid (Places w7 mb ks.length (findT ks)) := ⟨D, own_keep hown4 (hb8.block mb hown4.lt), Hf.out⟩
            have B7 : Below w.heap.size w w7 := bel_trans B4 hb8
            clear hb7 hb7' hb8
            go_wp2
            refine ⟨⟨r, P ++ (UInt8.ofNat p.length :: p), N, ?_, rfl, R7, P7, B7, by rw [List.append_nil] at Hnext; exact Hnext⟩, ?_⟩
            · rw [mk_append, mk_append]; rfl
            · simp only [strOf, size_mk]; exact Hjr.out

/-- Put, its answer named. -/
theorem wput_is (at_ : Int) (a : Option Addr) (n cap : Nat) (ks ks' : List Kn) (name s : ByteArray) (w : World) (hn : n = ks.length) (hs : name.size ≤ maxLen) (hl : ks.length ≤ 1048576) (hks : ∀ k ∈ ks, k.1.length ≤ maxLen) (hk : KnLies w a ks) (hm : mayPutL at_ ks (bs name) = true)
    (h1 : mk (putS ks (labsL (bs name))) = s) (h2 : ks ++ putN ks at_ (labsL (bs name)) = ks') :
    Calls Tryz.prog 97 #[.int .i64 at_, .slice a n cap, .string name] w fun e w' => (∃ v, e = .returned (.tuple #[.string s, v, .int .i64 0]) ∧ Knowns w' w.heap.size v ks') ∧ Below w.heap.size w w' := by
  subst hn h1 h2
  exact wput_ok at_ a cap ks name w hs hl hks hk hm
theorem wput_nil (at_ : Int) (cap : Nat) (ks' : List Kn) (name s : ByteArray) (w : World) (hs : name.size ≤ maxLen) (hm : mayPutL at_ [] (bs name) = true) (h1 : mk (putS [] (labsL (bs name))) = s) (h2 : putN [] at_ (labsL (bs name)) = ks') :
    Calls Tryz.prog 97 #[.int .i64 at_, .slice none 0 cap, .string name] w fun e w' => (∃ v, e = .returned (.tuple #[.string s, v, .int .i64 0]) ∧ Knowns w' w.heap.size v ks') ∧ Below w.heap.size w w' :=
  wput_is at_ none 0 cap [] ks' name s w rfl hs (by simp) (by simp) (.inl rfl) hm h1 (by simpa using h2)
theorem wput_nil_no (at_ : Int) (cap : Nat) (name : ByteArray) (w : World) (hs : name.size ≤ maxLen) (hm : mayPutL at_ [] (bs name) = false) :
    Calls Tryz.prog 97 #[.int .i64 at_, .slice none 0 cap, .string name] w fun e w' => e = .returned (.tuple #[.string ⟨#[]⟩, .slice none 0 0, .int .i64 300]) ∧ Below w.heap.size w w' :=
  wput_no at_ none cap [] name w hs (by simp) (by simp) (.inl rfl) hm

end Go.Proofs.YtdmooggmoihggaaGreatDoor

/-
  Plain lemmas that speak of no program: what is put into a message is told again, pointers and all.
-/
namespace Go.Pin
set_option maxRecDepth 100000
open Go.Proofs.YtdmooggmoihggaaGreatDoor (okL_bounds join_len)

/-- Two bytes that point to q. -/
def Ptr (s : List UInt8) (at_ q : Nat) : Prop := q < 16384 ∧ ∃ rest, s.drop at_ = be2 (49152 + q) ++ rest
/-- The labels ls stand from a place on (great letters or small ones), in a row that began at 'row'; behind its first pointer or its end: e. -/
def Stands (s : List UInt8) : List (List UInt8) → Nat → Nat → Nat → Prop
  | [], at_, _, e => s[at_]? = some 0 ∧ e = at_ + 1
  | p :: r, at_, row, e => (∃ raw rest, foldL raw = p ∧ s.drop at_ = UInt8.ofNat raw.length :: (raw ++ rest)) ∧
      (Stands s r (at_ + 1 + p.length) row e ∨ ∃ q e', q < row ∧ Ptr s (at_ + 1 + p.length) q ∧ Stands s r q q e' ∧ e = at_ + 1 + p.length + 2)
/-- .. or a pointer to where they stand. -/
def Told (s : List UInt8) (ls : List (List UInt8)) (at_ row e : Nat) : Prop := Stands s ls at_ row e ∨ ∃ q e', q < row ∧ Ptr s at_ q ∧ Stands s ls q q e' ∧ e = at_ + 2

theorem drop_at {s a b : List UInt8} {n : Nat} (h : s.drop n = a ++ b) (ha : a ≠ []) : n + a.length ≤ s.length ∧ (∀ i, i < a.length → s[n + i]? = a[i]?) ∧ s.drop (n + a.length) = b := by
  have hl : s.length - n = a.length + b.length := by have := congrArg List.length h; simpa using this
  have ha' : 0 < a.length := List.length_pos_iff.2 ha
  refine ⟨by omega, fun i hi => ?_, ?_⟩
  · rw [← List.getElem?_drop, h, List.getElem?_append_left hi]
  · rw [← List.drop_drop, h]; simp

theorem goOn_twice (en a b : Nat) (h : a ≠ 0) : goOn (goOn en a) b = goOn en a := by
  unfold goOn
  by_cases h0 : en = 0
  · simp [h0, h]
  · simp [h0]

theorem ptr_bytes {s : List UInt8} {at_ q : Nat} (h : Ptr s at_ q) : ∃ c d : UInt8, s[at_]? = some c ∧ s[at_ + 1]? = some d ∧ 192 ≤ c.toNat ∧ (c.toNat - 192) * 256 + d.toNat = q := by
  obtain ⟨hq, rest, h⟩ := h
  obtain ⟨_, h2, _⟩ := drop_at h (by simp [be2])
  refine ⟨_, _, h2 0 (by simp [be2]), h2 1 (by simp [be2]), ?_, ?_⟩
  · simp; omega
  · simp; omega

theorem all_stands (s : List UInt8) : ∀ (ls : List (List UInt8)) (at_ row en : Nat) (labs : List (List UInt8)) (e : Nat), (∀ x ∈ ls, okL x = true) → labs.length + ls.length ≤ 8 → Stands s ls at_ row e →
    ∃ a' r', allWire s ⟨at_, row, en, labs⟩ = .inr ⟨a', r', goOn en e, labs ++ ls⟩
  | [], at_, row, en, labs, e, _, _, h => by
    obtain ⟨h1, rfl⟩ := h
    exact ⟨_, _, by rw [allWire_end (wstep_zero (x := ⟨at_, row, en, labs⟩) h1 rfl), List.append_nil]⟩
  | p :: r, at_, row, en, labs, e, hok, h8, h => by
    obtain ⟨⟨raw, rest, hraw, hd⟩, ht⟩ := h
    have hp := hok p (by simp)
    have hpb := okL_bounds hp
    have hrl : raw.length = p.length := by rw [← hraw]; simp [foldL]
    have hd' : s.drop at_ = (UInt8.ofNat raw.length :: raw) ++ rest := by rw [hd]; rfl
    obtain ⟨d1, d2, d3⟩ := drop_at hd' (by simp)
    have hc : s[at_]? = some (UInt8.ofNat raw.length) := d2 0 (by simp)
    have hcn : (UInt8.ofNat raw.length).toNat = raw.length := by simp; omega
    have hpiece : (s.drop (at_ + 1)).take raw.length = raw := by
      rw [← List.drop_drop, hd]; simp
    have hlen : at_ + 1 + raw.length ≤ s.length := by simp at d1; omega
    simp only [List.length_cons] at h8
    have hst := wstep_label (x := ⟨at_, row, en, labs⟩) hc (by rw [hcn]; omega) (by rw [hcn]; omega) (by rw [hcn]; exact hlen) (by rw [hcn, hpiece, hraw]; exact hp) (by simp only; omega)
    rw [hcn, hpiece, hraw] at hst
    rw [allWire_on hst]
    simp only
    have hr8 : (labs ++ [p]).length + r.length ≤ 8 := by simp; omega
    have hrok : ∀ x ∈ r, okL x = true := fun x hx => hok x (List.mem_cons_of_mem _ hx)
    rw [hrl]
    rcases ht with ht | ⟨q, e', hq, hptr, ht, rfl⟩
    · obtain ⟨a', r', h⟩ := all_stands s r (at_ + 1 + p.length) row en (labs ++ [p]) e hrok hr8 ht
      exact ⟨a', r', by rw [h]; simp⟩
    · obtain ⟨c, d, h1, h2, h3, h4⟩ := ptr_bytes hptr
      have hst2 := wstep_point (x := ⟨at_ + 1 + p.length, row, en, labs ++ [p]⟩) h1 h2 h3 (by simp only; omega)
      rw [allWire_on hst2, h4]
      obtain ⟨a', r', h⟩ := all_stands s r q q (goOn en (at_ + 1 + p.length + 2)) (labs ++ [p]) e' hrok hr8 ht
      exact ⟨a', r', by rw [h, goOn_twice _ _ _ (by omega)]; simp⟩

theorem get_told {s : List UInt8} {ls : List (List UInt8)} {at_ e : Nat} (h : Told s ls at_ at_ e) (hok : ∀ x ∈ ls, okL x = true) (h8 : ls.length ≤ 8) : getL s at_ = (join ls, (e : Int), 0) := by
  unfold getL
  rcases h with h | ⟨q, e', hq, hptr, h, rfl⟩
  · obtain ⟨a', r', h⟩ := all_stands s ls at_ at_ 0 [] e hok (by simpa using h8) h
    rw [h]; simp [endWire, goOn]
  · obtain ⟨c, d, h1, h2, h3, h4⟩ := ptr_bytes hptr
    have hst2 := wstep_point (x := ⟨at_, at_, 0, []⟩) h1 h2 h3 (by simp only; omega)
    rw [allWire_on hst2, h4]
    obtain ⟨a', r', h⟩ := all_stands s ls q q (goOn 0 (at_ + 2)) [] e' hok (by simpa using h8) h
    simp only
    rw [h, goOn_twice _ _ _ (by omega)]; simp [endWire, goOn]

/-! ### more behind it -/
theorem drop_more {s t a : List UInt8} {n : Nat} (h : s.drop n = a) (ha : a ≠ []) : (s ++ t).drop n = a ++ t := by
  have : n ≤ s.length := by
    have := congrArg List.length h
    have ha' : 0 < a.length := List.length_pos_iff.2 ha
    simp at this; omega
  rw [List.drop_append_of_le_length this, h]
theorem Ptr.more {s : List UInt8} {at_ q : Nat} (h : Ptr s at_ q) (t : List UInt8) : Ptr (s ++ t) at_ q := by
  obtain ⟨hq, rest, h⟩ := h
  exact ⟨hq, rest ++ t, by rw [drop_more h (by simp [be2])]; simp⟩
theorem Stands.more {s : List UInt8} (t : List UInt8) : ∀ {ls : List (List UInt8)} {at_ row e : Nat}, Stands s ls at_ row e → Stands (s ++ t) ls at_ row e
  | [], at_, row, e, h => by
    obtain ⟨h1, h2⟩ := h
    exact ⟨by rw [List.getElem?_append_left (List.getElem?_eq_some_iff.1 h1).1]; exact h1, h2⟩
  | p :: r, at_, row, e, h => by
    obtain ⟨⟨raw, rest, h1, h2⟩, h3⟩ := h
    refine ⟨⟨raw, rest ++ t, h1, by rw [drop_more h2 (by simp)]; simp⟩, ?_⟩
    rcases h3 with h3 | ⟨q, e', hq, hp, h3, h4⟩
    · exact .inl (Stands.more t h3)
    · exact .inr ⟨q, e', hq, hp.more t, Stands.more t h3, h4⟩
theorem Told.more {s : List UInt8} {ls : List (List UInt8)} {at_ row e : Nat} (h : Told s ls at_ row e) (t : List UInt8) : Told (s ++ t) ls at_ row e := by
  rcases h with h | ⟨q, e', hq, hp, h3, h4⟩
  · exact .inl (h.more t)
  · exact .inr ⟨q, e', hq, hp.more t, h3.more t, h4⟩

/-- All that is known stands there. -/
def Good (s : List UInt8) (ks : List Kn) : Prop := ∀ k ∈ ks, knownL k = true ∧ k.2.toNat < s.length ∧ ∃ e, Stands s (labsL k.1) k.2.toNat k.2.toNat e
theorem Good.more {s : List UInt8} {ks : List Kn} (h : Good s ks) (t : List UInt8) : Good (s ++ t) ks := fun k hk => by
  obtain ⟨h1, h2, e, h3⟩ := h k hk
  exact ⟨h1, by simp; omega, e, h3.more t⟩
theorem findK_mem {ks : List Kn} {x : List UInt8} {a : Int} (h : findK ks x = some a) : (x, a) ∈ ks := by
  induction ks with
  | nil => cases h
  | cons k r ih =>
    unfold findK at h
    split at h
    · rename_i hk
      cases h
      subst hk
      simp
    · exact List.mem_cons_of_mem _ (ih h)
theorem known_bounds {k : Kn} (h : knownL k = true) : k.1 ≠ [] ∧ mayL k.1 = true ∧ 0 ≤ k.2 ∧ k.2 < 16384 := by
  simp only [knownL, Bool.and_eq_true, Bool.not_eq_true', decide_eq_false_iff_not, decide_eq_true_eq] at h
  exact ⟨h.1.1.1, h.1.1.2, h.1.2, h.2⟩

theorem foldL_ok {p : List UInt8} (h : okL p = true) : foldL p = p := by
  have := fold_may (l := p) (may_join (ls := [p]) (by simp) (by simpa using h)).1
  exact this
theorem put_told {s0 : List UInt8} {ks : List Kn} (hg : Good s0 ks) : ∀ (ls : List (List UInt8)) (u : List UInt8) (row : Nat), (∀ x ∈ ls, okL x = true) → ls.length ≤ 8 → s0.length ≤ row →
    Told (s0 ++ u ++ putS ks ls) ls (s0 ++ u).length row (s0 ++ u ++ putS ks ls).length ∧ (findK ks (join ls) = none → ls ≠ [] → Stands (s0 ++ u ++ putS ks ls) ls (s0 ++ u).length row (s0 ++ u ++ putS ks ls).length)
  | [], u, row, _, _, _ => by
    refine ⟨.inl ⟨?_, ?_⟩, fun _ h => absurd rfl h⟩
    · rw [putS, List.getElem?_append_right (Nat.le_refl _)]; simp
    · rw [putS]; simp; omega
  | p :: r, u, row, hok, h8, hrow => by
    have hp := hok p (by simp)
    have hpb := okL_bounds hp
    have hrok : ∀ x ∈ r, okL x = true := fun x hx => hok x (List.mem_cons_of_mem _ hx)
    simp only [List.length_cons] at h8
    rw [putS]
    cases hf : findK ks (join (p :: r)) with
    | some a =>
      simp only
      obtain ⟨h1, h2, e', h3⟩ := hg _ (findK_mem hf)
      have hb := known_bounds h1
      simp only at h1 h2 h3 hb
      refine ⟨.inr ⟨a.toNat, e', by omega, ⟨by omega, [], ?_⟩, ?_, ?_⟩, fun h => by cases h⟩
      · rw [List.drop_left, show ((a.toNat : Nat) : Int) = a by omega]; simp
      · rw [(may_join (ls := p :: r) (by simpa using h8) hok).2] at h3
        rw [List.append_assoc]; exact h3.more _
      · simp [be2]; omega
    | none =>
      simp only
      have ih := (put_told hg r (u ++ (UInt8.ofNat p.length :: p)) row hrok (by omega) hrow).1
      have e1 : s0 ++ (u ++ (UInt8.ofNat p.length :: p)) ++ putS ks r = s0 ++ u ++ UInt8.ofNat p.length :: (p ++ putS ks r) := by simp
      have e2 : (s0 ++ (u ++ (UInt8.ofNat p.length :: p))).length = (s0 ++ u).length + 1 + p.length := by simp; omega
      rw [e1, e2] at ih
      have hS : Stands (s0 ++ u ++ UInt8.ofNat p.length :: (p ++ putS ks r)) (p :: r) (s0 ++ u).length row (s0 ++ u ++ UInt8.ofNat p.length :: (p ++ putS ks r)).length :=
        ⟨⟨p, putS ks r, foldL_ok hp, by rw [List.drop_left]⟩, ih⟩
      exact ⟨.inl hS, fun _ _ => hS⟩

theorem put_good {s0 : List UInt8} {ks : List Kn} (hg : Good s0 ks) : ∀ (ls : List (List UInt8)) (u : List UInt8), (∀ x ∈ ls, okL x = true) → ls.length ≤ 8 →
    Good (s0 ++ u ++ putS ks ls) (putN ks ((s0 ++ u).length : Nat) ls)
  | [], u, _, _ => by intro k hk; simp [putN] at hk
  | p :: r, u, hok, h8 => by
    have hp := hok p (by simp)
    have hrok : ∀ x ∈ r, okL x = true := fun x hx => hok x (List.mem_cons_of_mem _ hx)
    have hm := may_join h8 hok
    have h8' : (p :: r).length ≤ 8 := h8
    simp only [List.length_cons] at h8
    have hst := (put_told hg (p :: r) u (s0 ++ u).length hok h8' (by simp)).2
    intro k hk
    rw [putN] at hk
    rw [putS] at hst ⊢
    cases hf : findK ks (join (p :: r)) with
    | some a => rw [hf] at hk; simp at hk
    | none =>
      rw [hf] at hk hst
      simp only at hk hst ⊢
      have ih := put_good hg r (u ++ (UInt8.ofNat p.length :: p)) hrok (by omega)
      have e1 : s0 ++ (u ++ (UInt8.ofNat p.length :: p)) ++ putS ks r = s0 ++ u ++ UInt8.ofNat p.length :: (p ++ putS ks r) := by simp
      have e2 : (((s0 ++ (u ++ (UInt8.ofNat p.length :: p))).length : Nat) : Int) = ((s0 ++ u).length : Nat) + 1 + (p.length : Nat) := by simp; omega
      rw [e1, e2] at ih
      rcases List.mem_append.1 hk with hk | hk
      · split at hk
        · rename_i hfar
          simp only [List.mem_singleton] at hk
          subst hk
          refine ⟨?_, ?_, ?_⟩
          · simp only [knownL, hm.1, join_ne (by simp) hok, Bool.and_eq_true, decide_eq_true_eq, Bool.not_eq_true', decide_eq_false_iff_not, and_true, not_false_eq_true]
            exact ⟨⟨trivial, by omega⟩, hfar⟩
          · simp; omega
          · simp only [Int.toNat_natCast, hm.2]
            exact ⟨_, hst trivial (by simp)⟩
        · simp at hk
      · exact ih k hk

theorem putS_len (ks : List Kn) : ∀ ls : List (List UInt8), (∀ x ∈ ls, okL x = true) → 1 ≤ (putS ks ls).length ∧ (putS ks ls).length ≤ 1 + 9 * ls.length
  | [], _ => by simp [putS]
  | p :: r, hok => by
    have hpb := okL_bounds (hok p (by simp))
    have := putS_len ks r (fun x hx => hok x (List.mem_cons_of_mem _ hx))
    rw [putS]
    split
    · simp [be2]; omega
    · simp; omega
theorem putS_shorter (ks : List Kn) : ∀ ls : List (List UInt8), (∀ x ∈ ls, okL x = true) → (putS ks ls).length ≤ (putS [] ls).length
  | [], _ => by simp [putS]
  | p :: r, hok => by
    have hpb := okL_bounds (hok p (by simp))
    have h1 := putS_shorter ks r (fun x hx => hok x (List.mem_cons_of_mem _ hx))
    have h2 := (putS_len [] r (fun x hx => hok x (List.mem_cons_of_mem _ hx))).1
    have e : putS [] (p :: r) = UInt8.ofNat p.length :: (p ++ putS [] r) := rfl
    rw [e, putS]
    split
    · simp [be2]; omega
    · simp; omega
theorem findK_append (ks ns : List Kn) (x : List UInt8) : findK (ks ++ ns) x = match findK ks x with | some a => some a | none => findK ns x := by
  induction ks with
  | nil => rfl
  | cons k r ih =>
    simp only [List.cons_append, findK]
    split
    · rfl
    · exact ih
/-- What was put is known. -/
theorem put_known (ks : List Kn) (at_ : Int) (ls : List (List UInt8)) (hat : at_ < 16384) (h : ls ≠ []) : (findK (ks ++ putN ks at_ ls) (join ls)).isSome = true := by
  rw [findK_append]
  cases hf : findK ks (join ls) with
  | some a => rfl
  | none =>
    cases ls with
    | nil => exact absurd rfl h
    | cons p r =>
      simp only
      rw [putN, hf]
      simp [hat, findK]

end Go.Pin

/-
  Plain lemmas that speak of no program: where a name that is told ends; what stands behind its end does not matter to it.
-/
namespace Go.Pin
set_option maxRecDepth 100000
open Go.Proofs.YtdmooggmoihggaaGreatDoor (okL_bounds join_len wstep_ok wstep_err)

theorem wstep_cases {s : List UInt8} {x y : St} {d : Bool} (h : stepWire s x = .inr (d, y)) : ∃ c : UInt8, s[x.at_]? = some c ∧
    ((c.toNat = 0 ∧ d = true ∧ y = { x with en := goOn x.en (x.at_ + 1) }) ∨
     (c.toNat ≠ 0 ∧ c.toNat ≤ 8 ∧ x.at_ + 1 + c.toNat ≤ s.length ∧ okL (foldL ((s.drop (x.at_ + 1)).take c.toNat)) = true ∧ x.labs.length ≠ 8 ∧ d = false ∧ y = { x with at_ := x.at_ + 1 + c.toNat, labs := x.labs ++ [foldL ((s.drop (x.at_ + 1)).take c.toNat)] }) ∨
     (192 ≤ c.toNat ∧ ∃ e : UInt8, s[x.at_ + 1]? = some e ∧ (c.toNat - 192) * 256 + e.toNat < x.row ∧ d = false ∧ y = { x with at_ := (c.toNat - 192) * 256 + e.toNat, row := (c.toNat - 192) * 256 + e.toNat, en := goOn x.en (x.at_ + 2) })) := by
  unfold stepWire at h
  split at h
  · cases h
  · rename_i c hc
    refine ⟨c, hc, ?_⟩
    simp only at h
    split at h
    · rename_i h0
      simp only [Sum.inr.injEq, Prod.mk.injEq] at h
      exact .inl ⟨h0, h.1.symm, h.2.symm⟩
    · rename_i h0
      split at h
      · rename_i h8
        split at h
        · cases h
        · rename_i hl
          split at h
          · rename_i hok
            simp only [Sum.inr.injEq, Prod.mk.injEq] at h
            exact .inr (.inl ⟨h0, h8, by omega, hok.1, hok.2, h.1.symm, h.2.symm⟩)
          · cases h
      · split at h
        · rename_i h8 h192
          split at h
          · cases h
          · rename_i e he
            split at h
            · cases h
            · rename_i hp
              simp only [Sum.inr.injEq, Prod.mk.injEq] at h
              exact .inr (.inr ⟨h192, e, he, by omega, h.1.symm, h.2.symm⟩)
        · cases h

theorem at_more {s t : List UInt8} {n : Nat} {c : UInt8} (h : s[n]? = some c) : (s ++ t)[n]? = some c := by
  rw [List.getElem?_append_left (List.getElem?_eq_some_iff.1 h).1]; exact h
theorem at_less {s t : List UInt8} {n : Nat} {c : UInt8} (h : (s ++ t)[n]? = some c) (hn : n < s.length) : s[n]? = some c := by
  rw [List.getElem?_append_left hn] at h; exact h
theorem piece_more {s t : List UInt8} {a k : Nat} (h : a + k ≤ s.length) : ((s ++ t).drop a).take k = (s.drop a).take k := by
  rw [List.drop_append_of_le_length (by omega), List.take_append_of_le_length (by simp; omega)]

theorem wstep_more {s : List UInt8} {x y : St} {d : Bool} (h : stepWire s x = .inr (d, y)) (t : List UInt8) : stepWire (s ++ t) x = .inr (d, y) := by
  obtain ⟨c, hc, hh⟩ := wstep_cases h
  rcases hh with ⟨h0, rfl, rfl⟩ | ⟨h0, h8, hl, hok, h9, rfl, rfl⟩ | ⟨h1, e, he, hp, rfl, rfl⟩
  · exact wstep_zero (at_more hc) h0
  · rw [← piece_more (t := t) hl] at hok ⊢
    exact wstep_label (at_more hc) h0 h8 (by simp; omega) hok h9
  · exact wstep_point (at_more hc) (at_more he) h1 hp

theorem run_more {s : List UInt8} (t : List UInt8) : ∀ (f : Nat) (x y : St), runWire f s x = .inr y → runWire f (s ++ t) x = .inr y
  | 0, x, y, h => by cases h
  | f + 1, x, y, h => by
    unfold runWire at h ⊢
    cases hs : stepWire s x with
    | inl e => rw [hs] at h; cases h
    | inr dy =>
      obtain ⟨d, z⟩ := dy
      rw [hs] at h
      rw [wstep_more hs t]
      cases d
      · exact run_more t f z y h
      · exact h

theorem mu_more (s t : List UInt8) (x : St) : muWire s x ≤ muWire (s ++ t) x := by
  simp only [muWire, List.length_append]
  have : x.row * (s.length + 1) ≤ x.row * (s.length + t.length + 1) := Nat.mul_le_mul_left _ (by omega)
  omega
theorem all_run {s : List UInt8} {x : St} {f : Nat} (h : muWire s x < f) : allWire s x = runWire f s x := run_fuel s _ _ x (by omega) h

/-- What is told of a text is told of a longer one. -/
theorem get_more {s : List UInt8} {at_ : Nat} {n : List UInt8} {e : Int} (h : getL s at_ = (n, e, 0)) (t : List UInt8) : getL (s ++ t) at_ = (n, e, 0) := by
  unfold getL at h ⊢
  rw [all_run (f := muWire (s ++ t) ⟨at_, at_, 0, []⟩ + 1) (Nat.lt_succ_of_le (mu_more s t _))] at h
  rw [all_run (f := muWire (s ++ t) ⟨at_, at_, 0, []⟩ + 1) (Nat.lt_succ_self _)]
  cases hr : runWire (muWire (s ++ t) ⟨at_, at_, 0, []⟩ + 1) s ⟨at_, at_, 0, []⟩ with
  | inl er =>
    rw [hr] at h
    simp only [endWire, Prod.mk.injEq] at h
    have : ∀ (f : Nat) (x : St), muWire s x < f → runWire f s x ≠ .inl 0 := by
      intro f
      induction f with
      | zero => intro x hx; omega
      | succ f ih =>
        intro x hx
        unfold runWire
        cases hs : stepWire s x with
        | inl e => intro hh; simp only [Sum.inl.injEq] at hh; rcases wstep_err hs with h | h <;> omega
        | inr dy =>
          obtain ⟨d, z⟩ := dy
          cases d
          · exact ih z (by have := wstep_mu hs; omega)
          · intro hh; cases hh
    exact absurd (by rw [hr, h.2.2]) (this _ ⟨at_, at_, 0, []⟩ (Nat.lt_succ_of_le (mu_more s t _)))
  | inr y =>
    rw [run_more t _ _ y hr]
    rw [hr] at h
    exact h

theorem byte_low {l : List UInt8} (h : okL (foldL l) = true) {c : UInt8} (hc : c ∈ l) : c.toNat < 192 := by
  simp only [okL, Bool.and_eq_true, List.all_eq_true] at h
  have h1 := h.2 (foldC c) (List.mem_map.2 ⟨c, hc, rfl⟩)
  have hb := c.toNat_lt
  simp only [okC, okByte, Bool.or_eq_true, decide_eq_true_eq] at h1
  unfold foldC at h1
  split at h1
  · omega
  · omega

/-- Behind the first pointer, at P, the way never comes past it. -/
theorem run_back {s t : List UInt8} {P p0 : Nat} {c d : UInt8} (hc : (s ++ t)[P]? = some c) (hd : (s ++ t)[P + 1]? = some d) (h192 : 192 ≤ c.toNat) (hp0 : (c.toNat - 192) * 256 + d.toNat = p0) (hP : P + 2 ≤ s.length) (hpP : p0 ≤ P) :
    ∀ (f : Nat) (x y : St), x.en ≠ 0 → x.at_ ≤ P → x.row ≤ p0 → runWire f (s ++ t) x = .inr y → y.en = x.en ∧ runWire f s x = .inr y
  | 0, x, y, _, _, _, h => by cases h
  | f + 1, x, y, hen, hat, hrow, h => by
    unfold runWire at h ⊢
    cases hs : stepWire (s ++ t) x with
    | inl e => rw [hs] at h; cases h
    | inr dy =>
      obtain ⟨dd, z⟩ := dy
      rw [hs] at h
      obtain ⟨c1, hc1, hh⟩ := wstep_cases hs
      have hne : x.at_ ≠ P := by
        intro e
        rw [e, hc] at hc1
        cases hc1
        rcases hh with ⟨h0, _⟩ | ⟨h0, h8, _⟩ | ⟨h1, e1, he, hp, _⟩
        · omega
        · omega
        · rw [e, hd] at he; cases he; omega
      have hgo : ∀ k, goOn x.en k = x.en := fun k => by simp [goOn, hen]
      rcases hh with ⟨h0, rfl, rfl⟩ | ⟨h0, h8, hl, hok, h9, rfl, rfl⟩ | ⟨h1, e, he, hp, rfl, rfl⟩
      · rw [wstep_zero (at_less hc1 (by omega)) h0]
        simp only [Sum.inr.injEq] at h
        subst h
        exact ⟨hgo _, rfl⟩
      · have hlt : x.at_ + 1 + c1.toNat ≤ P := by
          refine Nat.not_lt.1 fun hlt => ?_
          have hm : c ∈ ((s ++ t).drop (x.at_ + 1)).take c1.toNat := by
            refine List.mem_of_getElem? (i := P - (x.at_ + 1)) ?_
            rw [List.getElem?_take, if_pos (by omega), List.getElem?_drop, show x.at_ + 1 + (P - (x.at_ + 1)) = P by omega]
            exact hc
          have := byte_low hok hm
          omega
        have hpm := piece_more (s := s) (t := t) (a := x.at_ + 1) (k := c1.toNat) (by omega)
        rw [hpm] at hok h
        rw [wstep_label (at_less hc1 (by omega)) h0 h8 (by omega) hok h9]
        simp only at h ⊢
        exact run_back hc hd h192 hp0 hP hpP f _ y (by simpa using hen) (by simpa using hlt) (by simpa using hrow) h
      · rw [wstep_point (at_less hc1 (by omega)) (at_less he (by omega)) h1 hp]
        simp only [hgo] at h ⊢
        exact run_back hc hd h192 hp0 hP hpP f _ y (by simpa using hen) (by simp only; omega) (by simp only; omega) h

theorem run_on {s t : List UInt8} : ∀ (f : Nat) (x y : St), x.en = 0 → x.row ≤ x.at_ → runWire f (s ++ t) x = .inr y → x.at_ < y.en ∧ (y.en ≤ s.length → runWire f s x = .inr y) ∧ y.en ≤ (s ++ t).length
  | 0, x, y, _, _, h => by cases h
  | f + 1, x, y, hen, hrow, h => by
    unfold runWire at h ⊢
    cases hs : stepWire (s ++ t) x with
    | inl e => rw [hs] at h; cases h
    | inr dy =>
      obtain ⟨dd, z⟩ := dy
      rw [hs] at h
      obtain ⟨c1, hc1, hh⟩ := wstep_cases hs
      have hgo : ∀ k, goOn x.en k = k := fun k => by simp [goOn, hen]
      have hl1 := (List.getElem?_eq_some_iff.1 hc1).1
      rcases hh with ⟨h0, rfl, rfl⟩ | ⟨h0, h8, hl, hok, h9, rfl, rfl⟩ | ⟨h1, e, he, hp, rfl, rfl⟩
      · simp only [Sum.inr.injEq] at h
        subst h
        simp only [hgo]
        refine ⟨by omega, fun hle => ?_, by omega⟩
        rw [wstep_zero (at_less hc1 (by omega)) h0]
        simp only [hgo]
      · simp only at h
        obtain ⟨i1, i2, i3⟩ := run_on f _ y (by simpa using hen) (by simp only; omega) h
        simp only at i1
        refine ⟨by omega, fun hle => ?_, i3⟩
        have hpm := piece_more (s := s) (t := t) (a := x.at_ + 1) (k := c1.toNat) (by omega)
        rw [hpm] at hok h i2
        rw [wstep_label (at_less hc1 (by omega)) h0 h8 (by omega) hok h9]
        exact i2 hle
      · simp only [hgo] at h
        have hl2 := (List.getElem?_eq_some_iff.1 he).1
        by_cases hle : x.at_ + 2 ≤ s.length
        · obtain ⟨i1, i2⟩ := run_back (P := x.at_) hc1 he h1 rfl hle (by omega) f _ y (by simp) (by simp only; omega) (by simp only; omega) h
          simp only at i1
          refine ⟨by omega, fun _ => ?_, by omega⟩
          rw [wstep_point (at_less hc1 (by omega)) (at_less he (by omega)) h1 hp]
          simp only [hgo]
          exact i2
        · have i1 : y.en = x.at_ + 2 := by
            have hk : ∀ (f : Nat) (x y : St), x.en ≠ 0 → runWire f (s ++ t) x = .inr y → y.en = x.en := by
              intro f
              induction f with
              | zero => intro x y _ h; cases h
              | succ f ih =>
                intro x y hx h
                unfold runWire at h
                cases hs : stepWire (s ++ t) x with
                | inl e => rw [hs] at h; cases h
                | inr dy =>
                  obtain ⟨dd, z⟩ := dy
                  rw [hs] at h
                  have hz : z.en = x.en := by
                    obtain ⟨c2, _, hh⟩ := wstep_cases hs
                    rcases hh with ⟨_, _, rfl⟩ | ⟨_, _, _, _, _, _, rfl⟩ | ⟨_, e2, _, _, _, rfl⟩ <;> simp [goOn, hx]
                  cases dd
                  · rw [ih z y (by rw [hz]; exact hx) h, hz]
                  · simp only [Sum.inr.injEq] at h; subst h; exact hz
            exact hk f _ y (by simp) h
          exact ⟨by omega, fun h => by omega, by omega⟩

theorem get_run {s : List UInt8} {at_ : Nat} {n : List UInt8} {e : Int} (h : getL s at_ = (n, e, 0)) (f : Nat) (hf : muWire s ⟨at_, at_, 0, []⟩ < f) : ∃ y, runWire f s ⟨at_, at_, 0, []⟩ = .inr y ∧ n = join y.labs ∧ e = y.en := by
  unfold getL at h
  rw [all_run hf] at h
  cases hr : runWire f s ⟨at_, at_, 0, []⟩ with
  | inr y =>
    rw [hr] at h
    simp only [endWire, Prod.mk.injEq, and_true] at h
    exact ⟨y, rfl, h.1.symm, h.2.symm⟩
  | inl er =>
    rw [hr] at h
    simp only [endWire, Prod.mk.injEq] at h
    have : ∀ (f : Nat) (x : St), muWire s x < f → runWire f s x ≠ .inl 0 := by
      intro f
      induction f with
      | zero => intro x hx; omega
      | succ f ih =>
        intro x hx
        unfold runWire
        cases hs : stepWire s x with
        | inl e => intro hh; simp only [Sum.inl.injEq] at hh; rcases wstep_err hs with h | h <;> omega
        | inr dy =>
          obtain ⟨d, z⟩ := dy
          cases d
          · exact ih z (by have := wstep_mu hs; omega)
          · intro hh; cases hh
    exact absurd (by rw [hr, h.2.2]) (this _ ⟨at_, at_, 0, []⟩ hf)
/-- What stands behind its end does not matter to a name. -/
theorem get_less {s t : List UInt8} {at_ : Nat} {n : List UInt8} {e : Int} (h : getL (s ++ t) at_ = (n, e, 0)) (he : e ≤ s.length) : getL s at_ = (n, e, 0) := by
  obtain ⟨y, hr, rfl, rfl⟩ := get_run h _ (Nat.lt_succ_self _)
  obtain ⟨_, i2, _⟩ := run_on _ _ y rfl (Nat.le_refl _) hr
  unfold getL
  rw [all_run (Nat.lt_succ_of_le (mu_more s t _)), i2 (by omega)]
  rfl
theorem get_ends {s : List UInt8} {at_ : Nat} {n : List UInt8} {e : Int} (h : getL s at_ = (n, e, 0)) : (at_ : Int) < e ∧ e ≤ s.length := by
  obtain ⟨y, hr, rfl, rfl⟩ := get_run h _ (Nat.lt_succ_self _)
  have hr' : runWire (Nat.succ (muWire s ⟨at_, at_, 0, []⟩)) (s ++ []) ⟨at_, at_, 0, []⟩ = .inr y := by rw [List.append_nil]; exact hr
  obtain ⟨i1, _, i3⟩ := run_on _ _ y rfl (Nat.le_refl _) hr'
  simp only [List.append_nil] at i1 i3
  omega
theorem run_labs {s : List UInt8} : ∀ (f : Nat) (x y : St), x.labs.length ≤ 8 → (∀ l ∈ x.labs, okL l = true) → runWire f s x = .inr y → y.labs.length ≤ 8 ∧ ∀ l ∈ y.labs, okL l = true
  | 0, x, y, _, _, h => by cases h
  | f + 1, x, y, h8, hok, h => by
    unfold runWire at h
    cases hs : stepWire s x with
    | inl e => rw [hs] at h; cases h
    | inr dy =>
      obtain ⟨d, z⟩ := dy
      rw [hs] at h
      have hz := wstep_ok hs h8 hok
      cases d
      · exact run_labs f z y hz.1 hz.2 h
      · simp only [Sum.inr.injEq] at h; subst h; exact hz
theorem get_may {s : List UInt8} {at_ : Nat} {n : List UInt8} {e : Int} (h : getL s at_ = (n, e, 0)) : mayL n = true ∧ n.length ≤ 72 := by
  obtain ⟨y, hr, rfl, rfl⟩ := get_run h _ (Nat.lt_succ_self _)
  obtain ⟨h8, hok⟩ := run_labs _ _ y (by simp) (by simp) hr
  have := join_len y.labs hok
  exact ⟨(may_join h8 hok).1, by omega⟩

end Go.Pin
