/-
  The map of package wire's placesOf: where each known name stands; contract of placesOf.
-/
import Derived.Test.YteaediobcjednaaWireMay
import Derived.Maps.OwnSet
import Derived.DeepKeys4
namespace Go.Proofs.Yteaediobcjednaa
open Go.ChangeShapes Go.WideShapes Go.ChangeAt Go.RowKit Go.Pin Go.PlainAid

theorem Try.laid : laidOutB Try.prog = true := by kernel_rfl
theorem Try.tailRow : (82 : TypeId) < Try.prog.types.size := of_decide_eq_true (by kernel_rfl)
theorem Try.tailWide : (match Try.prog.underlying 82 with | some (.array _ _) | some (.struct _) => true | _ => false) = true := by kernel_rfl
set_option maxRecDepth 100000 in
theorem Try.tailKeyed : Maps.Keyed Try.prog 82 := Maps.Keyed.of_law (deep_law_laid Try.laid (m := 3) (by omega) Try.tailRow (by kernel_rfl) Try.tailWide)
theorem Try.zeroInt (w : World) : (zeroValue 3).run Try.prog w = .ok (.int .i64 0) w := by kernel_rfl
theorem Try.tailKeyType : Try.prog.keyType 82 = true := by kernel_rfl
theorem Try.tailCells : Try.prog.cellsOf 82 = 2 := by kernel_rfl
theorem Try.strCells : Try.prog.cellsOf 9 = 1 := by kernel_rfl
theorem Try.typesBig : ∃ n, Try.prog.types.size = n + 2 := ⟨Try.prog.types.size - 2, by have h : (82 : Nat) < Try.prog.types.size := Try.tailRow; omega⟩

theorem key_is (l r : ByteArray) (hl : l.size ≤ maxLen) (hr : r.size ≤ maxLen) : ∃ kl, keyOf Try.prog 82 (.agg #[.string l, .string r]) = some kl := by
  obtain ⟨n, hn⟩ := Try.typesBig
  have hu := Try.underlying82
  have hs := Try.underlying9
  have hf : (Value.agg #[.string l, .string r]).formed Try.prog 82 = true := by simp [Value.formed, hu, Try.tailCells]
  have hstr : ∀ s : ByteArray, s.size ≤ maxLen → Try.prog.keyLits (n + 2) 9 [.string s] = some [.string s.data.toList] := by
    intro s h
    unfold Program.keyLits
    simp [hs, h]
  have hk : Try.prog.keyLits (n + 2 + 1) 82 (Value.agg #[.string l, .string r]).cells.toList = some [.string l.data.toList, .string r.data.toList] := by
    unfold Program.keyLits
    simp [hu, Value.cells, Try.tailCells, Try.strCells, hstr l hl, hstr r hr]
  refine ⟨.string (keyBytes [.string l.data.toList, .string r.data.toList]), ?_⟩
  unfold keyOf
  rw [hu]
  simp only [Try.tailKeyType, hf, hn, hk]
  rfl

/-- The first of ks with this label and this rest. -/
def findT : List Kn → List UInt8 → List UInt8 → Option Int
  | [], _, _ => none
  | k :: r, l, m => if headL k.1 = l ∧ tailL k.1 = m then some k.2 else findT r l m
theorem findT_snoc (ks : List Kn) (k : Kn) (l m : List UInt8) : findT (ks ++ [k]) l m = match findT ks l m with | some a => some a | none => if headL k.1 = l ∧ tailL k.1 = m then some k.2 else none := by
  induction ks with
  | nil => simp [findT]
  | cons x r ih =>
    simp only [List.cons_append, findT]
    by_cases h : headL x.1 = l ∧ tailL x.1 = m
    · simp [h]
    · simp only [h, if_false]; exact ih

theorem head_tail {y : List UInt8} (hm : mayL y = true) (hy : y ≠ []) : y = if tailL y = [] then headL y else headL y ++ 46 :: tailL y := by
  have hl := labsL_yes hm hy
  cases hs : split y with
  | nil => exact absurd hs (split_ne y)
  | cons p r =>
    have hp : okL p = true := labsL_ok (l := y) (by rw [hl, hs]; simp)
    have hj := join_split y
    rw [hs] at hj
    have hd : (46 : UInt8) ∉ p := okL_nodot hp
    by_cases hr : r = []
    · subst hr
      simp only [join] at hj
      obtain ⟨h1, h2⟩ := head_miss y (by rw [← hj]; exact hd)
      rw [h2, if_pos rfl, h1]
    · rw [join_cons p r hr] at hj
      obtain ⟨h1, h2⟩ := head_hit p (join r) hd
      rw [hj] at h1 h2
      have hne : join r ≠ [] := join_ne hr (fun x hx => labsL_ok (l := y) (by rw [hl, hs]; exact List.mem_cons_of_mem _ hx))
      rw [h1, h2, if_neg hne, hj]
theorem findT_is (ks : List Kn) (x : List UInt8) (hm : mayL x = true) (hx : x ≠ []) (hk : ks.all knownL = true) : findT ks (headL x) (tailL x) = findK ks x := by
  induction ks with
  | nil => rfl
  | cons k r ih =>
    simp only [List.all_cons, Bool.and_eq_true] at hk
    have hkk : mayL k.1 = true ∧ k.1 ≠ [] := by
      rcases known_cases k with ⟨h, _⟩ | ⟨h, _⟩ | ⟨h, _⟩ | ⟨h, _⟩ | ⟨_, h1, h2, _⟩
      · rw [hk.1] at h; cases h
      · rw [hk.1] at h; cases h
      · rw [hk.1] at h; cases h
      · rw [hk.1] at h; cases h
      · exact ⟨h2, h1⟩
    simp only [findT, findK]
    by_cases he : k.1 = x
    · rw [if_pos he, if_pos ⟨by rw [he], by rw [he]⟩]
    · rw [if_neg he, if_neg, ih hk.2]
      rintro ⟨h1, h2⟩
      apply he
      rw [head_tail hkk.1 hkk.2, head_tail hm hx, h1, h2]

/-- Block b is a map that tells f. -/
def Places (w : World) (b n : Nat) (f : List UInt8 → List UInt8 → Option Int) : Prop :=
  ∃ D : DataW Unit, w.ownsMap Try.prog 82 (plainElem Try.prog 3) b n D ∧ ∀ l r kl, keyOf Try.prog 82 (.agg #[.string (mk l), .string (mk r)]) = some kl →
    Maps.has D kl = (f l r).isSome ∧ D.atKey kl (.lit (.int .i64 0)) = .lit (.int .i64 ((f l r).getD 0))
theorem Places.lt {w : World} {b n : Nat} {f : List UInt8 → List UInt8 → Option Int} (h : Places w b n f) : b < w.heap.size := by
  obtain ⟨D, hown, _⟩ := h
  exact hown.lt
theorem Places.keep {w w' : World} {b n : Nat} {f : List UInt8 → List UInt8 → Option Int} (h : Places w b n f) (he : w'.heap[b]? = w.heap[b]?) : Places w' b n f := by
  obtain ⟨D, ⟨es, clock, hb, r⟩, hf⟩ := h
  exact ⟨D, ⟨es, clock, he.trans hb, r⟩, hf⟩
theorem own_keep {w w' : World} {b n : Nat} {D : DataW Unit} (h : w.ownsMap Try.prog 82 (plainElem Try.prog 3) b n D) (he : w'.heap[b]? = w.heap[b]?) : w'.ownsMap Try.prog 82 (plainElem Try.prog 3) b n D := by
  obtain ⟨es, clock, hb, r⟩ := h
  exact ⟨es, clock, he.trans hb, r⟩
theorem Places.below {w w' : World} {b n : Nat} {f : List UInt8 → List UInt8 → Option Int} (h : Places w b n f) {m : Nat} (hb : Below m w w') (hm : b < m) (_hw : m ≤ w.heap.size) : Places w' b n f := h.keep (hb.block b hm)
theorem places_made (w : World) : Places (w.alloc (.map #[] 0)) w.heap.size 0 (fun _ _ => none) :=
  ⟨.map [], World.ownsMap_made _ _ _ _, fun _ _ _ _ => ⟨rfl, rfl⟩⟩
theorem run_mk (n : Int) (w : World) : (Instr.makeMap 78 (some (.int .i64 n))).run Try.prog w = .ok (.map (some w.heap.size)) (w.alloc (.map #[] 0)) := by
  simp [Instr.makeMap, run_underlying Try.underlying78]
  rfl
theorem keyLit_inj {a b c d : List UInt8} {kl : Lit} (h1 : keyOf Try.prog 82 (.agg #[.string (mk a), .string (mk b)]) = some kl) (h2 : keyOf Try.prog 82 (.agg #[.string (mk c), .string (mk d)]) = some kl) : a = c ∧ b = d := by
  have := Try.tailKeyed.inj h1 h2
  simp only [Value.agg.injEq, Array.mk.injEq, List.cons.injEq, Value.string.injEq, and_true] at this
  exact ⟨mk_inj this.1, mk_inj this.2⟩
theorem places_put {w : World} {b n : Nat} {D : DataW Unit} {f : List UInt8 → List UInt8 → Option Int} {l r : List UInt8} {kl : Lit} {c : Int}
    (hown : w.ownsMap Try.prog 82 (plainElem Try.prog 3) b n (D.put kl (.lit (.int .i64 c)))) (hD : Maps.IsMap D) (hkl : keyOf Try.prog 82 (.agg #[.string (mk l), .string (mk r)]) = some kl)
    (hf : ∀ l r kl, keyOf Try.prog 82 (.agg #[.string (mk l), .string (mk r)]) = some kl → Maps.has D kl = (f l r).isSome ∧ D.atKey kl (.lit (.int .i64 0)) = .lit (.int .i64 ((f l r).getD 0))) :
    Places w b n (fun x y => if x = l ∧ y = r then some c else f x y) := by
  refine ⟨_, hown, fun x y k2 h2 => ?_⟩
  by_cases he : x = l ∧ y = r
  · obtain ⟨rfl, rfl⟩ := he
    rw [hkl] at h2
    cases h2
    have hlit := Try.tailKeyed.key hkl
    rw [Maps.has_put_same hD hlit, Maps.atKey_put_same hD hlit]
    simp
  · have hne : k2 ≠ kl := by
      rintro rfl
      exact he (keyLit_inj h2 hkl)
    simp only [he, if_false]
    rw [Maps.has_put_other hne, Maps.atKey_put_other hne]
    exact hf x y k2 h2

theorem places_next {w : World} {b n : Nat} {ks : List Kn} {k : Kn} (h : Places w b n (findT ks)) (hs : (findT ks (headL k.1) (tailL k.1)).isSome = true) : Places w b (n + 1) (findT (ks ++ [k])) := by
  obtain ⟨D, hown, hf⟩ := h
  refine ⟨D, hown.mono (by omega), fun l r kl hkl => ?_⟩
  have : findT (ks ++ [k]) l r = findT ks l r := by
    rw [findT_snoc]
    cases hh : findT ks l r with
    | some a => rfl
    | none =>
      simp only
      rw [if_neg]
      rintro ⟨rfl, rfl⟩
      rw [hh] at hs; cases hs
  rw [this]
  exact hf l r kl hkl
theorem places_more {w : World} {b n : Nat} {ks : List Kn} {k : Kn} (hs : findT ks (headL k.1) (tailL k.1) = none) (h : Places w b n (fun x y => if x = headL k.1 ∧ y = tailL k.1 then some k.2 else findT ks x y)) : Places w b n (findT (ks ++ [k])) := by
  have : findT (ks ++ [k]) = (fun x y => if x = headL k.1 ∧ y = tailL k.1 then some k.2 else findT ks x y) := by
    funext l r
    rw [findT_snoc]
    by_cases he : l = headL k.1 ∧ r = tailL k.1
    · obtain ⟨rfl, rfl⟩ := he
      simp [hs]
    · rw [if_neg he]
      cases hh : findT ks l r with
      | some a => rfl
      | none => simp only; rw [if_neg (fun e => he ⟨e.1.symm, e.2.symm⟩)]
  rw [this]; exact h
theorem head_len (l : List UInt8) : (headL l).length ≤ l.length := by unfold headL; exact (List.takeWhile_sublist _).length_le
theorem tail_len (l : List UInt8) : (tailL l).length ≤ l.length := by unfold tailL; exact ((List.drop_sublist _ _).trans (List.dropWhile_sublist _)).length_le
theorem take_kn (ks : List Kn) (j : Nat) (h : j < ks.length) : ks.take (j + 1) = ks.take j ++ [knAt ks j] := by
  unfold knAt
  rw [List.take_add_one, List.getD_eq_getElem?_getD, List.getElem?_eq_getElem h]; rfl

theorem placesOf_none (a : Option Addr) (cap : Nat) (w : World) :
    Calls Try.prog 43 #[.slice a 0 cap] w fun e w' => e = .returned (.map (some w.heap.size)) ∧ Places w' w.heap.size 0 (findT []) ∧ Below w.heap.size w w' := by
  have hmm := run_mk
  go_enter Try.func43, Try.ntmps43
  go_wp2
  go_rounds 1
  go_ret
  exact ⟨rfl, places_made w, (Below.refl _ _).alloc (Nat.le_refl _) _⟩

set_option maxRecDepth 100000 in
theorem placesOf_from (x : Addr) (cap : Nat) (ks : List Kn) (w : World) (hl : ks.length ≤ 1000000000) (hs : ∀ k ∈ ks, k.1.length ≤ maxLen) (hw : ∀ k ∈ ks, (Lit.int .i64 k.2).wf = true) (h : KnFrom w x ks) :
    Calls Try.prog 43 #[.slice (some x) ks.length cap] w fun e w' => e = .returned (.map (some w.heap.size)) ∧ Places w' w.heap.size ks.length (findT ks) ∧ Below w.heap.size w w' := by
  have hmm := run_mk
  have H : Hid (KnFrom w x ks) := h
  have Hs : Hid (∀ j, j < ks.length → (knAt ks j).1.length ≤ maxLen ∧ (Lit.int .i64 (knAt ks j).2).wf = true) := fun j hj => ⟨hs _ (knAt_mem hj), hw _ (knAt_mem hj)⟩
  clear h hs hw
  go_enter Try.func43, Try.ntmps43
  go_wp2
  go_loopw [14] (fun i wr => ∃ j : Nat, j ≤ ks.length ∧ i = .int .i64 j ∧ Hid (Places wr w.heap.size j (findT (ks.take j))) ∧ Below w.heap.size w wr) (fun i _ => ks.length - (intOf i).toNat)
  case atStart => exact ⟨0, Nat.zero_le _, rfl, places_made w, (Below.refl _ _).alloc (Nat.le_refl _) _⟩
  case round =>
    obtain ⟨j, hj, rfl, hpl, B⟩ := hrel
    clear hmm
    by_cases hlt : j < ks.length
    · obtain ⟨h0, h1⟩ := (H.out j hlt).below B
      obtain ⟨hsz, hwf⟩ := Hs.out j hlt
      have Htk : Hid (ks.take (j + 1) = ks.take j ++ [knAt ks j]) := take_kn ks j hlt
      generalize knAt ks j = k at *
      obtain ⟨n, a⟩ := k
      simp only at h0 h1 hsz hwf
      have HT : Hid (∀ w, _) := fun w => tailOf_c n w hsz
      obtain ⟨kl, hkl⟩ := key_is (mk (headL n)) (mk (tailL n)) (by rw [size_mk]; exact Nat.le_trans (head_len n) hsz) (by rw [size_mk]; exact Nat.le_trans (tail_len n) hsz)
      have Hkl : Hid (_) := hkl
      clear hkl hsz
      go_wp2_with fail
      refine (HT.out _).mono ?_; rintro e w1 ⟨rfl, hb1⟩
      obtain ⟨D, hown, hf⟩ := hpl.out
      have hlt0 := hown.lt
      have hown1 := own_keep hown (w' := w1) ((hb1.block w.heap.size (by simp; omega)).trans (((Below.refl wr.heap.size wr).alloc (Nat.le_refl _) _).block _ hlt0))
      have hfk := hf _ _ _ Hkl.out
      have Hf : Hid (_) := hf
      have c1 := (hb1.cell (p := ⟨wr.heap.size, 1, none⟩) (by simp)).trans (new_cell wr _ _ 1 _ rfl)
      have hlt1 : wr.heap.size < w1.heap.size := by have := hb1.size; simp at this; omega
      have B1 : Below w.heap.size w w1 := (B.alloc B.size _).trans (hb1.mono (by simp; have := B.size; omega))
      have hD : Hid (Maps.IsMap D) := hown.isMap
      clear hb1 hf hown hpl h0 h1
      have c1' : ∀ o, (w1.alloc o).cell? ⟨wr.heap.size, 1, none⟩ = some (.int .i64 a) := fun o => (((Below.refl w1.heap.size w1).alloc (Nat.le_refl _) o).cell (p := ⟨wr.heap.size, 1, none⟩) hlt1).trans c1
      cases hq : findT (ks.take j) (headL n) (tailL n) with
      | some q =>
        rw [hq] at hfk
        obtain ⟨hf1, hf2⟩ := hfk
        have Hq : Hid (_) := hq
        have hf1' : Maps.has D kl = true := hf1
        clear hf1 hf2 hq
        go_wp2_with (first | (at_lookup; refine wpList_lookup_own_ok_int _ rfl _ _ 78 rfl 82 3 .i64 Try.tailKeyed Try.underlying78 Try.underlying3 (Try.zeroInt _) w.heap.size j D rfl (hown1.alloc _) _ kl rfl Hkl.out ?_; intro c hat hwc; clear hat hwc; rw [hf1']) | go_in)
        have P1 : ∀ o, Places (w1.alloc o) w.heap.size j (findT (ks.take j)) := fun o => ⟨D, hown1.alloc _, Hf.out⟩
        refine ⟨⟨j + 1, by omega, by go_num, ?_, B1.alloc B1.size _⟩, by simp [intOf]; omega⟩
        show Places _ _ _ _
        rw [Htk.out]
        exact places_next (P1 _) (by rw [Hq.out]; rfl)
      | none =>
        rw [hq] at hfk
        obtain ⟨hf1, hf2⟩ := hfk
        have Hq : Hid (_) := hq
        have hf1' : Maps.has D kl = false := hf1
        clear hf1 hf2 hq
        go_wp2_with (first | (at_lookup; refine wpList_lookup_own_ok_int _ rfl _ _ 78 rfl 82 3 .i64 Try.tailKeyed Try.underlying78 Try.underlying3 (Try.zeroInt _) w.heap.size j D rfl (hown1.alloc _) _ kl rfl Hkl.out ?_; intro c hat hwc; clear hat hwc; rw [hf1']) | (at_mapUpdate; refine wpList_mapUpdate_own _ rfl _ _ _ 78 rfl 82 3 Try.tailKeyed Try.underlying78 _ w.heap.size j D rfl (hown1.alloc _) (by unfold maxLen; omega) _ _ kl rfl rfl Hkl.out _ [] (plainElem_int Try.underlying3 hwf) ?_; intro w2 hown2 hgrow2) | go_in)
        have B2 : Below w.heap.size w w2 := (B1.alloc B1.size _).grown hgrow2 (by simp; have := B1.size; omega) (fun i hi => by cases hi; exact Nat.le_refl _)
        have P2 : Hid (Places w2 w.heap.size (j + 1) (findT (ks.take (j + 1)))) := by
          show Places _ _ _ _
          rw [Htk.out]
          exact places_more (k := (n, a)) Hq.out (places_put hown2 hD.out Hkl.out Hf.out)
        clear hown2 hgrow2 hown1
        go_wp2
        go_roundw
        case rel => exact ⟨j + 1, by omega, by go_num, P2, B2⟩
        case measure => simp [intOf]; omega
    · obtain rfl : j = ks.length := by omega
      have HP : Hid (Places wr w.heap.size ks.length (findT ks)) := by have := hpl.out; rwa [List.take_length] at this
      go_wp2
      go_ret
      exact ⟨rfl, HP.out, B⟩

end Go.Proofs.Yteaediobcjednaa
