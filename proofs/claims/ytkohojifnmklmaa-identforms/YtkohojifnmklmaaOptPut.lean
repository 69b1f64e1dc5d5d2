/-
  Contracts of package opts: which options may be; how they are put.
-/
import Derived.Test.YtkohojifnmklmaaOptMem
import Derived.Maps.OwnSet
namespace Go.Proofs.Ytkohojifnmklmaa
open Go.ChangeShapes Go.WideShapes Go.ChangeAt Go.RowKit Go.Pin Go.PlainAid

theorem wf_small {c : Int} (h0 : 0 ≤ c) (h1 : c ≤ 9223372036854775807) : (Lit.int .i64 c).wf = true := by
  have e1 : IntKind.i64.min = -9223372036854775808 := by decide
  have e2 : IntKind.i64.max = 9223372036854775807 := by decide
  simp only [Lit.wf, e1, e2, Bool.and_eq_true, decide_eq_true_eq]
  omega
theorem mayHave_c (c : Int) (w : World) : Calls Try.prog 47 #[.int .i64 c] w fun e w' => e = .returned (.bool (decide (0 < c) && decide (c < 255))) ∧ w' = w := by
  by_cases h0 : 0 < c
  · have h1 : decide (0 < c) = true := by simpa using h0
    rw [h1, Bool.true_and]
    go_enter Try.func47, Try.ntmps47
    go_wp2
    go_ret
    exact ⟨rfl, rfl⟩
  · have h1 : decide (0 < c) = false := by simpa using h0
    rw [h1, Bool.false_and]
    go_enter Try.func47, Try.ntmps47
    go_wp2
    go_ret
    exact ⟨rfl, rfl⟩

/-! ### the codes that were seen -/
def cnt : List Int → Nat
  | [] => 0
  | c :: r => if c ∈ r then cnt r else cnt r + 1
theorem cnt_le (L : List Int) : cnt L ≤ L.length := by
  induction L with
  | nil => simp [cnt]
  | cons c r ih => unfold cnt; split <;> simp <;> omega
theorem cnt_iff (L : List Int) : cnt L = L.length ↔ L.Nodup := by
  induction L with
  | nil => simp [cnt]
  | cons c r ih =>
    have := cnt_le r
    unfold cnt
    by_cases h : c ∈ r
    · simp [h]; omega
    · simp [h, ih]
/-- Block b is a set that has seen these codes. -/
def Codes (w : World) (b : Nat) (L : List Int) : Prop := ∃ D : DataW Unit, w.ownsMap Try.prog 3 unitElem b L.length D ∧ Maps.size D = cnt L ∧ ∀ c : Int, Maps.has D (.int .i64 c) = decide (c ∈ L)
theorem Try.intKeyed : Maps.Keyed Try.prog 3 := Maps.int_keyed Try.underlying3
theorem codes_made (w : World) : Codes (w.alloc (.map #[] 0)) w.heap.size [] := ⟨.map [], World.ownsMap_made _ _ _ _, rfl, fun _ => rfl⟩
theorem codes_put {w : World} {b : Nat} {L : List Int} {D : DataW Unit} {c : Int} (hw : (Lit.int .i64 c).wf = true) (ht : Maps.Tidy D) (hown : w.ownsMap Try.prog 3 unitElem b (L.length + 1) (D.put (.int .i64 c) (.agg []))) (hs : Maps.size D = cnt L) (hh : ∀ c : Int, Maps.has D (.int .i64 c) = decide (c ∈ L)) : Codes w b (c :: L) := by
  have hk := Try.intKeyed.key (Maps.keyOf_int_mk Try.underlying3 hw)
  refine ⟨_, hown, ?_, fun x => ?_⟩
  · rw [Maps.size_put ht, hh c, hs]
    by_cases h : c ∈ L <;> simp [cnt, h]
  · by_cases hx : x = c
    · subst hx
      rw [Maps.has_put_same (by obtain ⟨es, rfl, _⟩ := ht; exact ⟨_, rfl⟩) hk]; simp
    · rw [Maps.has_put_other (by intro e; injection e with _ e; exact hx e), hh]
      simp [hx]

theorem run_mkc (w : World) : (Instr.makeMap 79 none).run Try.prog w = .ok (.map (some w.heap.size)) (w.alloc (.map #[] 0)) := by
  simp [Instr.makeMap]
/-- The codes of the first j, the last one first. -/
def codesR (os : List Opn) (j : Nat) : List Int := ((os.take j).map (·.1)).reverse
theorem codesR_succ {os : List Opn} {j : Nat} (h : j < os.length) : codesR os (j + 1) = (opAt os j).1 :: codesR os j := by
  unfold codesR opAt
  rw [List.take_add_one, List.getElem?_eq_getElem h, List.getD_eq_getElem?_getD, List.getElem?_eq_getElem h, List.map_append, List.reverse_append]; rfl
theorem codesR_len {os : List Opn} {j : Nat} (h : j ≤ os.length) : (codesR os j).length = j := by simp [codesR]; omega
theorem may_yes {os : List Opn} (hl : os.length ≤ 32) (h : ∀ j, j < os.length → okO (opAt os j) = true) : mayO os = decide (cnt (codesR os os.length) = os.length) := by
  have e : (codesR os os.length).length = os.length := codesR_len (Nat.le_refl _)
  have := cnt_iff (codesR os os.length)
  rw [e] at this
  unfold mayO
  apply decide_eq_decide.2
  rw [this]
  unfold codesR MayO
  rw [List.take_length, show (List.map (·.1) os).reverse.Nodup ↔ (List.map (·.1) os).Nodup by unfold List.Nodup; rw [List.pairwise_reverse]; exact ⟨fun h => h.imp Ne.symm, fun h => h.imp Ne.symm⟩]
  refine ⟨fun h => h.2.2, fun h' => ⟨hl, fun o ho => ?_, h'⟩⟩
  obtain ⟨j, hj, rfl⟩ := List.getElem_of_mem ho
  have := h j hj
  unfold opAt at this
  rwa [List.getD_eq_getElem?_getD, List.getElem?_eq_getElem hj] at this
theorem may_no {os : List Opn} {j : Nat} (hj : j < os.length) (h : okO (opAt os j) = false) : mayO os = false := by
  unfold mayO
  rw [decide_eq_false_iff_not]
  rintro ⟨_, h2, _⟩
  rw [h2 _ (opAt_mem hj)] at h
  cases h
theorem may_many {os : List Opn} (h : ¬ os.length ≤ 32) : mayO os = false := by
  unfold mayO
  rw [decide_eq_false_iff_not]
  exact fun h' => h h'.1

theorem mayBe_many (a : Option Addr) (n cap : Nat) (w : World) (h : 32 < n) :
    Calls Try.prog 39 #[.slice a n cap] w fun e w' => e = .returned (.bool false) ∧ w' = w := by
  have h' : (32 : Int) < n := by omega
  go_enter Try.func39, Try.ntmps39
  go_wp2
  go_ret
  exact ⟨rfl, rfl⟩
theorem mayBe_none (a : Option Addr) (cap : Nat) (w : World) :
    Calls Try.prog 39 #[.slice a 0 cap] w fun e w' => e = .returned (.bool true) ∧ Below w.heap.size w w' := by
  have hmm := run_mkc
  have hln : ∀ t, (Builtin.len_ #[79] t #[.map (some w.heap.size)]).run Try.prog (w.alloc (.map #[] 0)) = .ok (.int .i64 0) (w.alloc (.map #[] 0)) := fun t => (World.ownsMap_made w Try.prog 3 (unitElem (H := Unit))).len Try.underlying79 t
  go_enter Try.func39, Try.ntmps39
  go_wp2
  go_rounds 1
  go_ret
  exact ⟨rfl, (Below.refl _ _).alloc (Nat.le_refl _) _⟩

set_option maxRecDepth 100000 in
theorem mayBe_from (x : Addr) (cap : Nat) (os : List Opn) (w : World) (h : OpFrom w x os) (hl : os.length ≤ 32) :
    Calls Try.prog 39 #[.slice (some x) os.length cap] w fun e w' => e = .returned (.bool (mayO os)) ∧ Below w.heap.size w w' := by
  have hmm := run_mkc
  have H : Hid (OpFrom w x os) := h
  have Hyes : Hid ((∀ j, j < os.length → okO (opAt os j) = true) → mayO os = decide (cnt (codesR os os.length) = os.length)) := may_yes hl
  have Hno : Hid (∀ j, j < os.length → okO (opAt os j) = false → mayO os = false) := fun j hj h => may_no hj h
  have Hsu : Hid (∀ j, j < os.length → codesR os (j + 1) = (opAt os j).1 :: codesR os j) := fun j hj => codesR_succ hj
  have Hln : Hid (∀ j, j ≤ os.length → (codesR os j).length = j) := fun j hj => codesR_len hj
  generalize mayO os = V at *
  clear h
  go_enter Try.func39, Try.ntmps39
  go_wp2
  go_loopw [12] (fun i wr => ∃ j : Nat, j ≤ os.length ∧ i = .int .i64 j ∧ Hid (Codes wr w.heap.size (codesR os j)) ∧ Hid (∀ i, i < j → okO (opAt os i) = true) ∧ Below w.heap.size w wr) (fun i _ => os.length - (intOf i).toNat)
  case atStart => exact ⟨0, Nat.zero_le _, rfl, codes_made w, fun i hi => by omega, (Below.refl _ _).alloc (Nat.le_refl _) _⟩
  case round =>
    obtain ⟨j, hj, rfl, hC, hall, B⟩ := hrel
    clear hmm
    by_cases hlt : j < os.length
    · obtain ⟨h0, h1⟩ := (H.out j hlt).below B
      have hn := Hno.out j hlt
      have hsu := Hsu.out j hlt
      have hsz : (mk (opAt os j).2).size = (opAt os j).2.length := size_mk _
      have hok := okO_iff (opAt os j)
      have hall' : Hid (okO (opAt os j) = true → ∀ i, i < j + 1 → okO (opAt os i) = true) := fun hk i hi => by by_cases e : i = j; (subst e; exact hk); exact hall.out i (by omega)
      have Hsu' : Hid (_) := hsu
      clear hsu Hsu Hno hall
      generalize opAt os j = o at *
      obtain ⟨c, d⟩ := o
      simp only at h0 h1 hsz hok
      generalize mk d = ds at *
      have HM : Hid (∀ w b, (decide (0 < c) && decide (c < 255)) = b → Calls Try.prog 47 #[.int .i64 c] w fun e w' => e = .returned (.bool b) ∧ w' = w) := fun w b hb => by rw [← hb]; exact mayHave_c c w
      by_cases hc : 0 < c ∧ c < 255
      · have HM' : Hid (∀ w, _) := fun w => HM.out w true (by simp [hc])
        by_cases hd : d.length ≤ 512
        · have hwf : (Lit.int .i64 c).wf = true := wf_small (by omega) (by omega)
          have hkl := Maps.keyOf_int_mk (P := Try.prog) Try.underlying3 hwf
          have Hall : Hid (∀ i, i < j + 1 → okO (opAt os i) = true) := hall'.out (hok.2 ⟨hc.1, hc.2, hd⟩)
          have hdd : ¬ (512 : Int) < (ds.size : Int) := by omega
          obtain ⟨D, hown, hs, hh⟩ := hC.out
          have ht : Hid (Maps.Tidy D) := hown.tidy Try.intKeyed
          have Hs : Hid (_) := hs
          have Hh : Hid (_) := hh
          have hln := Hln.out j hj
          rw [hln] at hown
          clear hC hs hh hn hok hall' HM hc hd hsz hln
          go_wp2_with (first | (go_at_call 47; refine (HM'.out _).mono ?_; rintro e w7 ⟨rfl, rfl⟩) | (at_mapUpdate; refine wpList_mapUpdate_own _ rfl _ _ _ 79 rfl 3 80 Try.intKeyed Try.underlying79 _ w.heap.size j D rfl (hown.alloc _) (by unfold maxLen; omega) _ _ _ rfl rfl hkl _ [] unitElem_mk ?_; intro w2 hown2 hgrow2) | go_in)
          have B2 : Below w.heap.size w w2 := (B.alloc B.size _).grown hgrow2 (by simp; have := B.size; omega) (fun i hi => by cases hi; exact Nat.le_refl _)
          have hl2 := Hln.out j hj
          refine ⟨⟨j + 1, by omega, by go_num, ?_, Hall, B2⟩, by simp [intOf]; omega⟩
          show Codes _ _ _
          rw [Hsu'.out]
          exact codes_put hwf ht.out (by rw [hl2]; exact hown2) Hs.out Hh.out
        · have hdd : (512 : Int) < (ds.size : Int) := by omega
          have HV : Hid (V = false) := hn (by cases hq : okO (c, d); (rfl); exact absurd (hok.1 hq).2.2 hd)
          clear hC hn hok hall' HM hc hd hsz
          go_wp2_with (first | (go_at_call 47; refine (HM'.out _).mono ?_; rintro e w7 ⟨rfl, rfl⟩) | go_in)
          go_ret
          exact ⟨ret_bool HV.out.symm, B.alloc B.size _⟩
      · have HM' : Hid (∀ w, _) := fun w => HM.out w false (by simp; omega)
        have HV : Hid (V = false) := hn (by cases hq : okO (c, d); (rfl); exact absurd ⟨(hok.1 hq).1, (hok.1 hq).2.1⟩ hc)
        clear hC hn hok hall' HM hc hsz
        go_wp2_with (first | (go_at_call 47; refine (HM'.out _).mono ?_; rintro e w7 ⟨rfl, rfl⟩) | go_in)
        go_ret
        exact ⟨ret_bool HV.out.symm, B.alloc B.size _⟩
    · obtain rfl : j = os.length := by omega
      have HV : Hid (_) := Hyes.out hall.out
      obtain ⟨D, hown, hs, hh⟩ := hC.out
      have Hs : Hid (_) := hs
      clear hs hh
      go_wp2_with (first | (at_len; refine wpList_len_own _ rfl _ 79 rfl 3 80 Try.underlying79 _ w.heap.size _ D rfl hown ?_) | go_in)
      go_ret
      refine ⟨ret_bool ?_, B⟩
      rw [HV.out, Hs.out]
      apply Bool.eq_iff_iff.2
      simp
      omega
theorem mayBe_c (a : Option Addr) (cap : Nat) (os : List Opn) (w : World) (h : OpLies w a os) :
    Calls Try.prog 39 #[.slice a os.length cap] w fun e w' => e = .returned (.bool (mayO os)) ∧ Below w.heap.size w w' := by
  by_cases hl : os.length ≤ 32
  · rcases h with rfl | ⟨x, rfl, h⟩
    · exact mayBe_none a cap w
    · exact mayBe_from x cap os w h hl
  · rw [may_many hl]
    exact (mayBe_many a os.length cap w (by omega)).mono fun e w' ⟨h1, h2⟩ => ⟨h1, by rw [h2]; exact Below.refl _ _⟩
end Go.Proofs.Ytkohojifnmklmaa
