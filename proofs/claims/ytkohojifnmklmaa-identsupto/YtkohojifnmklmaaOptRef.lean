/-
  Contracts of the document's own answers of layer 6: OptsMay, PutOpts, FindOpt.
-/
import Derived.Test.YtkohojifnmklmaaOptGot
namespace Go.Proofs.Ytkohojifnmklmaa
open Go.ChangeShapes Go.WideShapes Go.ChangeAt Go.RowKit Go.Pin Go.PlainAid

theorem Try.zero256 (w : World) : (zeroValue 70).run Try.prog w = .ok (.agg (Array.replicate 256 (.bool false))) w := by kernel_rfl
theorem may_dup {os : List Opn} {j : Nat} (hj : j < os.length) (h : (opAt os j).1 ∈ codesR os j) : mayO os = false := by
  unfold mayO
  rw [decide_eq_false_iff_not]
  rintro ⟨_, _, h3⟩
  have e : os.map (·.1) = (os.take j).map (·.1) ++ (opAt os j).1 :: (os.drop (j + 1)).map (·.1) := by
    conv => lhs; rw [← List.take_append_drop j os, List.drop_eq_getElem_cons hj]
    rw [List.map_append, List.map_cons]
    unfold opAt
    rw [List.getD_eq_getElem?_getD, List.getElem?_eq_getElem hj]
    rfl
  rw [e, List.nodup_append] at h3
  unfold codesR at h
  exact h3.2.2 _ (List.mem_reverse.1 h) _ (by simp) rfl
theorem may_end {os : List Opn} (h : ∀ j, j < os.length → okO (opAt os j) = true) (hn : (codesR os os.length).Nodup) : mayO os = decide ((os.length : Int) ≤ 32) := by
  by_cases hl : os.length ≤ 32
  · rw [may_yes hl h, (cnt_iff _).2 hn, codesR_len (Nat.le_refl _)]
    simp
    omega
  · rw [may_many hl]
    symm
    simp
    omega

set_option maxRecDepth 100000 in
theorem rMay_from (x : Addr) (cap : Nat) (os : List Opn) (w : World) (hl : os.length ≤ 10000000000000) (h : OpFrom w x os) :
    Calls Try.prog 30 #[.slice (some x) os.length cap] w fun e w' => e = .returned (.bool (mayO os)) ∧ Below w.heap.size w w' := by
  have hz := Try.zero256
  have HZ : Hid (∀ k : Nat, k < 256 → (Array.replicate 256 (Value.bool false))[k]? = some (.bool false)) := fun k hk => by simp [hk]
  generalize Array.replicate 256 (Value.bool false) = zs at *
  have H : Hid (OpFrom w x os) := h
  have Hno : Hid (∀ j, j < os.length → okO (opAt os j) = false → mayO os = false) := fun j hj h => may_no hj h
  have Hdup : Hid (∀ j, j < os.length → (opAt os j).1 ∈ codesR os j → mayO os = false) := fun j hj h => may_dup hj h
  have Hend : Hid ((∀ j, j < os.length → okO (opAt os j) = true) → (codesR os os.length).Nodup → mayO os = decide ((os.length : Int) ≤ 32)) := may_end
  have Hsu : Hid (∀ j, j < os.length → codesR os (j + 1) = (opAt os j).1 :: codesR os j) := fun j hj => codesR_succ hj
  generalize mayO os = V at *
  clear h
  go_enter Try.func30, Try.ntmps30
  go_wp2
  go_loopw [4] (fun i wr => ∃ j : Nat, j ≤ os.length ∧ i = .int .i64 j ∧ Hid (∀ k : Nat, k < 256 → wr.cell? ⟨w.heap.size, k, none⟩ = some (.bool (decide ((k : Int) ∈ codesR os j)))) ∧ Hid (∀ k, wr.frozen? ⟨w.heap.size, k, none⟩ = false) ∧ Hid (∀ i, i < j → okO (opAt os i) = true) ∧ Hid ((codesR os j).Nodup) ∧ Hid (Below w.heap.size w wr)) (fun i _ => os.length - (intOf i).toNat)
  case atStart => exact ⟨0, Nat.zero_le _, rfl, fun k hk => new_cell _ _ _ _ _ (by rw [HZ.out k hk]; rfl), fun k => new_frozen _ _ _ _, fun i hi => by omega, List.nodup_nil, (Below.refl _ _).alloc (Nat.le_refl _) _⟩
  case round =>
    obtain ⟨j, hj, rfl, hce, hfr, hall, hnd, B⟩ := hrel
    clear hz
    by_cases hlt : j < os.length
    · obtain ⟨h0, h1⟩ := (H.out j hlt).below B.out
      have hno := Hno.out j hlt
      have hdup := Hdup.out j hlt
      have Hs1 : Hid (_) := Hsu.out j hlt
      have hsz : (mk (opAt os j).2).size = (opAt os j).2.length := size_mk _
      have hok := okO_iff (opAt os j)
      have hall' : Hid (okO (opAt os j) = true → ∀ i, i < j + 1 → okO (opAt os i) = true) := fun hk i hi => by by_cases e : i = j; (subst e; exact hk); exact hall.out i (by omega)
      generalize opAt os j = o at *
      obtain ⟨c, d⟩ := o
      simp only at h0 h1 hsz hok hdup
      generalize mk d = ds at *
      clear hall Hno Hdup Hsu
      by_cases hc0 : c < 1
      · have HV : Hid (V = false) := hno (by cases hq : okO (c, d); (rfl); have := (hok.1 hq).1; omega)
        clear hno hdup hok hall' hsz
        go_wp2
        go_ret
        exact ⟨ret_bool HV.out.symm, B.out⟩
      · by_cases hc1 : 254 < c
        · have HV : Hid (V = false) := hno (by cases hq : okO (c, d); (rfl); have := (hok.1 hq).2.1; omega)
          have hc0' : decide (c < 1) = false := by simpa using hc0
          clear hno hdup hok hall' hsz
          go_wp2
          go_ret
          exact ⟨ret_bool HV.out.symm, B.out⟩
        · obtain ⟨cn, rfl⟩ : ∃ cn : Nat, c = cn := ⟨c.toNat, by omega⟩
          have h2 := hce.out cn (by omega)
          have f2 := hfr.out cn
          have hcl : (cn : Int) < 256 := by omega
          by_cases hin : (cn : Int) ∈ codesR os j
          · have HV : Hid (V = false) := hdup hin
            rw [show decide ((cn : Int) ∈ codesR os j) = true by simpa using hin] at h2
            clear hno hdup hok hall' hsz hin
            go_wp2
            go_ret
            exact ⟨ret_bool HV.out.symm, B.out⟩
          · have Hin : Hid (¬ (cn : Int) ∈ codesR os j) := hin
            rw [show decide ((cn : Int) ∈ codesR os j) = false by simpa using hin] at h2
            by_cases hd : d.length ≤ 512
            · have Hall : Hid (∀ i, i < j + 1 → okO (opAt os i) = true) := hall'.out (hok.2 ⟨by omega, by omega, hd⟩)
              have hdd : ¬ (512 : Int) < (ds.size : Int) := by omega
              have Hcn : Hid (cn < 256) := by show _ < _; omega
              clear hno hdup hok hall' hsz hin hd
              go_wp2
              refine ⟨⟨j + 1, by omega, by go_num, fun k hk => ?_, fun k => ?_, Hall, ?_, B.out.setCell (Nat.le_refl _) _⟩, by simp [intOf]; omega⟩
              · rw [Hs1.out]
                by_cases hkc : k = cn
                · subst hkc
                  exact (way_cell h2 h2).trans (by simp)
                · rw [World.cell?_setCell_other _ _ _ _ (by intro e; injection e with _ e; omega), hce.out k hk]
                  have : ((k : Int) = (cn : Int)) = False := by simp; omega
                  simp [this]
              · rw [World.frozen?_setCell]; exact hfr.out k
              · show List.Nodup _
                rw [Hs1.out]
                exact List.nodup_cons.2 ⟨Hin.out, hnd.out⟩
            · have HV : Hid (V = false) := hno (by cases hq : okO ((cn : Int), d); (rfl); exact absurd (hok.1 hq).2.2 hd)
              have hdd : (512 : Int) < (ds.size : Int) := by omega
              clear hno hdup hok hall' hsz hin hd
              go_wp2
              go_ret
              exact ⟨ret_bool HV.out.symm, B.out⟩
    · obtain rfl : j = os.length := by omega
      have HV : Hid (_) := Hend.out hall.out hnd.out
      go_wp2
      go_ret
      exact ⟨ret_bool HV.out.symm, B.out⟩
theorem rMay_none (a : Option Addr) (cap : Nat) (w : World) :
    Calls Try.prog 30 #[.slice a 0 cap] w fun e w' => e = .returned (.bool true) ∧ Below w.heap.size w w' := by
  have hz := Try.zero256
  generalize Array.replicate 256 (Value.bool false) = zs at *
  go_enter Try.func30, Try.ntmps30
  go_wp2
  go_rounds 1
  go_ret
  exact ⟨rfl, (Below.refl _ _).alloc (Nat.le_refl _) _⟩
theorem rMay_c (a : Option Addr) (cap : Nat) (os : List Opn) (w : World) (hl : os.length ≤ 10000000000000) (h : OpLies w a os) :
    Calls Try.prog 30 #[.slice a os.length cap] w fun e w' => e = .returned (.bool (mayO os)) ∧ Below w.heap.size w w' := by
  rcases h with rfl | ⟨x, rfl, h⟩
  · exact rMay_none a cap w
  · exact rMay_from x cap os w hl h
end Go.Proofs.Ytkohojifnmklmaa
