/-
  pinfoldlaw6.OptsLong, at every two numbers: it returns true. No condition.
-/
import Derived.Test.YtodjgbdjkncpgaaAwake6
import Derived.WalkKit
import Derived.ProofKit
import Derived.OpenShut
import Derived.ShutString
import Derived.ChangeOld
import Derived.SizedLaws
import Derived.Carry
namespace Go.Proofs.Ytodjgbdjkncpgaa
namespace optsLong
open Go.ChangeShapes Go.WideShapes Go.ChangeAt Go.RowKit Go.Pin Go.PlainAid

theorem made (w : World) (n : Nat) (hn : n ≤ 2000) : (Instr.makeSlice 40 (.int .i64 n) (.int .i64 n)).run Try.prog w = .ok (.slice (some ⟨w.heap.size, 0, none⟩) n n) (w.alloc (.cells (List.replicate n (Value.int .u8 0)).toArray 5)) := by
  obtain ⟨i0, hi, hz0, hz1, hz2⟩ := info_parts Try.infoU8
  have hr := run_make (P := Try.prog) w 40 5 i0 (.int .u8 0) Try.underlying40 hi hz0 .i64 .i64 (n : Int) (n : Int) (by omega) (Int.le_refl _) (by rw [hz2]; omega) (by omega)
  rw [Int.toNat_natCast, hz1, Nat.mul_one] at hr
  have e : madeCells (Value.int .u8 0).cells n = (List.replicate n (Value.int .u8 0)).toArray := by
    apply Array.ext
    · simp [size_madeCells]
    · intro i h1 h2
      simp [madeCells, Value.cells, Nat.mod_one]
  rw [e] at hr
  exact hr
/-- The bytes that the law counts up. -/
def up (n : Nat) : List UInt8 := (List.range n).map UInt8.ofNat
theorem up_len (n : Nat) : (up n).length = n := by simp [up]
theorem conv_up (w : World) (g n : Nat) (hc : ∀ k, k < n → w.cell? ⟨g, k, none⟩ = some (.int .u8 ((k : Int) % 256))) : (convert 40 9 (.slice (some ⟨g, 0, none⟩) n n)).run Try.prog w = .ok (.string (mk (up n))) w := by
  have := conv_cells (P := Try.prog) w 40 9 5 ⟨g, 0, none⟩ n ((List.range n).map fun k : Nat => (k : Int) % 256) Try.underlying40 Try.underlying5 Try.underlying9 (fun j v hj => by
    simp only [List.map_map, List.getElem?_map, Function.comp_def] at hj
    by_cases hn : j < n
    · rw [List.getElem?_range hn] at hj
      simp only [Option.map_some, Option.some.injEq] at hj
      subst hj
      rw [addr_add, Nat.zero_add]
      exact hc j hn
    · rw [List.getElem?_eq_none (by simpa using hn)] at hj
      simp at hj)
  have e : str ((List.range n).map fun k : Nat => (k : Int) % 256) = mk (up n) := by
    unfold str mk up
    simp only [List.map_map, Function.comp_def]
    congr 2
    apply List.map_congr_left
    intro k _
    apply UInt8.toNat_inj.1
    rw [UInt8.toNat_ofNat', UInt8.toNat_ofNat']
    omega
  rw [e] at this
  simpa using this
theorem one_may (C K : Nat) (hC : C < 254) (hK : K ≤ 512) : MayO [((1 : Int) + C, up K)] := by
  refine ⟨by simp, fun o ho => ?_, by simp⟩
  simp only [List.mem_singleton] at ho
  subst ho
  rw [okO_iff]
  exact ⟨by simp only; omega, by simp only; omega, by simp only [up_len]; exact hK⟩
theorem one_len (C K : Nat) : (putO [((1 : Int) + C, up K)]).length = K + 2 * (if 255 < K then 1 + (K - 1) / 255 else 1) + 1 := by
  simp [putO, bodyO, parts_len, up_len]
theorem one_put (C K : Nat) (hC : C < 254) (hK : K ≤ 512) : putA [((1 : Int) + C, up K)] = (bs (mk (putO [((1 : Int) + C, up K)])), 0) := by
  unfold putA
  rw [if_pos (by simpa [mayO] using one_may C K hC hK), if_neg (by rw [one_len]; split <;> omega), bs_mk]
theorem one_get (C K : Nat) (hC : C < 254) (hK : K ≤ 512) : getO (bs (mk (putO [((1 : Int) + C, up K)]))) [] = some [((1 : Int) + C, up K)] := by
  have := get_put (one_may C K hC hK) []
  rw [List.append_nil] at this
  rw [bs_mk]; exact this

set_option maxRecDepth 100000 in
set_option maxHeartbeats 1000000 in
theorem walk (a b : Int) (w : World) (_wa : (Lit.int .i64 a).wf = true) (_wb : (Lit.int .i64 b).wf = true) : Calls Try.prog 6 #[.int .i64 a, .int .i64 b] w fun e w' => e = .returned (.bool true) ∧ Below w.heap.size w w' := by
  obtain ⟨K, hK, hKl⟩ := pick_mod a 513 (by omega) (by omega)
  obtain ⟨C, hC, hCl⟩ := pick_mod b 254 (by omega) (by omega)
  have hmk : ∀ w, _ := fun w => made w K (by omega)
  have HCV : Hid (∀ w g, _ → _) := fun w g hc => conv_up w g K hc
  have HLN : Hid (_) := one_len C K
  have HP : Hid (_) := one_put C K (by omega) (by omega)
  have HG : Hid (_) := one_get C K (by omega) (by omega)
  have HSZ : Hid ((mk (putO [((1 : Int) + C, up K)])).size = (putO [((1 : Int) + C, up K)]).length) := size_mk _
  go_enter Try.func6, Try.ntmps6
  go_wp2_with fail
  refine (awake6_yes _).mono ?_; rintro e w1 ⟨rfl, hb1⟩
  have B1 : Hid (Below w.heap.size w w1) := hb1
  have hle := hb1.size
  clear hb1
  go_wp2_with fail
  go_loopw [8] (fun i wr => ∃ j : Nat, j ≤ K ∧ i = .int .i64 j ∧ Hid (∀ k, k < K → wr.cell? ⟨w1.heap.size, k, none⟩ = some (.int .u8 (if k < j then (k : Int) % 256 else 0))) ∧ Hid (∀ k, wr.frozen? ⟨w1.heap.size, k, none⟩ = false) ∧ Hid (Below w.heap.size w wr) ∧ Hid (w1.heap.size < wr.heap.size)) (fun i _ => K - (intOf i).toNat)
  case atStart => exact ⟨0, Nat.zero_le _, rfl, fun k hk => new_cell _ _ _ _ _ (by simp [hk]), fun k => new_frozen _ _ _ _, B1.out.alloc hle _, by show _ < _; simp⟩
  case round =>
    obtain ⟨j, hj, rfl, hce, hfr, B, hltb⟩ := hrel
    by_cases hlt : j < K
    · have h0 := hce.out j hlt
      have f0 := hfr.out j
      rw [if_neg (by omega)] at h0
      go_wp2
      refine ⟨⟨j + 1, by omega, by go_num, fun k hk => ?_, fun k => ?_, B.out.setCell hle _, by show _ < _; rw [setCell_size]; exact hltb.out⟩, by simp [intOf]; omega⟩
      · by_cases hkj : k = j
        · subst hkj
          rw [if_pos (by omega)]
          exact way_cell h0 h0 |>.trans (by simp)
        · rw [World.cell?_setCell_other _ _ _ _ (by intro e; injection e with _ e; omega), hce.out k hk]
          by_cases hh : k < j
          · rw [if_pos hh, if_pos (by omega)]
          · rw [if_neg hh, if_neg (by omega)]
      · rw [World.frozen?_setCell]; exact hfr.out k
    · obtain rfl : j = K := by omega
      have HCE : Hid (∀ k, k < j → wr.cell? ⟨w1.heap.size, k, none⟩ = some (.int .u8 ((k : Int) % 256))) := fun k hk => by rw [hce.out k hk, if_pos hk]
      have hcv := HCV.out wr w1.heap.size HCE.out
      obtain ⟨D, hD⟩ : ∃ D, mk (up j) = D := ⟨_, rfl⟩
      rw [hD] at hcv HCV
      have HD : Hid (mk (up j) = D) := hD
      obtain ⟨S, hS⟩ : ∃ S, mk (putO [((1 : Int) + C, up j)]) = S := ⟨_, rfl⟩
      rw [hS] at HP HG HSZ
      have HSz : Hid (S.size = j + 2 * (if 255 < j then 1 + (j - 1) / 255 else 1) + 1) := by show _ = _; rw [HSZ.out, HLN.out]
      have HLA : Hid (∀ w : World, OpLies (w.alloc (.cells #[.int .i64 ((1 : Int) + C), .string D] 42)) (some ⟨w.heap.size, 0, none⟩) [((1 : Int) + C, up j)]) := fun w => op_lit w _ _ _ (by rw [← hD]; rfl)
      have HS8 : Hid (S.size ≤ 1125899906842624) := by show _ ≤ _; rw [HSz.out]; split <;> omega
      clear hce hfr hS hD HSZ HLN
      go_wp2_with fail
      refine (oPut_is _ 1 1 [((1 : Int) + C, up j)] S 0 _ rfl (HLA.out wr) HP.out).mono ?_; rintro e w2 ⟨rfl, hb2⟩
      have B2' : Hid (Below wr.heap.size wr w2) := bel_trans ((Below.refl _ _).alloc (Nat.le_refl _) _) hb2
      clear hb2 hcv
      go_wp2_with fail
      refine (oGet_yes S _ _ HS8.out HG.out).mono ?_; rintro e w3 ⟨⟨v1, rfl, k1⟩, hb3⟩
      obtain ⟨a1, c1, rfl, l1⟩ := k1.lies
      have L1 : Hid (OpLies w3 a1 [((1 : Int) + C, up j)]) := l1
      have B3' : Hid (Below wr.heap.size wr w3) := bel_trans B2'.out hb3
      have B3 : Hid (Below w.heap.size w w3) := bel_trans B.out B3'.out
      have hcv3 := HCV.out w3 w1.heap.size (fun k hk => (B3'.out.cell (p := ⟨w1.heap.size, k, none⟩) hltb.out).trans (HCE.out k hk))
      clear k1 l1 hb3 B2' B3' B HCE
      have hSz := HSz.out
      by_cases hg : 255 < j
      · rw [if_pos hg] at hSz
        have HS3 : Hid (S.size = j + 2 * (1 + (j - 1) / 255) + 1) := hSz
        have hg' : (255 : Int) < (j : Int) := by omega
        have hq : (S.size : Int) = (j : Int) + 2 * (1 + ((j : Int) - 1) / 255) + 1 := by omega
        clear hSz HSz
        go_wp2_with (go_at_call 15; refine (num_any _ _).mono ?_; rintro e w11 ⟨rfl, rfl⟩)
        refine (sameOp_c a1 (some ⟨w11.heap.size, 0, none⟩) 1 1 c1 1 [((1 : Int) + C, up j)] _ rfl rfl (by simp) (L1.out.below ((Below.refl _ _).alloc (Nat.le_refl _) _)) (HLA.out _)).mono ?_; rintro e w8 ⟨rfl, hb8⟩
        have B8 : Hid (Below w.heap.size w w8) := bel_trans (bel_trans B3.out ((Below.refl _ _).alloc (Nat.le_refl _) _)) hb8
        clear hb8
        go_wp2
        go_ret
        exact ⟨rfl, B8.out⟩
      · rw [if_neg hg] at hSz
        have HS3 : Hid (S.size = j + 2 * 1 + 1) := hSz
        have hg' : ¬ (255 : Int) < (j : Int) := by omega
        have hq : (S.size : Int) = (j : Int) + 2 + 1 := by omega
        clear hSz HSz
        go_wp2_with (go_at_call 15; refine (num_any _ _).mono ?_; rintro e w11 ⟨rfl, rfl⟩)
        refine (sameOp_c a1 (some ⟨w11.heap.size, 0, none⟩) 1 1 c1 1 [((1 : Int) + C, up j)] _ rfl rfl (by simp) (L1.out.below ((Below.refl _ _).alloc (Nat.le_refl _) _)) (HLA.out _)).mono ?_; rintro e w8 ⟨rfl, hb8⟩
        have B8 : Hid (Below w.heap.size w w8) := bel_trans (bel_trans B3.out ((Below.refl _ _).alloc (Nat.le_refl _) _)) hb8
        clear hb8
        go_wp2
        go_ret
        exact ⟨rfl, B8.out⟩

theorem own : ownKnob Try.prog.godebug = none := by kernel_rfl
theorem laidOut : laidOutB Try.prog = true := by kernel_rfl

/-! ### The row's step -/
set_option maxRecDepth 100000 in
theorem lifted (os : Os) (started : os.Started) (H : Type) (enc : TypeId × Value → H) :
    ReturnsInHanded {} Try.checked os 6 .any (Rows.optsLongSpec.pre6 enc Try.prog Try.f6 Rows.optsLongRow.domain false) (Rows.optsLongSpec.post enc Try.prog Try.f6 false true false false) := by
  refine returnsInHanded_of_change_sized (C := Try.checked) own started (by kernel_rfl) Try.func6
    (ChangeSpec.witness6 (enc := enc) (C := Try.checked) false ⟨#[], #[.int .i64 0, .int .i64 0], []⟩ 8 (by kernel_rfl) (by kernel_rfl) (by kernel_rfl) (by kernel_rfl)) ?_
  intro W base args ds gs before hval0 hW _ hsz0 _
  have hval : ∀ (j : Nat) t v, Try.f6.params[j]? = some t → args[j]? = some v → Value.okWide Try.prog W .any base t v := hval0
  have hsz : (DataW.weightsEach Try.prog (Try.f6.params.toList ++ Rows.optsLongSpec.plain.varTypes Try.prog) (ds ++ gs)).all (· ≤ reachBytes) = true := hsz0
  have hW' := hW
  obtain ⟨p, q, hA0, hV, rfl, _, _⟩ := hW
  have hA : DataW.TrodAll enc Try.prog W 0 (fun _ => true) true Try.f6.params.toList args.toList ds p := hA0
  rw [Try.params6] at hA hval hsz
  obtain ⟨v0, vs0, d0, ds0, p0, q0, hargs, rfl, rfl, h0, r0⟩ := trodAll_cons hA
  obtain ⟨v1, vs1, d1, ds1, p1, q1, rfl, rfl, rfl, h1, r1⟩ := trodAll_cons r0
  obtain ⟨rfl, rfl, rfl⟩ := trodAll_nil r1
  obtain rfl : args = #[v0, v1] := by cases args; simp_all
  obtain ⟨rfl, rfl⟩ := trodVars_none hV
  obtain ⟨a0, rfl, rfl, rfl, w0⟩ := open_int Try.underlying3 (hval 0 3 v0 rfl rfl) h0
  obtain ⟨a1, rfl, rfl, rfl, w1⟩ := open_int Try.underlying3 (hval 1 3 v1 rfl rfl) h1
  clear hA0 hval0 hsz0
  refine (walk a0 a1 W w0 w1).mono fun e W' ⟨he, bel⟩ => ?_
  subst he
  exact ⟨_, rfl, _, _, _, [], [], [], hW', trodAll_mk1 (shut_bool Try.underlying4 _), (trodAll_cons_mk (shut_int Try.underlying3 w0) (trodAll_cons_mk (shut_int Try.underlying3 w1) trodAll_mk0)), rfl, bel.frame _, fun h => by cases h⟩

theorem over : Rows.optsLongRow.holds Try.pinned (OpenSpec.ofChange Rows.optsLongSpec) :=
  OpenClaim.holds_of_wide 6 Try.f6 rfl rfl rfl rfl rfl rfl rfl ⟨rfl, rfl, rfl, rfl, rfl⟩ rfl rfl rfl rfl rfl (by kernel_rfl) Try.func6 (by kernel_rfl)
    (of_decide_eq_true (by kernel_rfl)) (by unfold Func.isWrapper; first | (rw [if_pos (by decide +kernel)]; kernel_rfl) | (rw [if_neg (by decide +kernel)]; exact ⟨rfl, rfl⟩))
    (fun os started H enc _ => lifted os started H enc)

/-- The given statement. -/
theorem proved : Rows.OptsLongSaid := over

end optsLong
theorem optsLong_proved : Rows.OptsLongSaid := optsLong.proved
end Go.Proofs.Ytodjgbdjkncpgaa
