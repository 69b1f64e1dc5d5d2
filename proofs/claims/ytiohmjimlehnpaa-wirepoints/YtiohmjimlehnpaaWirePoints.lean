/-
  Proved here: pinfoldlaw3.WirePoints answers true for every pair of numbers (P3.2, T1: pointers to pointers are followed, back and back; the one that points to itself, or forward, is none).
  Conditions: none but the row's own.
-/
import Derived.Test.YtiohmjimlehnpaaAwake3
import Derived.Test.YtiohmjimlehnpaaWireFacts
import Derived.OpenShut
import Derived.ShutString
import Derived.ChangeOld
import Derived.SizedLaws
namespace Go.Proofs.Ytiohmjimlehnpaa.wirePoints
open Go.ChangeShapes Go.WideShapes Go.ChangeAt Go.RowKit Go.Pin Go.PlainAid
open Go.ChangeMaps (open_string shut_string)

/-- Where the i-th name stands. -/
def pl (i : Nat) : Nat := if i = 0 then 0 else 1 + 4 * i
/-- The message behind i names. -/
def msg : Nat → List UInt8
  | 0 => [3, 108, 97, 110, 0]
  | i + 1 => msg i ++ [1, 97, 192, UInt8.ofNat (pl i)]
def nm : Nat → List UInt8
  | 0 => []
  | i + 1 => nm i ++ [97, 46]
theorem msg_len : ∀ i, (msg i).length = 5 + 4 * i
  | 0 => rfl
  | i + 1 => by rw [msg, List.length_append, msg_len i]; simp; omega
theorem nm_len : ∀ i, (nm i).length = 2 * i
  | 0 => rfl
  | i + 1 => by rw [nm, List.length_append, nm_len i]; simp; omega
theorem get_msg : ∀ k, k < 8 → getI (msg k) (pl k : Nat) = (nm k ++ [108, 97, 110], (5 + 4 * (k : Int)), 0) := by decide
theorem get_bad : ∀ m, m < 7 → ∀ c, c < 4 → getI (msg m ++ [1, 97, 192, UInt8.ofNat (pl (m + 1) + c)]) (pl (m + 1) : Nat) = ([], 0, 300) := by decide
theorem low_c (z : Int) : ∃ k : Nat, bits .and .i64 z 7 = (k : Int) ∧ k < 8 := by
  have h := i64_mask 3 z (by omega)
  have h0 := Int.emod_nonneg z (b := 8) (by omega)
  have h1 := Int.emod_lt_of_pos z (b := 8) (by omega)
  refine ⟨(z % 8).toNat, ?_, by omega⟩
  rw [show (((z % 8).toNat : Nat) : Int) = z % 8 by omega]
  exact h
theorem low2_c (z : Int) : ∃ k : Nat, bits .and .i64 z 3 = (k : Int) ∧ k < 4 := by
  have h := i64_mask 2 z (by omega)
  have h0 := Int.emod_nonneg z (b := 4) (by omega)
  have h1 := Int.emod_lt_of_pos z (b := 4) (by omega)
  refine ⟨(z % 4).toNat, ?_, by omega⟩
  rw [show (((z % 4).toNat : Nat) : Int) = z % 4 by omega]
  exact h
theorem str_one (n : Nat) : str [(n : Int)] = mk [UInt8.ofNat n] := rfl
theorem pl_le (i : Nat) : pl i ≤ 1 + 4 * i := by unfold pl; split <;> omega

/-- string(b), the last byte written over. -/
theorem conv_last (w : World) (g : Nat) (cap : Nat) (l : List UInt8) (d : UInt8) (n : Nat) (hc : ∀ j, j < (mk (l ++ [d])).size → w.cell? ⟨g, j, none⟩ = some (.int .u8 (bt (mk (l ++ [d])) j))) :
    (convert 39 9 (.slice (some ⟨g, 0, none⟩) (l.length + 1) cap)).run Try.prog (w.setCell ⟨g, l.length, none⟩ (.int .u8 n)) = .ok (.string (mk (l ++ [UInt8.ofNat n]))) (w.setCell ⟨g, l.length, none⟩ (.int .u8 n)) := by
  have hz : (mk (l ++ [d])).size = l.length + 1 := by rw [size_mk]; simp
  have e : mk (l ++ [UInt8.ofNat n]) = str ((l.map fun c => (c.toNat : Int)) ++ [(n : Int)]) := by
    unfold str mk
    have hid : ((fun n : Int => UInt8.ofNat n.toNat) ∘ fun c : UInt8 => (c.toNat : Int)) = id := by funext c; simp
    rw [List.map_append, List.map_map, hid]
    simp
  have hl : ((l.map fun c => (c.toNat : Int)) ++ [(n : Int)]).length = l.length + 1 := by simp
  have := conv_cells (P := Try.prog) (w.setCell ⟨g, l.length, none⟩ (.int .u8 n)) 39 9 5 ⟨g, 0, none⟩ cap ((l.map fun c => (c.toNat : Int)) ++ [(n : Int)]) Try.underlying39 Try.underlying5 Try.underlying9 ?_
  · rw [hl] at this; rw [e]; exact this
  · intro j v hj
    rw [addr_add, Nat.zero_add]
    have hjl : j < l.length + 1 := by have := (List.getElem?_eq_some_iff.1 hj).1; simpa using this
    have hcj := hc j (by omega)
    by_cases hjj : j = l.length
    · subst hjj
      rw [World.cell?_setCell_same _ _ _ hcj]
      simp at hj
      rw [hj]
    · rw [World.cell?_setCell_other _ _ _ _ (by intro e; injection e with _ e; exact hjj e.symm), hcj]
      obtain ⟨c, h1, h2⟩ := bt_bs (mk (l ++ [d])) j (by omega)
      rw [bs_mk, List.getElem?_append_left (by omega)] at h1
      rw [h2]
      simp only [List.map_append, List.map_map] at hj
      rw [List.getElem?_append_left (by simp; omega), List.getElem?_map, h1] at hj
      simpa using hj

set_option maxHeartbeats 1000000 in
set_option maxRecDepth 100000 in
theorem walk (a0 a1 : Int) (w : World) (_w0 : (Lit.int .i64 a0).wf = true) (_w1 : (Lit.int .i64 a1).wf = true) :
    Calls Try.prog 7 #[.int .i64 a0, .int .i64 a1] w fun e w' => e = .returned (.bool true) ∧ Below w.heap.size w w' := by
  obtain ⟨k, hk, hk8⟩ := low_c a0
  obtain ⟨c, hc, hc4⟩ := low2_c a1
  have hcv : ∀ (w : World) (n : Int), (convert 39 9 (.slice (some ⟨w.heap.size, 0, none⟩) 1 1)).run Try.prog (w.alloc (.cells #[.int .u8 n] 5)) = .ok (.string (str [n])) (w.alloc (.cells #[.int .u8 n] 5)) :=
    fun w n => conv_new w 39 9 5 5 1 [n] 1 _ rfl rfl Try.underlying39 Try.underlying5 Try.underlying9
  go_enter Try.func7, Try.ntmps7
  go_wp2_with fail
  refine (awake_yes _).mono ?_; rintro e x1 ⟨rfl, B⟩
  go_wp2_with fail
  go_loopw [5, 6, 8] (fun s p i wr => ∃ j : Nat, j ≤ k ∧ i = .int .i64 j ∧ p = .int .i64 (pl j) ∧ s = .string (mk (msg j)) ∧ Below w.heap.size w wr) (fun _ _ i _ => k - (intOf i).toNat)
  case atStart => exact ⟨0, Nat.zero_le _, rfl, rfl, rfl, B⟩
  case round =>
    clear B
    obtain ⟨j, hj, rfl, rfl, rfl, B⟩ := hrel
    have hml := msg_len j
    have hms := size_mk (msg j)
    have hpl := pl_le j
    by_cases hlt : j < k
    · have Hm : Hid (msg (j + 1) = msg j ++ [1, 97, 192, UInt8.ofNat (pl j)]) := rfl
      have Hp : Hid (pl (j + 1) = 5 + 4 * j) := by unfold Hid pl; rw [if_neg (by omega)]; omega
      have hs1 : (str [(pl j : Int)]).size = 1 := size_str _
      have Hs1 : Hid (str [(pl j : Int)] = mk [UInt8.ofNat (pl j)]) := str_one _
      have Hc : Hid ((⟨#[1, 97, 192]⟩ : ByteArray) = mk [1, 97, 192]) := rfl
      generalize pl j = q at *
      generalize msg j = M at *
      go_wp2
      refine ⟨⟨j + 1, by omega, by go_num, ?_, ?_, B.alloc B.size _⟩, by simp [intOf]; omega⟩
      · rw [Hp.out]; go_num
      · rw [Hm.out, Hs1.out, Hc.out, mk_append, mk_append]; simp
    · obtain rfl : j = k := by omega
      clear hcv
      go_wp2_with fail
      go_loopw [10, 11] (fun s i wr => ∃ m : Nat, m ≤ j ∧ i = .int .i64 m ∧ s = .string (mk (nm m)) ∧ Below w.heap.size w wr) (fun _ i _ => j - (intOf i).toNat)
      case atStart => exact ⟨0, Nat.zero_le _, rfl, rfl, B⟩
      case round =>
        clear B
        obtain ⟨m, hm, rfl, rfl, B⟩ := hrel
        have hnl := nm_len m
        have hns := size_mk (nm m)
        by_cases hlt2 : m < j
        · have Hn : Hid (nm (m + 1) = nm m ++ [97, 46]) := rfl
          have Hc : Hid ((⟨#[97, 46]⟩ : ByteArray) = mk [97, 46]) := rfl
          go_wp2
          refine ⟨⟨m + 1, by omega, by go_num, ?_, B⟩, by simp [intOf]; omega⟩
          rw [Hn.out, Hc.out, mk_append]
        · obtain rfl : m = j := by omega
          have hcat : mk (nm m) ++ ⟨#[108, 97, 110]⟩ = mk (nm m ++ [108, 97, 110]) := by rw [← mk_append]; rfl
          obtain ⟨n4, hn4⟩ : ∃ n4, 5 + 4 * m = n4 + 1 := ⟨4 + 4 * m, by omega⟩
          have G : Hid (∀ w, _) := fun w => get_is (mk (msg m)) (pl m : Nat) (mk (nm m ++ [108, 97, 110])) ((n4 : Int) + 1) 0 w (by omega) (by rw [bs_mk, bs_mk, get_msg m hk8]; congr 2; omega)
          go_wp2_with fail
          refine (G.out _).mono ?_; rintro e w2 ⟨rfl, hb⟩
          replace B := bel_trans B hb
          clear hb hlt hlt2
          by_cases hm0 : m = 0
          · have hm1 : m < 1 := by omega
            have hlen : (mk (msg m)).size = n4 + 1 := by rw [hms, hml, hn4]
            clear hm0 G
            go_wp2_with (go_at_call 16; refine (num_any _ _).mono ?_; rintro e w4 ⟨rfl, rfl⟩)
            go_ret
            exact ⟨rfl, B⟩
          · have hm1 : 0 < m := by omega
            obtain ⟨p, hp⟩ : ∃ p, m = p + 1 := ⟨m - 1, by omega⟩
            have hM : msg m = (msg p ++ [1, 97, 192]) ++ [UInt8.ofNat (pl p)] := by rw [hp, msg]; simp
            have G2 : Hid (∀ w, _) := fun w => get_is (mk ((msg p ++ [1, 97, 192]) ++ [UInt8.ofNat (pl m + c)])) (pl m : Nat) ⟨#[]⟩ 0 300 w (by rw [size_mk]; simp [msg_len]; omega) (by
              rw [bs_mk, hp, List.append_assoc]; exact get_bad p (by omega) c hc4)
            have hlen : (mk (msg m)).size = n4 + 1 := by rw [hms, hml, hn4]
            obtain ⟨w3, cap, hcv3, hb3, hz3, hc3⟩ := bytes_new (mk (msg m)) w2
            have hll : (msg p ++ [1, 97, 192]).length = n4 := by simp [msg_len]; omega
            generalize msg p ++ [1, 97, 192] = l at *
            have hq := pl_le m
            have hlast := conv_last w3 w2.heap.size cap l (UInt8.ofNat (pl p)) (pl m + c) (by rw [← hM]; exact fun j hj => (hc3 j hj).1)
            rw [Int.natCast_add, hll] at hlast
            obtain ⟨k1, k2⟩ := hc3 n4 (by omega)
            rw [hlen] at hcv3
            have Hb3 : Hid (Below w.heap.size w w3 ∧ w.heap.size ≤ w2.heap.size) := ⟨bel_trans B hb3, B.size⟩
            have hn35 : n4 < 40 := by omega
            generalize UInt8.ofNat (pl m + c) = d9 at *
            generalize pl m = q at *
            generalize msg m = M at *
            clear hc3 hM hb3 hm0 G hll hp hml hms hn4
            go_wp2_with fail
            refine (G2.out _).mono ?_; rintro e w5 ⟨rfl, hb⟩
            have B5 : Below w.heap.size w w5 := bel_trans (Hb3.out.1.setCell Hb3.out.2 _) hb
            clear hb hcv3 hlast k1 k2
            go_wp2_with (go_at_call 16; refine (num_any _ _).mono ?_; rintro e w4 ⟨rfl, rfl⟩)
            go_ret
            exact ⟨rfl, B5⟩

theorem own : ownKnob Try.prog.godebug = none := by kernel_rfl
theorem laidOut : laidOutB Try.prog = true := by kernel_rfl

/-! ### The row's step -/
set_option maxRecDepth 100000 in
theorem lifted (os : Os) (started : os.Started) (H : Type) (enc : TypeId × Value → H) :
    ReturnsInHanded {} Try.checked os 7 .any (Rows.wirePointsSpec.pre6 enc Try.prog Try.f7 Rows.wirePointsRow.domain false) (Rows.wirePointsSpec.post enc Try.prog Try.f7 false true false false) := by
  refine returnsInHanded_of_change_sized (C := Try.checked) own started (by kernel_rfl) Try.func7
    (ChangeSpec.witness6 (enc := enc) (C := Try.checked) false ⟨#[], #[.int .i64 0, .int .i64 0], []⟩ 8 (by kernel_rfl) (by kernel_rfl) (by kernel_rfl) (by kernel_rfl)) ?_
  intro W base args ds gs before hval0 hW _ hsz0 _
  have hval : ∀ (j : Nat) t v, Try.f7.params[j]? = some t → args[j]? = some v → Value.okWide Try.prog W .any base t v := hval0
  have hsz : (DataW.weightsEach Try.prog (Try.f7.params.toList ++ Rows.wirePointsSpec.plain.varTypes Try.prog) (ds ++ gs)).all (· ≤ reachBytes) = true := hsz0
  have hW' := hW
  obtain ⟨p, q, hA0, hV, rfl, _, _⟩ := hW
  have hA : DataW.TrodAll enc Try.prog W 0 (fun _ => true) true Try.f7.params.toList args.toList ds p := hA0
  rw [Try.params7] at hA hval hsz
  obtain ⟨v0, vs0, d0, ds0, p0, q0, hargs, rfl, rfl, h0, r0⟩ := trodAll_cons hA
  obtain ⟨v1, vs1, d1, ds1, p1, q1, rfl, rfl, rfl, h1, r1⟩ := trodAll_cons r0
  obtain ⟨rfl, rfl, rfl⟩ := trodAll_nil r1
  obtain rfl : args = #[v0, v1] := by cases args; simp_all
  obtain ⟨rfl, rfl⟩ := trodVars_none hV
  obtain ⟨a0, rfl, rfl, rfl, w0⟩ := open_int Try.underlying3 (hval 0 3 v0 rfl rfl) h0
  obtain ⟨a1, rfl, rfl, rfl, w1⟩ := open_int Try.underlying3 (hval 1 3 v1 rfl rfl) h1
  clear hA0 hval0 hsz0
  refine (walk a0 a1 W w0 w1).mono fun e W' ⟨he, bel⟩ => ?_
  subst he
  exact ⟨_, rfl, _, _, _, [], [], [], hW', trodAll_mk1 (shut_bool Try.underlying4 _), (trodAll_cons_mk (shut_int Try.underlying3 w0) (trodAll_cons_mk (shut_int Try.underlying3 w1) trodAll_mk0)), rfl, bel.frame _, fun h => by cases h⟩

theorem over : Rows.wirePointsRow.holds Try.pinned (OpenSpec.ofChange Rows.wirePointsSpec) :=
  OpenClaim.holds_of_wide 7 Try.f7 rfl rfl rfl rfl rfl rfl rfl ⟨rfl, rfl, rfl, rfl, rfl⟩ rfl rfl rfl rfl rfl (by kernel_rfl) Try.func7 (by kernel_rfl)
    (of_decide_eq_true (by kernel_rfl)) (by unfold Func.isWrapper; first | (rw [if_pos (by decide +kernel)]; kernel_rfl) | (rw [if_neg (by decide +kernel)]; exact ⟨rfl, rfl⟩))
    (fun os started H enc _ => lifted os started H enc)

/-- The given statement. -/
theorem proved : Rows.WirePointsSaid := over

end Go.Proofs.Ytiohmjimlehnpaa.wirePoints
namespace Go.Proofs.Ytiohmjimlehnpaa
theorem wirePoints_proved : Rows.WirePointsSaid := wirePoints.proved
#print axioms wirePoints_proved
end Go.Proofs.Ytiohmjimlehnpaa
