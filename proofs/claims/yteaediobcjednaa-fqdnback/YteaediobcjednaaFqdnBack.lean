/-
  Proved here: pinfoldlaw8.FqdnBack answers true for every number and text (P8.1, P8.2, T1: flags and a name come back, without the last byte, too; with one more they are none).
  Conditions: none but the row's own.
-/
import Derived.Test.YteaediobcjednaaAwake8
import Derived.OpenShut
import Derived.ShutString
import Derived.ChangeOld
import Derived.SizedLaws
namespace Go.Proofs.Yteaediobcjednaa.fqdnBack
open Go.ChangeShapes Go.WideShapes Go.ChangeAt Go.RowKit Go.Pin Go.PlainAid
open Go.ChangeMaps (open_string shut_string)

theorem bs_front (s : ByteArray) : bs (s.extract 0 (s.size - 1)) = (bs s).dropLast := by
  have h1 : bs (s.extract 0 (s.size - 1)) = (bs s).take (s.size - 1) := by
    unfold bs
    rw [ByteArray.data_extract, Array.toList_extract]
    simp
  rw [h1, List.dropLast_eq_take, length_bs]
set_option maxHeartbeats 1000000 in
theorem walk (x : Int) (a : ByteArray) (w : World) (_w0 : (Lit.int .i64 x).wf = true) (ha0 : a.size ≤ 140737488351232) :
    Calls Try.prog 4 #[.int .i64 x, .string a] w fun e w' => e = .returned (.bool true) ∧ Below w.heap.size w w' := by
  have ha : a.size ≤ maxLen := by unfold maxLen; omega
  obtain ⟨m1, K, hm1, hK, mK⟩ := flag_any x
  have HA : Hid (∀ w, _) := fun w => fPut_c K a w ha
  have HW : Hid (∀ w, _) := fun w => awake8_yes w
  cases hp : putF K (bs a) with
  | none =>
    rw [hp] at HA
    simp only [fqA] at HA
    clear hp mK ha ha0
    go_enter Try.func4, Try.ntmps4
    go_wp2_with fail
    refine (HW.out _).mono ?_; rintro e w1 ⟨rfl, B⟩
    go_wp2_with fail
    refine (HA.out _).mono ?_; rintro e w2 ⟨rfl, hb⟩
    replace B := bel_trans B hb
    clear hb
    go_wp2_with (go_at_call 11; refine (num_any _ _).mono ?_; rintro e w6 ⟨rfl, rfl⟩)
    go_ret
    exact ⟨rfl, B⟩
  | some P =>
    rw [hp] at HA
    simp only [fqA] at HA
    obtain ⟨_, l4, l100, g1, g2, g3⟩ := put_back hp
    obtain ⟨S, hS⟩ : ∃ S, mk P = S := ⟨_, rfl⟩
    have hP : P = bs S := by rw [← hS, bs_mk]
    have hlen : P.length = S.size := by rw [hP, length_bs]
    rw [hS] at HA
    have e1 : bs (S.extract 0 (S.size - 1)) = P.dropLast := by rw [bs_front S, hP]
    obtain ⟨S0, hS0⟩ : ∃ S0, S ++ (⟨#[0]⟩ : ByteArray) = S0 := ⟨_, rfl⟩
    have e2 : bs S0 = P ++ [0] := by rw [← hS0, hP]; simp [bs]
    have z1 : S0.size ≤ 281474976710656 := by rw [← hS0, ByteArray.size_append]; show S.size + 1 ≤ _; omega
    have z2 : (S.extract 0 (S.size - 1)).size ≤ 281474976710656 := by simp; omega
    have H1 : Hid (∀ w, _) := fun w => fGet_yes S a K w (by omega) (by rw [← hP]; exact g1)
    have H2 : Hid (∀ w, _) := fun w => fGet_yes (S.extract 0 (S.size - 1)) a K w z2 (by rw [e1]; exact g2)
    have H3 : Hid (∀ w, _) := fun w => fGet_no S0 w z1 (by rw [e2]; exact g3)
    obtain ⟨n, hn⟩ : ∃ n : Nat, S.size = n + 4 := ⟨S.size - 4, by omega⟩
    have hn100 : n ≤ 100 := by omega
    rw [show S.size - 1 = n + 3 by omega] at H2
    have hnat : ((n : Int) + 4 - 1).toNat = n + 3 := by omega
    have hnat2 : ((n : Int) + 3).toNat = n + 3 := by omega
    have hsub : IntKind.i64.wrap ((n : Int) + 4 - 1) = (n : Int) + 3 := by rw [show (n : Int) + 4 - 1 = (n : Int) + 3 by omega]; exact IntWalk.i64_in _ ⟨by omega, by omega⟩
    have hlt : ¬ ((n : Int) + 4 < 4) := by omega
    clear hp mK ha ha0 hS hP hlen e1 e2 z1 z2 l4 l100 g1 g2 g3
    go_enter Try.func4, Try.ntmps4
    go_wp2_with fail
    refine (HW.out _).mono ?_; rintro e w1 ⟨rfl, B⟩
    go_wp2_with fail
    refine (HA.out _).mono ?_; rintro e w2 ⟨rfl, hb⟩
    replace B := bel_trans B hb
    clear hb
    go_wp2_with (first | (go_at_call 11; refine (num_any _ _).mono ?_; rintro e w6 ⟨rfl, rfl⟩) | fail)
    refine (H1.out _).mono ?_; rintro e w3 ⟨rfl, hb⟩
    replace B := bel_trans B hb
    clear hb
    go_wp2_with fail
    refine (H2.out _).mono ?_; rintro e w4 ⟨rfl, hb⟩
    replace B := bel_trans B hb
    clear hb
    go_wp2_with fail
    refine (H3.out _).mono ?_; rintro e w5 ⟨rfl, hb⟩
    replace B := bel_trans B hb
    clear hb
    go_wp2_with (go_at_call 11; refine (num_any _ _).mono ?_; rintro e w6 ⟨rfl, rfl⟩)
    go_ret
    exact ⟨ret_bool (by simp), B⟩

theorem own : ownKnob Try.prog.godebug = none := by kernel_rfl
theorem laidOut : laidOutB Try.prog = true := by kernel_rfl

/-! ### The row's step -/
set_option maxRecDepth 100000 in
theorem lifted (os : Os) (started : os.Started) (H : Type) (enc : TypeId × Value → H) :
    ReturnsInHanded {} Try.checked os 4 .any (Rows.fqdnBackSpec.pre6 enc Try.prog Try.f4 Rows.fqdnBackRow.domain false) (Rows.fqdnBackSpec.post enc Try.prog Try.f4 false true false false) := by
  refine returnsInHanded_of_change_sized (C := Try.checked) own started (by kernel_rfl) Try.func4
    (ChangeSpec.witness6 (enc := enc) (C := Try.checked) false ⟨#[], #[.int .i64 0, .string ByteArray.empty], []⟩ 8 (by kernel_rfl) (by kernel_rfl) (by kernel_rfl) (by kernel_rfl)) ?_
  intro W base args ds gs before hval0 hW _ hsz0 _
  have hval : ∀ (j : Nat) t v, Try.f4.params[j]? = some t → args[j]? = some v → Value.okWide Try.prog W .any base t v := hval0
  have hsz : (DataW.weightsEach Try.prog (Try.f4.params.toList ++ Rows.fqdnBackSpec.plain.varTypes Try.prog) (ds ++ gs)).all (· ≤ reachBytes) = true := hsz0
  have hW' := hW
  obtain ⟨p, q, hA0, hV, rfl, _, _⟩ := hW
  have hA : DataW.TrodAll enc Try.prog W 0 (fun _ => true) true Try.f4.params.toList args.toList ds p := hA0
  rw [Try.params4] at hA hval hsz
  obtain ⟨v0, vs0, d0, ds0, p0, q0, hargs, rfl, rfl, h0, r0⟩ := trodAll_cons hA
  obtain ⟨v1, vs1, d1, ds1, p1, q1, rfl, rfl, rfl, h1, r1⟩ := trodAll_cons r0
  obtain ⟨rfl, rfl, rfl⟩ := trodAll_nil r1
  obtain rfl : args = #[v0, v1] := by cases args; simp_all
  obtain ⟨rfl, rfl⟩ := trodVars_none hV
  obtain ⟨a0, rfl, rfl, rfl, w0⟩ := open_int Try.underlying3 (hval 0 3 v0 rfl rfl) h0
  obtain ⟨a1, rfl, rfl, rfl, w1⟩ := open_string Try.underlying9 (hval 1 9 v1 rfl rfl) h1
  have s1 : a1.size ≤ 140737488351232 := by have := sized_string hsz (j := 1) (t := 9) rfl rfl; simpa [reachBytes] using this
  clear hA0 hval0 hsz0
  refine (walk a0 a1 W w0 s1).mono fun e W' ⟨he, bel⟩ => ?_
  subst he
  exact ⟨_, rfl, _, _, _, [], [], [], hW', trodAll_mk1 (shut_bool Try.underlying4 _), (trodAll_cons_mk (shut_int Try.underlying3 w0) (trodAll_cons_mk (shut_string Try.underlying9 w1) trodAll_mk0)), rfl, bel.frame _, fun h => by cases h⟩

theorem over : Rows.fqdnBackRow.holds Try.pinned (OpenSpec.ofChange Rows.fqdnBackSpec) :=
  OpenClaim.holds_of_wide 4 Try.f4 rfl rfl rfl rfl rfl rfl rfl ⟨rfl, rfl, rfl, rfl, rfl⟩ rfl rfl rfl rfl rfl (by kernel_rfl) Try.func4 (by kernel_rfl)
    (of_decide_eq_true (by kernel_rfl)) (by unfold Func.isWrapper; first | (rw [if_pos (by decide +kernel)]; kernel_rfl) | (rw [if_neg (by decide +kernel)]; exact ⟨rfl, rfl⟩))
    (fun os started H enc _ => lifted os started H enc)

/-- The given statement. -/
theorem proved : Rows.FqdnBackSaid := over

end Go.Proofs.Yteaediobcjednaa.fqdnBack
namespace Go.Proofs.Yteaediobcjednaa
theorem fqdnBack_proved : Rows.FqdnBackSaid := fqdnBack.proved
#print axioms fqdnBack_proved
end Go.Proofs.Yteaediobcjednaa
