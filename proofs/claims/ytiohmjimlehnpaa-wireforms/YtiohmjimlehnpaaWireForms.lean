/-
  Proved here: pinfoldlaw3.WireForms answers true for every pair of numbers (P3.1, P3.2: places, names, known ones that are none; bytes that are no name).
  Conditions: none but the row's own.
-/
import Derived.Test.YtiohmjimlehnpaaAwake3
import Derived.OpenShut
import Derived.ShutString
import Derived.ChangeOld
import Derived.SizedLaws
namespace Go.Proofs.Ytiohmjimlehnpaa.wireForms
open Go.ChangeShapes Go.WideShapes Go.ChangeAt Go.RowKit Go.Pin Go.PlainAid
open Go.ChangeMaps (open_string shut_string)

theorem cell_old (w : World) (o : Obj) (b j : Nat) (h : b < w.heap.size) : (w.alloc o).cell? ⟨b, j, none⟩ = w.cell? ⟨b, j, none⟩ := ((Below.refl w.heap.size w).alloc (Nat.le_refl _) o).cell (p := ⟨b, j, none⟩) h
/-- The four lists of known names that are none, one behind the other. -/
def four (x : World) (d : Int) : World := ((((x.alloc (.cells #[.string ⟨#[]⟩, .int .i64 1] 43)).alloc (.cells #[.string ⟨#[65]⟩, .int .i64 1] 43)).alloc (.cells #[.string ⟨#[97]⟩, .int .i64 (-(1 + d))] 43)).alloc (.cells #[.string ⟨#[97]⟩, .int .i64 (16383 + (1 + d))] 43)).alloc
  (.cells #[.slice (some ⟨x.heap.size, 0, none⟩) 1 1, .slice (some ⟨x.heap.size + 1, 0, none⟩) 1 1, .slice (some ⟨x.heap.size + 1 + 1, 0, none⟩) 1 1, .slice (some ⟨x.heap.size + 1 + 1 + 1, 0, none⟩) 1 1] 22)
theorem four_c (x : World) (d : Int) (h0 : 0 ≤ d) (h1 : d < 1024) (I : Nat) (hI : (I : Int) < 4) : ∃ g k, ([.slice (some ⟨x.heap.size, 0, none⟩) 1 1, .slice (some ⟨x.heap.size + 1, 0, none⟩) 1 1, .slice (some ⟨x.heap.size + 1 + 1, 0, none⟩) 1 1, .slice (some ⟨x.heap.size + 1 + 1 + 1, 0, none⟩) 1 1] : List Value)[I]? = some (.slice (some ⟨g, 0, none⟩) 1 1) ∧ KnLies (four x d) (some ⟨g, 0, none⟩) [k] ∧ knownL k = false ∧ k.1.length ≤ 1 := by
  have key : ∀ (g : Nat) (k : Kn), (four x d).cell? ⟨g, 0, none⟩ = some (.string (mk k.1)) → (four x d).cell? ⟨g, 1, none⟩ = some (.int .i64 k.2) → KnLies (four x d) (some ⟨g, 0, none⟩) [k] := by
    intro g k k1 k2
    refine .inr ⟨_, rfl, fun j hj => ?_⟩
    have : j = 0 := by simp at hj; omega
    subst this
    exact ⟨k1, k2⟩
  rcases (by omega : I = 0 ∨ I = 1 ∨ I = 2 ∨ I = 3) with rfl | rfl | rfl | rfl
  · refine ⟨_, ([], 1), rfl, key _ _ ?_ ?_, by decide, by simp⟩
    all_goals
      unfold four
      refine (cell_old _ _ _ _ (by simp only [World.size_alloc]; omega)).trans ?_
      refine (cell_old _ _ _ _ (by simp only [World.size_alloc]; omega)).trans ?_
      refine (cell_old _ _ _ _ (by simp only [World.size_alloc]; omega)).trans ?_
      refine (cell_old _ _ _ _ (by simp only [World.size_alloc]; omega)).trans ?_
      exact new_cell _ _ _ _ _ rfl
  · refine ⟨_, ([65], 1), rfl, key _ _ ?_ ?_, by decide, by simp⟩
    all_goals
      unfold four
      refine (cell_old _ _ _ _ (by simp only [World.size_alloc]; omega)).trans ?_
      refine (cell_old _ _ _ _ (by simp only [World.size_alloc]; omega)).trans ?_
      refine (cell_old _ _ _ _ (by simp only [World.size_alloc]; omega)).trans ?_
      exact new_at _ _ _ _ _ _ (by simp only [World.size_alloc]) rfl
  · refine ⟨_, ([97], -(1 + d)), rfl, key _ _ ?_ ?_, by simp [knownL]; omega, by simp⟩
    all_goals
      unfold four
      refine (cell_old _ _ _ _ (by simp only [World.size_alloc]; omega)).trans ?_
      refine (cell_old _ _ _ _ (by simp only [World.size_alloc]; omega)).trans ?_
      exact new_at _ _ _ _ _ _ (by simp only [World.size_alloc]) rfl
  · refine ⟨_, ([97], 16383 + (1 + d)), rfl, key _ _ ?_ ?_, by simp [knownL]; omega, by simp⟩
    all_goals
      unfold four
      refine (cell_old _ _ _ _ (by simp only [World.size_alloc]; omega)).trans ?_
      exact new_at _ _ _ _ _ _ (by simp only [World.size_alloc]) rfl

theorem bads_c (J : Nat) (hJ : (J : Int) < 13) : ∃ (b : ByteArray) (e : Int), ([.string ⟨#[]⟩, .string ⟨#[1]⟩, .string ⟨#[2, 97]⟩, .string ⟨#[1, 97]⟩, .string ⟨#[9, 97, 98, 99, 100, 101, 102, 103, 104, 105, 0]⟩, .string ⟨#[64]⟩, .string ⟨#[128, 0]⟩, .string ⟨#[192]⟩, .string ⟨#[192, 0]⟩, .string ⟨#[192, 5]⟩, .string ⟨#[1, 97, 192, 0]⟩, .string ⟨#[1, 95, 0]⟩, .string ⟨#[1, 49, 1, 49, 1, 49, 1, 49, 1, 49, 1, 49, 1, 49, 1, 49, 1, 49, 0]⟩] : List Value)[J]? = some (.string b) ∧
    ([.int .i64 301, .int .i64 301, .int .i64 301, .int .i64 301, .int .i64 300, .int .i64 300, .int .i64 300, .int .i64 301, .int .i64 300, .int .i64 300, .int .i64 300, .int .i64 300, .int .i64 300] : List Value)[J]? = some (.int .i64 e) ∧ getI (bs b) 0 = ([], 0, e) ∧ b.size ≤ 100 := by
  rcases (by omega : J = 0 ∨ J = 1 ∨ J = 2 ∨ J = 3 ∨ J = 4 ∨ J = 5 ∨ J = 6 ∨ J = 7 ∨ J = 8 ∨ J = 9 ∨ J = 10 ∨ J = 11 ∨ J = 12) with rfl | rfl | rfl | rfl | rfl | rfl | rfl | rfl | rfl | rfl | rfl | rfl | rfl
  all_goals exact ⟨_, _, rfl, rfl, by decide, by decide⟩

theorem walk (a0 a1 : Int) (w : World) (_w0 : (Lit.int .i64 a0).wf = true) (_w1 : (Lit.int .i64 a1).wf = true) :
    Calls Try.prog 5 #[.int .i64 a0, .int .i64 a1] w fun e w' => e = .returned (.bool true) ∧ Below w.heap.size w w' := by
  obtain ⟨I, hI, hI4⟩ := pick_mod a0 4 (by omega) (by omega)
  obtain ⟨J, hJ, hJ13⟩ := pick_mod a0 13 (by omega) (by omega)
  have hm := i64_mask 10 a1 (by omega)
  obtain ⟨d, hd, hd1⟩ : ∃ d : Int, a1 % 1024 = d ∧ 0 ≤ d ∧ d < 1024 := ⟨_, rfl, Int.emod_nonneg _ (by omega), Int.emod_lt_of_pos _ (by omega)⟩
  obtain ⟨hd0, hd1⟩ := hd1
  have hm' : bits .and .i64 a1 1023 = d := by rw [← hd]; exact hm
  clear hm hd
  have P1 : Hid (∀ w, _) := fun w => wput_nil_no (-(1 + d)) 0 ⟨#[97]⟩ w (by decide) (by simp [mayPutL]; omega)
  have P2 : Hid (∀ w, _) := fun w => wput_nil_no (65535 + (1 + d)) 0 ⟨#[97]⟩ w (by decide) (by simp [mayPutL]; omega)
  go_enter Try.func5, Try.ntmps5
  go_wp2_with fail
  refine (awake_yes _).mono ?_; rintro e x1 ⟨rfl, B⟩
  go_wp2_with fail
  refine (P1.out _).mono ?_; rintro e x2 ⟨rfl, hb⟩
  replace B := bel_trans B hb
  clear hb
  go_wp2_with fail
  refine (P2.out _).mono ?_; rintro e x3 ⟨rfl, hb⟩
  replace B := bel_trans B hb
  clear hb
  go_wp2_with fail
  refine (wput_nil_no 0 0 ⟨#[97, 46, 46, 98]⟩ _ (by decide) (by decide)).mono ?_; rintro e x4 ⟨rfl, hb⟩
  replace B := bel_trans B hb
  clear hb
  obtain ⟨g, k, hl, hk1, hk2, hk3⟩ := four_c x4 d hd0 hd1 I hI4
  have hp : Hid (Calls Try.prog 11 #[.int .i64 0, .slice (some ⟨g, 0, none⟩) 1 1, .string ⟨#[97]⟩] (four x4 d) fun e w' => e = .returned (.tuple #[.string ⟨#[]⟩, .slice none 0 0, .int .i64 300]) ∧ Below (four x4 d).heap.size (four x4 d) w') :=
    wput_no 0 (some ⟨g, 0, none⟩) 1 [k] ⟨#[97]⟩ (four x4 d) (by decide) (by simp) (by intro k' hk'; simp at hk'; subst hk'; unfold maxLen; omega) hk1 (by simp [mayPutL, hk2])
  have hB : Hid (Below x4.heap.size x4 (four x4 d)) := ((((((Below.refl x4.heap.size x4).alloc (by simp) _).alloc (by simp) _).alloc (by simp <;> omega) _).alloc (by simp <;> omega) _).alloc (by simp <;> omega) _)
  obtain ⟨b, eb, hj1, hj2, hj3, hj4⟩ := bads_c J hJ13
  have hg : Hid (∀ w, _) := fun w => get_is b 0 ⟨#[]⟩ 0 eb w (by omega) hj3
  have hg1 : Hid (∀ w, _) := fun w => get_is ⟨#[97]⟩ (-(1 + d)) ⟨#[]⟩ 0 300 w (by decide) (by rw [getI, if_pos (by omega)]; rfl)
  have hg2 : Hid (∀ w, _) := fun w => get_is ⟨#[97]⟩ (1 + (1 + d)) ⟨#[]⟩ 0 301 w (by decide) (by
    rw [getI, if_neg (by omega)]
    unfold getL
    rw [allWire_err (wstep_past (by simp [bs]; omega))]; rfl)
  clear hk1 hk2 hk3 hj3 hj4
  go_wp2_with fail
  refine (Calls.mono hp.out ?_); rintro e x5 ⟨rfl, hb⟩
  replace B := bel_trans B (bel_trans hB.out hb)
  clear hb hB hp hl
  go_wp2_with fail
  refine (hg.out _).mono ?_; rintro e x6 ⟨rfl, hb⟩
  have hw : Hid (_) := hj2
  have hcx : ∀ o, ((x5.alloc o).alloc (.cells #[.int .i64 301, .int .i64 301, .int .i64 301, .int .i64 301, .int .i64 300, .int .i64 300, .int .i64 300, .int .i64 301, .int .i64 300, .int .i64 300, .int .i64 300, .int .i64 300, .int .i64 300] 3)).cell? ⟨x5.heap.size + 1, J, none⟩ = some (.int .i64 eb) := fun o => new_at _ _ _ _ _ _ (by simp) (by simpa using hj2)
  have hc6 := (hb.cell (p := ⟨x5.heap.size + 1, J, none⟩) (by simp)).trans (hcx _)
  have hlt6 : x5.heap.size + 1 < x6.heap.size := World.block_lt_of_cell? x6 _ hc6
  replace B := bel_trans ((B.alloc B.size _).alloc (by have := B.size; simp; omega) _) hb
  clear hb hcx hw hj1 hj2
  go_wp2_with fail
  refine (hg1.out _).mono ?_; rintro e x7 ⟨rfl, hb⟩
  replace B := bel_trans B hb
  have hc7 := (hb.cell (p := ⟨x5.heap.size + 1, J, none⟩) hlt6).trans hc6
  have hlt7 : x5.heap.size + 1 < x7.heap.size := World.block_lt_of_cell? x7 _ hc7
  clear hb hc6 hlt6
  go_wp2_with fail
  refine (hg2.out _).mono ?_; rintro e x8 ⟨rfl, hb⟩
  replace B := bel_trans B hb
  have hc8 := (hb.cell (p := ⟨x5.heap.size + 1, J, none⟩) hlt7).trans hc7
  clear hb hc7 hlt7
  go_wp2_with fail
  go_quiet ((go_at_call 16; exact Calls.quiet_of_same (num_any _ _)))
  go_wp2
  go_ret
  exact ⟨rfl, below_drewN B _⟩

theorem own : ownKnob Try.prog.godebug = none := by kernel_rfl
theorem laidOut : laidOutB Try.prog = true := by kernel_rfl

/-! ### The row's step -/
set_option maxRecDepth 100000 in
theorem lifted (os : Os) (started : os.Started) (H : Type) (enc : TypeId × Value → H) :
    ReturnsInHanded {} Try.checked os 5 .any (Rows.wireFormsSpec.pre6 enc Try.prog Try.f5 Rows.wireFormsRow.domain false) (Rows.wireFormsSpec.post enc Try.prog Try.f5 false true false false) := by
  refine returnsInHanded_of_change_sized (C := Try.checked) own started (by kernel_rfl) Try.func5
    (ChangeSpec.witness6 (enc := enc) (C := Try.checked) false ⟨#[], #[.int .i64 0, .int .i64 0], []⟩ 8 (by kernel_rfl) (by kernel_rfl) (by kernel_rfl) (by kernel_rfl)) ?_
  intro W base args ds gs before hval0 hW _ hsz0 _
  have hval : ∀ (j : Nat) t v, Try.f5.params[j]? = some t → args[j]? = some v → Value.okWide Try.prog W .any base t v := hval0
  have hsz : (DataW.weightsEach Try.prog (Try.f5.params.toList ++ Rows.wireFormsSpec.plain.varTypes Try.prog) (ds ++ gs)).all (· ≤ reachBytes) = true := hsz0
  have hW' := hW
  obtain ⟨p, q, hA0, hV, rfl, _, _⟩ := hW
  have hA : DataW.TrodAll enc Try.prog W 0 (fun _ => true) true Try.f5.params.toList args.toList ds p := hA0
  rw [Try.params5] at hA hval hsz
  obtain ⟨v0, vs0, d0, ds0, p0, q0, hargs, rfl, rfl, h0, r0⟩ := trodAll_cons hA
  obtain ⟨v1, vs1, d1, ds1, p1, q1, rfl, rfl, rfl, h1, r1⟩ := trodAll_cons r0
  obtain ⟨rfl, rfl, rfl⟩ := trodAll_nil r1
  obtain rfl : args = #[v0, v1] := by cases args; simp_all
  obtain ⟨rfl, rfl⟩ := trodVars_none hV
  obtain ⟨a0, rfl, rfl, rfl, w0⟩ := open_int Try.underlying3 (hval 0 3 v0 rfl rfl) h0
  obtain ⟨a1, rfl, rfl, rfl, w1⟩ := open_int Try.underlying3 (hval 1 3 v1 rfl rfl) h1
  clear hA0 hval0 hsz0
  refine (walk a0 a1 W w0 w1).mono fun e W' ⟨he, bel⟩ => ?_
  subst he
  exact ⟨_, rfl, _, _, _, [], [], [], hW', trodAll_mk1 (shut_bool Try.underlying4 _), (trodAll_cons_mk (shut_int Try.underlying3 w0) (trodAll_cons_mk (shut_int Try.underlying3 w1) trodAll_mk0)), rfl, bel.frame _, fun h => by cases h⟩

theorem over : Rows.wireFormsRow.holds Try.pinned (OpenSpec.ofChange Rows.wireFormsSpec) :=
  OpenClaim.holds_of_wide 5 Try.f5 rfl rfl rfl rfl rfl rfl rfl ⟨rfl, rfl, rfl, rfl, rfl⟩ rfl rfl rfl rfl rfl (by kernel_rfl) Try.func5 (by kernel_rfl)
    (of_decide_eq_true (by kernel_rfl)) (by unfold Func.isWrapper; first | (rw [if_pos (by decide +kernel)]; kernel_rfl) | (rw [if_neg (by decide +kernel)]; exact ⟨rfl, rfl⟩))
    (fun os started H enc _ => lifted os started H enc)

/-- The given statement. -/
theorem proved : Rows.WireFormsSaid := over

end Go.Proofs.Ytiohmjimlehnpaa.wireForms
namespace Go.Proofs.Ytiohmjimlehnpaa
theorem wireForms_proved : Rows.WireFormsSaid := wireForms.proved
#print axioms wireForms_proved
end Go.Proofs.Ytiohmjimlehnpaa
