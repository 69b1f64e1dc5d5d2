/-
  Contracts of package conf's May and its parts, at every configuration.
-/
import Derived.Test.YtedbihckdbpebaaConfAll
import Derived.Test.YtedbihckdbpebaaConfAllR
namespace Go.Proofs.Ytedbihckdbpebaa
open Go.ChangeShapes Go.WideShapes Go.ChangeAt Go.RowKit Go.Pin Go.PlainAid

theorem range_bounds {a b x : Int} (h : rangeB a b = true) (hx : betw a x b = true) : (Lit.int .i64 x).wf = true := by
  obtain ⟨h0, h1, h2, _⟩ := (rangeB_iff a b).1 h
  obtain ⟨h3, h4⟩ := (betw_iff _ _ _).1 hx
  have e1 : IntKind.i64.min = -9223372036854775808 := by decide
  have e2 : IntKind.i64.max = 9223372036854775807 := by decide
  simp only [Lit.wf, e1, e2, Bool.and_eq_true, decide_eq_true_eq]
  omega
set_option maxHeartbeats 400000 in
theorem hostsMay_c (c : Cf) (p : CPl) (a : Option Addr) (cap : Nat) (xs : List Int) (w : World) (hl : xs.length ≤ 1000000) (hr : rangeB c.fi c.la = true) (h : NumsLie w a xs) :
    Calls Try.prog 45 #[cv c p, .slice a xs.length cap] w fun e w' => e = .returned (.bool (hostsB c.fi c.la xs)) ∧ Below w.heap.size w w' := by
  have A0 : Hid (Below w.heap.size w (w.alloc (.cells (cellsC c p) 26))) := (Below.refl _ _).alloc (Nat.le_refl _) _
  have HA : Hid (∀ _ : Unit, _) := fun _ => allI_c a cap xs w.heap.size c.fi c.la _ hl (h.below A0.out) ((BoxC.new w c p).cell 0) ((BoxC.new w c p).cell 1)
  have HO : Hid ((xs.all fun x => betw c.fi x c.la) = true → ∀ w', Below w.heap.size w w' → _) := fun hall w' hb => onceI_c a cap xs w' hl (fun x hx => range_bounds hr (List.all_eq_true.1 hall x hx)) (h.below hb)
  have hv : hostsB c.fi c.la xs = ((xs.all fun x => betw c.fi x c.la) && onceB xs) := rfl
  generalize onceB xs = k2 at *
  generalize (xs.all fun x => betw c.fi x c.la) = k1 at *
  rw [hv]
  clear hv h hr
  simp only [cv, cellsC] at *
  go_enter Try.func45, Try.ntmps45
  go_wp2_with fail
  refine (HA.out ()).mono ?_; rintro e w1 ⟨rfl, hb1⟩
  have B1 : Hid (Below w.heap.size w w1) := bel_trans A0.out hb1
  clear hb1 HA A0
  cases k1
  · go_wp2
    go_ret
    exact ⟨rfl, B1.out⟩
  go_wp2_with fail
  refine (HO.out trivial _ B1.out).mono ?_; rintro e w2 ⟨rfl, hb2⟩
  go_wp2
  go_ret
  exact ⟨ret_bool (by simp), bel_trans B1.out hb2⟩

theorem clientsMay_c (a : Option Addr) (cap : Nat) (xs : List (List UInt8)) (w : World) (hl : xs.length ≤ 1000000) (h : StrsLie w a xs) :
    Calls Try.prog 46 #[.slice a xs.length cap] w fun e w' => e = .returned (.bool (clsB xs)) ∧ Below w.heap.size w w' := by
  have HA : Hid (∀ _ : Unit, _) := fun _ => allS_c a cap xs w hl h
  have HO : Hid (xs.all clB = true → ∀ w', Below w.heap.size w w' → _) := fun hall w' hb => onceS_c a cap xs w' hl (fun x hx => by
    have := (betw_iff _ _ _).1 (List.all_eq_true.1 hall x hx); unfold maxLen; omega) (h.below hb)
  have hv : clsB xs = (xs.all clB && onceB xs) := rfl
  generalize onceB xs = k2 at *
  generalize xs.all clB = k1 at *
  rw [hv]
  clear hv h
  go_enter Try.func46, Try.ntmps46
  go_wp2_with fail
  refine (HA.out ()).mono ?_; rintro e w1 ⟨rfl, hb1⟩
  have B1 : Hid (Below w.heap.size w w1) := hb1
  clear hb1 HA
  cases k1
  · go_wp2
    go_ret
    exact ⟨rfl, B1.out⟩
  go_wp2_with fail
  refine (HO.out trivial _ B1.out).mono ?_; rintro e w2 ⟨rfl, hb2⟩
  go_wp2
  go_ret
  exact ⟨ret_bool (by simp), bel_trans B1.out hb2⟩

set_option maxHeartbeats 400000 in
theorem excludedMay_c (c : Cf) (p : CPl) (w : World) (hr : rangeB c.fi c.la = true) (h : NumsLie w p.ea c.ex) :
    Calls Try.prog 31 #[cv c p] w fun e w' => e = .returned (.bool (exB c)) ∧ Below w.heap.size w w' := by
  have A0 : Hid (Below w.heap.size w (w.alloc (.cells (cellsC c p) 26))) := (Below.refl _ _).alloc (Nat.le_refl _) _
  have HH : Hid (c.ex.length ≤ 8 → ∀ w', Below w.heap.size w w' → _) := fun h8 w' hb => hostsMay_c c p p.ea p.ec c.ex w' (by omega) hr (h.below hb)
  have hv : exB c = (decide (c.ex.length ≤ 8) && hostsB c.fi c.la c.ex) := rfl
  generalize hostsB c.fi c.la c.ex = k2 at *
  generalize exB c = V at *
  simp only [cv, cellsC] at *
  clear h hr
  by_cases h8 : c.ex.length ≤ 8
  · have hd : decide ((c.ex.length : Int) ≤ 8) = true := by simp; omega
    have hV : V = k2 := by rw [hv]; simp [h8]
    clear hv
    subst hV
    have HC : Hid (∀ w', Below w.heap.size w w' → _) := fun w' => HH.out h8 w'
    clear HH h8
    go_enter Try.func31, Try.ntmps31
    go_wp2_with fail
    refine (HC.out _ A0.out).mono ?_; rintro e w1 ⟨rfl, hb1⟩
    go_wp2
    go_ret
    exact ⟨ret_bool (by simp), bel_trans A0.out hb1⟩
  · have hd : decide ((c.ex.length : Int) ≤ 8) = false := by simp; omega
    have hV : V = false := by rw [hv]; simp [h8]
    clear hv
    subst hV
    clear HH h8
    go_enter Try.func31, Try.ntmps31
    go_wp2
    go_ret
    exact ⟨rfl, A0.out⟩

theorem zoneMay_c (z : ByteArray) (w : World) (hz : z.size ≤ maxLen) : Calls Try.prog 33 #[.string z] w fun e w' => e = .returned (.bool (zoneB z)) ∧ Below w.heap.size w w' := by
  have HL : Hid (∀ w, _) := fun w => labels_c z w hz
  have HW : Hid (∀ w, _) := fun w => cWithin_c 1 (labsL (bs z)).length 4 w
  have hv : zoneB z = betw 1 (labsL (bs z)).length 4 := rfl
  rw [hv]
  generalize labsL (bs z) = ls at *
  clear hv
  go_enter Try.func33, Try.ntmps33
  go_wp2_with fail
  refine (HL.out _).mono ?_; rintro e w1 ⟨⟨v, rfl, hT⟩, hb⟩
  obtain ⟨a, cap, rfl⟩ := hT.form
  clear hT
  go_wp2_with fail
  refine (HW.out _).mono ?_; rintro e w2 ⟨rfl, rfl⟩
  go_wp2
  go_ret
  exact ⟨rfl, hb⟩

set_option maxHeartbeats 400000 in
theorem staticMay_c (c : Cf) (p : CPl) (w : World) (h : RecsLie w p.sa c.st) (hr : ∀ r ∈ c.st, IsRec r) (hz : c.zo.size ≤ maxLen) :
    Calls Try.prog 34 #[cv c p] w fun e w' => e = .returned (.bool (stB c)) ∧ Below w.heap.size w w' := by
  have A0 : Hid (Below w.heap.size w (w.alloc (.cells (cellsC c p) 26))) := (Below.refl _ _).alloc (Nat.le_refl _) _
  have HH : Hid (c.st.length ≤ 8 → _) := fun h8 => allR_c w.heap.size c p _ (by omega) (h.below A0.out) hr hz (BoxC.new w c p)
  have hv : stB c = (decide (c.st.length ≤ 8) && c.st.all (statB c.zo)) := rfl
  generalize c.st.all (statB c.zo) = k2 at *
  generalize stB c = V at *
  simp only [cv, cellsC] at *
  clear h hr
  by_cases h8 : c.st.length ≤ 8
  · have hd : decide ((c.st.length : Int) ≤ 8) = true := by simp; omega
    have hV : V = k2 := by rw [hv]; simp [h8]
    clear hv
    subst hV
    have HC : Hid (∀ _ : Unit, _) := fun _ => HH.out h8
    clear HH h8
    go_enter Try.func34, Try.ntmps34
    go_wp2_with fail
    refine (HC.out ()).mono ?_; rintro e w1 ⟨rfl, hb1⟩
    go_wp2
    go_ret
    exact ⟨ret_bool (by simp), bel_trans A0.out hb1⟩
  · have hd : decide ((c.st.length : Int) ≤ 8) = false := by simp; omega
    have hV : V = false := by rw [hv]; simp [h8]
    clear hv
    subst hV
    clear HH h8
    go_enter Try.func34, Try.ntmps34
    go_wp2
    go_ret
    exact ⟨rfl, A0.out⟩

end Go.Proofs.Ytedbihckdbpebaa
