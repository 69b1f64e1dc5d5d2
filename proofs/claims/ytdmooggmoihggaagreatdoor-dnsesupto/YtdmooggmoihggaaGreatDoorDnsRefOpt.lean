/-
  Contract of the document's own reader of messages: opt, wherever it stands.
-/
import Derived.Test.YtdmooggmoihggaaGreatDoorDnsRefGet
import Derived.Test.YtdmooggmoihggaaGreatDoorBDns
import Derived.Deep.RegionHeld3
namespace Go.Proofs.YtdmooggmoihggaaGreatDoor
set_option maxRecDepth 100000
open Go.ChangeShapes Go.WideShapes Go.ChangeAt Go.RowKit Go.Pin Go.PlainAid

/-- What opt answers. -/
def optV (s : ByteArray) (a : Nat) : Int × Int × Bool := match optAt s a with
  | some (z, e) => (z, (e : Int), true)
  | none => (0, 0, false)
/-- What opt answers, by what it reads. -/
def optU (er F G H K Z k q n : Int) (N : ByteArray) : Int × Int × Bool :=
  if er = 0 ∧ F = 0 ∧ G = 0 ∧ H = 0 ∧ N.toList = [] ∧ K = 41 ∧ q + 10 + k ≤ n then (max Z 512, q + 10 + k, true) else (0, 0, false)
theorem optV_is (s : ByteArray) (a q : Nat) (hq : (getL (bs s) a).2.1 = (q : Int)) (hle : q ≤ s.size) :
    optV s a = optU (getL (bs s) a).2.2 (getB s (q : Int) 2).2 (getB s ((q : Int) + 2) 2).2 (getB s ((q : Int) + 8) 2).2 (getB s (q : Int) 2).1 (getB s ((q : Int) + 2) 2).1 (getB s ((q : Int) + 8) 2).1 q s.size (mk (getL (bs s) a).1) := by
  have hN : (mk (getL (bs s) a).1).toList = [] ↔ (getL (bs s) a).1 = [] := by
    constructor
    · intro h
      by_cases hh : (getL (bs s) a).1 = []
      · exact hh
      · have := empty_mk_no hh; rw [h] at this; simp at this
    · intro h; have := empty_mk_yes h; simpa using this
  unfold optV optAt optU
  rw [hq, Int.toNat_natCast]
  by_cases h10 : q + 10 ≤ s.size
  · rw [getB_at s q 2 (by omega), getB_in s ((q : Int) + 2) 2 (q + 2) (by omega) (by omega), getB_in s ((q : Int) + 8) 2 (q + 8) (by omega) (by omega)]
    have hb := (num_bd s (q + 8) 2).1
    by_cases hc : (getL (bs s) a).2.2 = 0 ∧ (getL (bs s) a).1 = [] ∧ (q : Int) + 10 ≤ s.size ∧ num s q 2 = 41 ∧ (q : Int) + 10 + num s (q + 8) 2 ≤ s.size
    · obtain ⟨k1, k2, k3, k4, k5⟩ := hc
      rw [if_pos ⟨k1, k2, k3, k4, k5⟩, if_pos ⟨k1, rfl, rfl, rfl, hN.2 k2, k4, k5⟩]
      simp only
      rw [Int.toNat_of_nonneg (by omega)]
    · rw [if_neg hc, if_neg]
      rintro ⟨k1, _, _, _, k2, k4, k5⟩
      exact hc ⟨k1, hN.1 k2, by omega, k4, k5⟩
  · rw [if_neg (by rintro ⟨_, _, h, _⟩; omega), if_neg]
    rintro ⟨_, _, _, h, _⟩
    unfold getB at h
    rw [if_neg (by omega), if_pos (by omega)] at h
    simp at h
set_option maxRecDepth 100000 in
set_option maxHeartbeats 4000000 in
theorem dOpt_c (b : Nat) (s : ByteArray) (a : Nat) (w : World) (hs : s.size ≤ 1125899906842624) (h : TkAt w b s ⟨(a : Int), false⟩) :
    Calls Tryz.prog 26 #[.pointer (some ⟨b, 0, none⟩)] w fun e w' => e = .returned (.tuple #[.int .i64 (optV s a).1, .int .i64 (optV s a).2.1, .bool (optV s a).2.2]) ∧ Below w.heap.size w w' := by
  have HN : Hid (∀ w, _) := fun w => rget_from s a w hs
  simp only [told] at HN
  have hV := optV_is s a
  obtain ⟨NM, tO, er, hg⟩ : ∃ NM tO er, getL (bs s) a = (NM, tO, er) := ⟨_, _, _, rfl⟩
  rw [hg] at HN hV
  simp only at HN hV
  have hto : 0 ≤ tO ∧ tO ≤ s.size := by have := get_nx hg; rwa [length_bs] at this
  obtain ⟨q, hq⟩ : ∃ q : Nat, tO = q := ⟨tO.toNat, by omega⟩
  subst hq
  replace hV := hV q rfl (by omega)
  have hn1 := num_bd s (q + 8) 2
  have HB : Hid (∀ (d : Int) (w : World), Calls Tryz.prog 59 #[.string s, .int .i64 d, .int .i64 2] w fun e w' => e = .returned (.tuple #[.int .i64 (getB s d 2).1, .int .i64 (getB s d 2).2]) ∧ w' = w) := fun d w => rget_b s d 2 w (.inr (.inl rfl)) (by unfold maxLen; omega)
  have HB1 : Hid (∀ w, _) := fun w => HB.out (q : Int) w
  have HB2 : Hid (∀ w, _) := fun w => HB.out ((q : Int) + 2) w
  have HB3 : Hid (∀ w, _) := fun w => HB.out ((q : Int) + 8) w
  have hk8 : 0 ≤ (getB s ((q : Int) + 8) 2).1 ∧ (getB s ((q : Int) + 8) 2).1 ≤ 65536 := by
    unfold getB
    rw [if_neg (by omega)]
    split
    · simp
    · rw [show ((q : Int) + 8).toNat = q + 8 by omega]
      have := hn1.2
      simp at this
      exact ⟨hn1.1, by simp only; omega⟩
  have hsz : (s.size : Int) ≤ 1125899906842624 := by omega
  have hqs : (q : Int) ≤ s.size := hto.2
  rw [hV]
  clear hn1 HB hg hV
  generalize mk NM = N at *
  generalize (getB s (q : Int) 2).1 = K at *
  generalize (getB s (q : Int) 2).2 = F at *
  generalize (getB s ((q : Int) + 2) 2).1 = Z at *
  generalize (getB s ((q : Int) + 2) 2).2 = G at *
  generalize (getB s ((q : Int) + 8) 2).1 = k at *
  generalize (getB s ((q : Int) + 8) 2).2 = H8 at *
  have w1 : IntKind.i64.wrap ((q : Int) + 2) = (q : Int) + 2 := wrap_in _ (by omega) (by omega)
  have w2 : IntKind.i64.wrap ((q : Int) + 8) = (q : Int) + 8 := wrap_in _ (by omega) (by omega)
  have w3 : IntKind.i64.wrap ((q : Int) + 10) = (q : Int) + 10 := wrap_in _ (by omega) (by omega)
  have w4 : IntKind.i64.wrap ((q : Int) + 10 + k) = (q : Int) + 10 + k := wrap_in _ (by omega) (by omega)
  have hmax : ∀ (w : World) (ts : Array TypeId) (t : TypeId), (Builtin.max_ ts t #[.int .i64 Z, .int .i64 512]).run Tryz.prog w = .ok (.int .i64 (max Z 512)) w := fun w ts t => by
    rw [run_max_int2]; congr 2; split <;> omega
  obtain ⟨V, hV⟩ : ∃ V, optU er F G H8 K Z k q s.size N = V := ⟨_, rfl⟩
  rw [hV]
  have HV : Hid (optU er F G H8 K Z k q s.size N = V) := hV
  have c0 := h.c0
  have c1 := h.c1
  have lt := h.lt
  have S1 : Hid (∀ w', Below w.heap.size w w' → w'.cell? ⟨b, 0, none⟩ = some (.string s)) := fun w' hb => (hb.cell h.lt).trans h.c0
  have Hs : Hid (∀ w', Below w.heap.size w w' → w'.heap.size ≥ w.heap.size) := fun w' hb => hb.size
  simp only at c1
  clear hV hs h hto hk8
  go_enter Tryz.func26, Tryz.ntmps26
  go_wp2_with fail
  go_region_held3 (fun w' => w'.cell? ⟨b, 0, none⟩ = some (.string s) ∧ w'.cell? ⟨b, 1, none⟩ = some (.int .i64 a)) (first | exact ⟨c0, c1⟩ | exact ⟨g0, g1⟩)
    (first | (go_at_call 24; refine (HN.out _).mono ?_; rintro e w1 ⟨rfl, hb1⟩; have hb1' : Below w.heap.size w w1 := bel_trans (below_drewN (Below.refl _ _) 1) hb1; have g0 := (hb1'.cell (p := ⟨b, 0, none⟩) lt).trans c0; have g1 := (hb1'.cell (p := ⟨b, 1, none⟩) lt).trans c1))
  have HB : Hid (Below w.heap.size w w1) := hb1'
  clear hb1 hb1' c0 c1 g1 HN
  go_wp2_with fail
  refine (HB1.out _).mono ?_; rintro e wa ⟨rfl, rfl⟩
  go_wp2_with fail
  refine (HB2.out _).mono ?_; rintro e wa ⟨rfl, rfl⟩
  go_wp2_with fail
  refine (HB3.out _).mono ?_; rintro e wa ⟨rfl, rfl⟩
  by_cases he : er = 0
  case neg =>
    have hv : V = (0, 0, false) := by
      rw [← HV.out]; unfold optU; rw [if_neg]
      rintro ⟨k0, k1, k2, k3, k4, k5, k6⟩; exact he k0
    subst hv
    have z : (er != 0) = true := by simpa using he
    clear HV
    go_wp2_with fail
    go_ret3
    exact ⟨rfl, HB.out⟩
  have z0 : (er != 0) = false := by simpa using he
  by_cases hF : F = 0
  case neg =>
    have hv : V = (0, 0, false) := by
      rw [← HV.out]; unfold optU; rw [if_neg]
      rintro ⟨k0, k1, k2, k3, k4, k5, k6⟩; exact hF k1
    subst hv
    have z : (F != 0) = true := by simpa using hF
    clear HV
    go_wp2_with fail
    go_ret3
    exact ⟨rfl, HB.out⟩
  have z1 : (F != 0) = false := by simpa using hF
  by_cases hG : G = 0
  case neg =>
    have hv : V = (0, 0, false) := by
      rw [← HV.out]; unfold optU; rw [if_neg]
      rintro ⟨k0, k1, k2, k3, k4, k5, k6⟩; exact hG k2
    subst hv
    have z : (G != 0) = true := by simpa using hG
    clear HV
    go_wp2_with fail
    go_ret3
    exact ⟨rfl, HB.out⟩
  have z2 : (G != 0) = false := by simpa using hG
  by_cases hH : H8 = 0
  case neg =>
    have hv : V = (0, 0, false) := by
      rw [← HV.out]; unfold optU; rw [if_neg]
      rintro ⟨k0, k1, k2, k3, k4, k5, k6⟩; exact hH k3
    subst hv
    have z : (H8 != 0) = true := by simpa using hH
    clear HV
    go_wp2_with fail
    go_ret3
    exact ⟨rfl, HB.out⟩
  have z3 : (H8 != 0) = false := by simpa using hH
  by_cases hN : N.toList = []
  case neg =>
    have hv : V = (0, 0, false) := by
      rw [← HV.out]; unfold optU; rw [if_neg]
      rintro ⟨k0, k1, k2, k3, k4, k5, k6⟩; exact hN k4
    subst hv
    have z : N.toList.isEmpty = false := by cases h : N.toList with | nil => exact absurd h hN | cons a b => rfl
    clear HV
    go_wp2_with fail
    go_ret3
    exact ⟨rfl, HB.out⟩
  have z4 : N.toList.isEmpty = true := by rw [hN]; rfl
  by_cases hK : K = 41
  case neg =>
    have hv : V = (0, 0, false) := by
      rw [← HV.out]; unfold optU; rw [if_neg]
      rintro ⟨k0, k1, k2, k3, k4, k5, k6⟩; exact hK k5
    subst hv
    have z : (K != 41) = true := by simpa using hK
    clear HV
    go_wp2_with fail
    go_ret3
    exact ⟨rfl, HB.out⟩
  have z5 : (K != 41) = false := by simpa using hK
  by_cases hL : (q : Int) + 10 + k ≤ s.size
  case neg =>
    have hv : V = (0, 0, false) := by
      rw [← HV.out]; unfold optU; rw [if_neg]
      rintro ⟨k0, k1, k2, k3, k4, k5, k6⟩; exact hL k6
    subst hv
    have z : decide ((s.size : Int) < (q : Int) + 10 + k) = true := by simp; omega
    clear HV
    go_wp2_with fail
    go_ret3
    exact ⟨rfl, HB.out⟩
  have z6 : decide ((s.size : Int) < (q : Int) + 10 + k) = false := by simp; omega
  have hv : V = (max Z 512, (q : Int) + 10 + k, true) := by
    rw [← HV.out]; unfold optU; rw [if_pos ⟨he, hF, hG, hH, hN, hK, hL⟩]
  subst hv
  clear HV
  go_wp2_with fail
  go_ret3
  exact ⟨rfl, HB.out⟩
end Go.Proofs.YtdmooggmoihggaaGreatDoor
