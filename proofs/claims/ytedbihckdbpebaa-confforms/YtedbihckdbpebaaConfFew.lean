/-
  Contracts of package conf's small parts, at every number: within, rangeMay, stands, Address, Host; of the references Address, HostOf, clientMay.
-/
import Derived.Test.YtedbihckdbpebaaConfMem
import Derived.Test.YtedbihckdbpebaaRrMay
import Derived.WalkKit
import Derived.ProofKit
import Derived.WalkSpells
import Derived.PlainAid
import Derived.Handy
namespace Go.Proofs.Ytedbihckdbpebaa
open Go.ChangeShapes Go.WideShapes Go.ChangeAt Go.RowKit Go.Pin Go.PlainAid

theorem cWithin_c (a x b : Int) (w : World) : Calls Try.prog 29 #[.int .i64 a, .int .i64 x, .int .i64 b] w fun e w' => e = .returned (.bool (betw a x b)) ∧ w' = w := by
  by_cases h0 : a ≤ x
  · have h1 : decide (a ≤ x) = true := by simpa using h0
    have h2 : betw a x b = decide (x ≤ b) := by simp [betw, h0]
    rw [h2]
    clear h2
    go_enter Try.func29, Try.ntmps29
    go_wp2
    go_ret
    exact ⟨rfl, rfl⟩
  · have h1 : decide (a ≤ x) = false := by simpa using h0
    have h2 : betw a x b = false := by simp [betw, h0]
    rw [h2]
    clear h2 h0
    go_enter Try.func29, Try.ntmps29
    go_wp2
    go_ret
    exact ⟨rfl, rfl⟩

theorem rangeMay_c (a b : Int) (w : World) : Calls Try.prog 30 #[.int .i64 a, .int .i64 b] w fun e w' => e = .returned (.bool (rangeB a b)) ∧ w' = w := by
  by_cases h1 : 2 ≤ a
  · have d1 : decide (2 ≤ a) = true := by simpa using h1
    by_cases h2 : a ≤ b
    · have d2 : decide (a ≤ b) = true := by simpa using h2
      by_cases h3 : b ≤ 254
      · have d3 : decide (b ≤ 254) = true := by simpa using h3
        have hv : rangeB a b = decide (b - a < 8) := by simp [rangeB, h1, h2, h3]
        rw [hv]
        clear hv
        go_enter Try.func30, Try.ntmps30
        go_wp2
        go_ret
        exact ⟨rfl, rfl⟩
      · have d3 : decide (b ≤ 254) = false := by simpa using h3
        have hv : rangeB a b = false := by simp [rangeB, h3]
        rw [hv]
        clear hv h1 h2 h3
        go_enter Try.func30, Try.ntmps30
        go_wp2
        go_ret
        exact ⟨rfl, rfl⟩
    · have d2 : decide (a ≤ b) = false := by simpa using h2
      have hv : rangeB a b = false := by simp [rangeB, h2]
      rw [hv]
      clear hv h1 h2
      go_enter Try.func30, Try.ntmps30
      go_wp2
      go_ret
      exact ⟨rfl, rfl⟩
  · have d1 : decide (2 ≤ a) = false := by simpa using h1
    have hv : rangeB a b = false := by simp [rangeB, h1]
    rw [hv]
    clear hv h1
    go_enter Try.func30, Try.ntmps30
    go_wp2
    go_ret
    exact ⟨rfl, rfl⟩

theorem stands_c (t : Int) (w : World) : Calls Try.prog 50 #[.int .i64 t] w fun e w' => e = .returned (.bool (standT t)) ∧ w' = w := by
  have hv : standT t = (t == 1 || t == 5 || t == 16) := rfl
  rw [hv]
  clear hv
  go_enter Try.func50, Try.ntmps50
  go_wp2
  all_goals
    go_ret
    exact ⟨ret_bool (by simp_all), rfl⟩

theorem address_c (h : Int) (w : World) : Calls Try.prog 13 #[.int .i64 h] w fun e w' => e = .returned (.tuple #[.int .i64 (addrA h).1, .int .i64 (addrA h).2]) ∧ w' = w := by
  have HW : Hid (∀ w, _) := fun w => cWithin_c 1 h 254 w
  cases hb : betw 1 h 254 with
  | false =>
    have hv : addrA h = (0, 1100) := by simp [addrA, hb]
    rw [hb] at HW
    rw [hv]
    clear hv hb
    go_enter Try.func13, Try.ntmps13
    go_wp2_with fail
    refine (HW.out _).mono ?_; rintro e w1 ⟨rfl, rfl⟩
    go_wp2
    go_ret2
    exact ⟨rfl, rfl⟩
  | true =>
    have hv : addrA h = (167772160 + h, 0) := by simp [addrA, hb]
    rw [hb] at HW
    rw [hv]
    obtain ⟨h0, h1⟩ := (betw_iff _ _ _).1 hb
    clear hv hb
    go_enter Try.func13, Try.ntmps13
    go_wp2_with fail
    refine (HW.out _).mono ?_; rintro e w1 ⟨rfl, rfl⟩
    go_wp2
    go_ret2
    exact ⟨rfl, rfl⟩

theorem host_c (a : Int) (w : World) : Calls Try.prog 20 #[.int .i64 a] w fun e w' => e = .returned (.int .i64 (hostA a)) ∧ w' = w := by
  have HW : Hid (∀ w, _) := fun w => cWithin_c 167772161 a 167772414 w
  cases hb : betw 167772161 a 167772414 with
  | false =>
    have hv : hostA a = 0 := by simp [hostA, hb]
    rw [hb] at HW
    rw [hv]
    clear hv hb
    go_enter Try.func20, Try.ntmps20
    go_wp2_with fail
    refine (HW.out _).mono ?_; rintro e w1 ⟨rfl, rfl⟩
    go_wp2
    go_ret
    exact ⟨rfl, rfl⟩
  | true =>
    have hv : hostA a = a - 167772160 := by simp [hostA, hb]
    rw [hb] at HW
    rw [hv]
    obtain ⟨h0, h1⟩ := (betw_iff _ _ _).1 hb
    clear hv hb
    go_enter Try.func20, Try.ntmps20
    go_wp2_with fail
    refine (HW.out _).mono ?_; rintro e w1 ⟨rfl, rfl⟩
    go_wp2
    go_ret
    exact ⟨rfl, rfl⟩

theorem rAddress_c (h : Int) (w : World) : Calls Try.prog 14 #[.int .i64 h] w fun e w' => e = .returned (.tuple #[.int .i64 (addrA h).1, .int .i64 (addrA h).2]) ∧ w' = w := by
  by_cases h0 : h < 1
  · have d0 : decide (h < 1) = true := by simpa using h0
    have hv : addrA h = (0, 1100) := by
      have : betw 1 h 254 = false := by simp [betw]; omega
      simp [addrA, this]
    rw [hv]
    clear hv h0
    go_enter Try.func14, Try.ntmps14
    go_wp2
    go_ret2
    exact ⟨rfl, rfl⟩
  · have d0 : decide (h < 1) = false := by simpa using h0
    by_cases h1 : 254 < h
    · have d1 : decide (254 < h) = true := by simpa using h1
      have hv : addrA h = (0, 1100) := by
        have : betw 1 h 254 = false := by simp [betw]; omega
        simp [addrA, this]
      rw [hv]
      clear hv h0 h1
      go_enter Try.func14, Try.ntmps14
      go_wp2
      go_ret2
      exact ⟨rfl, rfl⟩
    · have d1 : decide (254 < h) = false := by simpa using h1
      have hv : addrA h = (167772160 + h, 0) := by
        have : betw 1 h 254 = true := (betw_iff _ _ _).2 ⟨by omega, by omega⟩
        simp [addrA, this]
      rw [hv]
      clear hv
      go_enter Try.func14, Try.ntmps14
      go_wp2
      go_ret2
      exact ⟨rfl, rfl⟩

theorem rHost_c (a : Int) (w : World) : Calls Try.prog 21 #[.int .i64 a] w fun e w' => e = .returned (.int .i64 (hostA a)) ∧ w' = w := by
  by_cases h0 : 167772160 < a
  · have d0 : decide (167772160 < a) = true := by simpa using h0
    by_cases h1 : a ≤ 167772414
    · have d1 : decide (a ≤ 167772414) = true := by simpa using h1
      have hv : hostA a = a - 167772160 := by
        have : betw 167772161 a 167772414 = true := (betw_iff _ _ _).2 ⟨by omega, by omega⟩
        simp [hostA, this]
      rw [hv]
      clear hv
      go_enter Try.func21, Try.ntmps21
      go_wp2
      go_ret
      exact ⟨rfl, rfl⟩
    · have d1 : decide (a ≤ 167772414) = false := by simpa using h1
      have hv : hostA a = 0 := by
        have : betw 167772161 a 167772414 = false := by simp [betw]; omega
        simp [hostA, this]
      rw [hv]
      clear hv h0 h1
      go_enter Try.func21, Try.ntmps21
      go_wp2
      go_ret
      exact ⟨rfl, rfl⟩
  · have d0 : decide (167772160 < a) = false := by simpa using h0
    have hv : hostA a = 0 := by
      have : betw 167772161 a 167772414 = false := by simp [betw]; omega
      simp [hostA, this]
    rw [hv]
    clear hv h0
    go_enter Try.func21, Try.ntmps21
    go_wp2
    go_ret
    exact ⟨rfl, rfl⟩

theorem clB_cases (s : ByteArray) : clB (bs s) = (decide (1 ≤ (s.size : Int)) && decide ((s.size : Int) ≤ 16)) := by
  unfold clB betw
  rw [length_bs]
theorem rClientMay_c (s : ByteArray) (w : World) : Calls Try.prog 37 #[.string s] w fun e w' => e = .returned (.bool (clB (bs s))) ∧ w' = w := by
  rw [clB_cases]
  cases h0 : decide (1 ≤ (s.size : Int))
  all_goals
    go_enter Try.func37, Try.ntmps37
    go_wp2
    go_ret
    exact ⟨rfl, rfl⟩

end Go.Proofs.Ytedbihckdbpebaa
