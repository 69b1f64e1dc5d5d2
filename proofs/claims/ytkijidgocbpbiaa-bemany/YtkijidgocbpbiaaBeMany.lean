/-
  Proved here: pinfoldlaw1.BeMany answers true for every list of numbers (P1.1, P1.2, T1: as many numbers as one likes, one behind the other, come back from their places).
  Conditions: none but the row's own.
-/
import Derived.Test.YtkijidgocbpbiaaAwake1
import Derived.Test.YtkijidgocbpbiaaBeFacts
import Derived.OpenShut
import Derived.ShutString
import Derived.ChangeOld
import Derived.SizedLaws
import Derived.WalkSmall
import Derived.Deep.QuietTactic
import Derived.BigQuiet
import Derived.BigRegion
import Derived.Deep.RegionWith
namespace Go.Proofs.Ytkijidgocbpbiaa.beMany
open Go.ChangeShapes Go.WideShapes Go.ChangeAt Go.RowKit Go.Pin Go.PlainAid
open Go.ChangeMaps (open_string shut_string)

/-- What the walk is told of a slice of integers that came in: it is nil; or it leads to a row of 'cap' cells, the numbers 'zs' (the first 'len' are its elements), each fitting its kind; it takes at most the row's own reach. -/
def IsRow (k : IntKind) (w : World) (a : Option Addr) (len cap : Nat) (zs : List Int) : Prop :=
  (a = none ∧ len = 0 ∧ cap = 0 ∧ zs = []) ∨
  ∃ x, a = some x ∧ len ≤ cap ∧ cap ≤ maxLen ∧ zs.length = cap ∧ (∀ i, i < zs.length → w.cell? (x.add i) = some (.int k (zs.getD i 0))) ∧ ∀ n ∈ zs, (Lit.int k n).wf = true


/-- How many bytes the i-th number takes. -/
def kk (i : Nat) : Nat := if i % 3 = 0 then 1 else if i % 3 = 1 then 2 else 4
/-- The i-th number, as it is put. -/
def vv (zs : List Int) (i : Nat) : Int := zs.getD i 0 % 2 ^ (8 * kk i)
def cat (zs : List Int) : Nat → ByteArray
  | 0 => ⟨#[]⟩
  | i + 1 => cat zs i ++ be (vv zs i) (kk i)
def pos : Nat → Nat
  | 0 => 0
  | i + 1 => pos i + kk i

theorem pos_le : ∀ i, pos i ≤ 4 * i
  | 0 => Nat.le_refl _
  | i + 1 => by have := pos_le i; have : kk i ≤ 4 := by unfold kk; split <;> (try split) <;> omega
                simp only [pos]; omega
theorem size_cat (zs : List Int) : ∀ i, (cat zs i).size = pos i
  | 0 => rfl
  | i + 1 => by simp [cat, pos, size_cat zs i, size_be]

theorem round1_0 (zs : List Int) (i : Nat) (h : i % 3 = 0) : kk i = 1 ∧ ∃ V : Int, 0 ≤ V ∧ V < 256 ∧ bits .and .i64 (zs.getD i 0) 255 = V ∧ cat zs (i + 1) = cat zs i ++ be V 1 := by
  have hk : kk i = 1 := by simp [kk, h]
  refine ⟨hk, zs.getD i 0 % 256, by omega, by omega, i64_mask 8 _ (by decide), ?_⟩
  rw [cat, vv, hk]; rfl
theorem round1_1 (zs : List Int) (i : Nat) (h : i % 3 = 1) : kk i = 2 ∧ ∃ V : Int, 0 ≤ V ∧ V < 65536 ∧ bits .and .i64 (zs.getD i 0) 65535 = V ∧ cat zs (i + 1) = cat zs i ++ be V 2 := by
  have hk : kk i = 2 := by simp [kk, h]
  refine ⟨hk, zs.getD i 0 % 65536, by omega, by omega, i64_mask 16 _ (by decide), ?_⟩
  rw [cat, vv, hk]; rfl
theorem round1_2 (zs : List Int) (i : Nat) (h : i % 3 = 2) : kk i = 4 ∧ ∃ V : Int, 0 ≤ V ∧ V < 4294967296 ∧ bits .and .i64 (zs.getD i 0) 4294967295 = V ∧ cat zs (i + 1) = cat zs i ++ be V 4 := by
  have hk : kk i = 4 := by simp [kk, h]
  refine ⟨hk, zs.getD i 0 % 4294967296, by omega, by omega, i64_mask 32 _ (by decide), ?_⟩
  rw [cat, vv, hk]; rfl

theorem cat_at (zs : List Int) (j : Nat) : ∀ N, j < N → ∃ Y, cat zs N = cat zs j ++ be (vv zs j) (kk j) ++ Y ∧ (cat zs j ++ be (vv zs j) (kk j) ++ Y).size ≤ 4 * N
  | 0, h => by omega
  | N + 1, h => by
    have hp := pos_le (N + 1)
    by_cases e : j = N
    · subst e
      have hY : cat zs (j + 1) = cat zs j ++ be (vv zs j) (kk j) ++ ByteArray.empty := by rw [ByteArray.append_empty]; rfl
      refine ⟨ByteArray.empty, hY, ?_⟩
      rw [← hY, size_cat]; exact hp
    · obtain ⟨Y, hY, _⟩ := cat_at zs j N (by omega)
      have hY2 : cat zs (N + 1) = cat zs j ++ be (vv zs j) (kk j) ++ (Y ++ be (vv zs N) (kk N)) := by rw [cat, hY, ByteArray.append_assoc]
      refine ⟨_, hY2, ?_⟩
      rw [← hY2, size_cat]; exact hp

theorem vv_in (zs : List Int) (j : Nat) : inB (vv zs j) (kk j) := by
  unfold inB vv kk
  split
  · have : (2 : Int) ^ (8 * 1) = 256 := rfl
    rw [this]; omega
  · split
    · have : (2 : Int) ^ (8 * 2) = 65536 := rfl
      rw [this]; omega
    · have : (2 : Int) ^ (8 * 4) = 4294967296 := rfl
      rw [this]; omega

theorem get_at (zs : List Int) (j N k : Nat) (w : World) (h : j < N) (hN : N ≤ 20) (hk : kk j = k) :
    Calls Try.prog 10 #[.string (cat zs N), .int .i64 (pos j), .int .i64 k] w fun e w' => e = .returned (.tuple #[.int .i64 (vv zs j), .int .i64 0]) ∧ w' = w := by
  subst hk
  obtain ⟨Y, hY, hs⟩ := cat_at zs j N h
  have hsz : (cat zs j ++ be (vv zs j) (kk j) ++ Y).size = (cat zs j).size + kk j + Y.size := by simp [size_be]
  have := get_mid (cat zs j) Y (vv zs j) (kk j) w (vv_in zs j) (by unfold maxLen; omega)
  rw [← hY, size_cat] at this
  exact this

theorem round2_0 (zs : List Int) (j : Nat) (h : j % 3 = 0) : kk j = 1 ∧ ∃ V, vv zs j = V ∧ bits .and .i64 (zs.getD j 0) 255 = V ∧ pos (j + 1) = pos j + 1 := by
  have hk : kk j = 1 := by simp [kk, h]
  refine ⟨hk, _, rfl, ?_, by rw [pos, hk]⟩
  rw [vv, hk]; exact i64_mask 8 _ (by decide)
theorem round2_1 (zs : List Int) (j : Nat) (h : j % 3 = 1) : kk j = 2 ∧ ∃ V, vv zs j = V ∧ bits .and .i64 (zs.getD j 0) 65535 = V ∧ pos (j + 1) = pos j + 2 := by
  have hk : kk j = 2 := by simp [kk, h]
  refine ⟨hk, _, rfl, ?_, by rw [pos, hk]⟩
  rw [vv, hk]; exact i64_mask 16 _ (by decide)
theorem round2_2 (zs : List Int) (j : Nat) (h : j % 3 = 2) : kk j = 4 ∧ ∃ V, vv zs j = V ∧ bits .and .i64 (zs.getD j 0) 4294967295 = V ∧ pos (j + 1) = pos j + 4 := by
  have hk : kk j = 4 := by simp [kk, h]
  refine ⟨hk, _, rfl, ?_, by rw [pos, hk]⟩
  rw [vv, hk]; exact i64_mask 32 _ (by decide)

set_option maxHeartbeats 8000000 in
theorem walk_some (b off len cap : Nat) (zs : List Int) (w : World) (_hl : len ≤ cap) (_hm : cap ≤ maxLen) (hb : b < w.heap.size)
    (hc : ∀ i, i < len → w.cell? ⟨b, off + i, none⟩ = some (.int .i64 (zs.getD i 0))) :
    Calls Try.prog 7 #[.slice (some ⟨b, off, none⟩) len cap] w fun e w' => e = .returned (.bool true) ∧ Below w.heap.size w w' := by
  unfold maxLen at _hm
  go_enter Try.func7, Try.ntmps7
  go_wp2_with fail
  refine (awake_yes _).mono ?_; rintro e w1 ⟨rfl, hb1⟩
  go_wp2_with fail
  go_loopw [3, 4] (fun s i wr => ∃ j : Nat, j ≤ len ∧ j ≤ 20 ∧ i = .int .i64 j ∧ s = .string (cat zs j) ∧ Below w.heap.size w wr) (fun _ i _ => len - (intOf i).toNat)
  case atStart => exact ⟨0, Nat.zero_le _, by omega, rfl, rfl, hb1⟩
  case round =>
    obtain ⟨j, hj, hj20, rfl, rfl, hnx⟩ := hrel
    have hsc : (cat zs j).size ≤ 80 := by rw [size_cat]; have := pos_le j; omega
    by_cases hlt : j < len ∧ j < 20
    · obtain ⟨hlt, hlt20⟩ := hlt
      have hcell : wr.cell? ⟨b, off + j, none⟩ = some (.int .i64 (zs.getD j 0)) := (hnx.cell (by exact hb)).trans (hc j hlt)
      obtain ⟨z, Hz⟩ : ∃ z, z = zs.getD j 0 := ⟨_, rfl⟩
      rw [← Hz] at hcell
      have hbw : b < wr.heap.size := Nat.lt_of_lt_of_le hb hnx.size
      have hcell2 : ∀ o, (wr.alloc o).cell? ⟨b, off + j, none⟩ = some (.int .i64 z) := fun o => by rw [← hcell]; exact Below.cell ((Below.refl _ _).alloc (Nat.le_refl wr.heap.size) o) hbw
      have hmod : j % 3 = 0 ∨ j % 3 = 1 ∨ j % 3 = 2 := by omega
      rcases hmod with hmod | hmod | hmod
      · obtain ⟨hk, V, V0, V1, hV, hcat⟩ := round1_0 zs j hmod
        rw [← Hz] at hV
        have hmm : ((j : Int).tmod 3) = 0 := by rw [Int.tmod_eq_emod_of_nonneg (by omega)]; omega
        have HC : Hid (cat zs (j + 1) = cat zs j ++ be V 1) := hcat
        have hs1 := size_be V 1
        have hV' : bits .and .i64 z (IntKind.i64.wrap 255) = V := hV
        have hsh : ∀ w, (Op.shift BinOp.shl IntKind.i64 1 IntKind.i64 (IntKind.i64.wrap 8)).run Try.prog w = .ok (.int .i64 256) w := fun _ => by kernel_rfl
        clear Hz hcat hmod hk
        go_wp2_with fail
        go_region_with (go_at_call 8; refine (put_1 V _ V0 V1).mono ?_; rintro e w2 ⟨rfl, hb2⟩)
        have B2 : Below w.heap.size w w2 := (hnx.alloc hnx.size _).drew.trans (hb2.mono (by simp; have := hnx.size; omega))
        clear hb2 hcell hcell2 hsh
        go_wp2_with (go_at_call 12; refine (num_any _ _).mono ?_; rintro e w3 ⟨rfl, rfl⟩)
        go_roundw
        case rel => exact ⟨j + 1, by omega, by omega, by go_num, by rw [HC.out], by assumption⟩
        case measure => simp [intOf]; omega
      · obtain ⟨hk, V, V0, V1, hV, hcat⟩ := round1_1 zs j hmod
        rw [← Hz] at hV
        have hmm : ((j : Int).tmod 3) = 1 := by rw [Int.tmod_eq_emod_of_nonneg (by omega)]; omega
        have HC : Hid (cat zs (j + 1) = cat zs j ++ be V 2) := hcat
        have hs1 := size_be V 2
        have hV' : bits .and .i64 z (IntKind.i64.wrap 65535) = V := hV
        have hsh : ∀ w, (Op.shift BinOp.shl IntKind.i64 1 IntKind.i64 (IntKind.i64.wrap 16)).run Try.prog w = .ok (.int .i64 65536) w := fun _ => by kernel_rfl
        clear Hz hcat hmod hk
        go_wp2_with fail
        go_region_with (go_at_call 8; refine (put_2 V _ V0 V1).mono ?_; rintro e w2 ⟨rfl, hb2⟩)
        have B2 : Below w.heap.size w w2 := (hnx.alloc hnx.size _).drew.trans (hb2.mono (by simp; have := hnx.size; omega))
        clear hb2 hcell hcell2 hsh
        go_wp2_with (go_at_call 12; refine (num_any _ _).mono ?_; rintro e w3 ⟨rfl, rfl⟩)
        go_roundw
        case rel => exact ⟨j + 1, by omega, by omega, by go_num, by rw [HC.out], by assumption⟩
        case measure => simp [intOf]; omega
      · obtain ⟨hk, V, V0, V1, hV, hcat⟩ := round1_2 zs j hmod
        rw [← Hz] at hV
        have hmm : ((j : Int).tmod 3) = 2 := by rw [Int.tmod_eq_emod_of_nonneg (by omega)]; omega
        have HC : Hid (cat zs (j + 1) = cat zs j ++ be V 4) := hcat
        have hs1 := size_be V 4
        have hV' : bits .and .i64 z (IntKind.i64.wrap 4294967295) = V := hV
        have hsh : ∀ w, (Op.shift BinOp.shl IntKind.i64 1 IntKind.i64 (IntKind.i64.wrap 32)).run Try.prog w = .ok (.int .i64 4294967296) w := fun _ => by kernel_rfl
        clear Hz hcat hmod hk
        go_wp2_with fail
        go_region_with (go_at_call 8; refine (put_4 V _ V0 V1).mono ?_; rintro e w2 ⟨rfl, hb2⟩)
        have B2 : Below w.heap.size w w2 := (hnx.alloc hnx.size _).drew.trans (hb2.mono (by simp; have := hnx.size; omega))
        clear hb2 hcell hcell2 hsh
        go_wp2_with (go_at_call 12; refine (num_any _ _).mono ?_; rintro e w3 ⟨rfl, rfl⟩)
        go_roundw
        case rel => exact ⟨j + 1, by omega, by omega, by go_num, by rw [HC.out], by assumption⟩
        case measure => simp [intOf]; omega
    · have hfin : (((pos j : Nat) : Int) == (((cat zs j).size : Nat) : Int)) = true := by rw [size_cat]; simp
      have hpj := pos_le j
      by_cases hlen : j < len
      all_goals
        go_wp2_with fail
        go_loopw [8, 9] (fun a i wr => ∃ m : Nat, m ≤ j ∧ i = .int .i64 m ∧ a = .int .i64 (pos m) ∧ Below w.heap.size w wr) (fun _ i _ => j - (intOf i).toNat)
        case atStart => exact ⟨0, Nat.zero_le _, rfl, rfl, hnx⟩
        case round =>
        clear hnx
        obtain ⟨m, hmj, rfl, rfl, hnx⟩ := hrel
        have hpm := pos_le m
        by_cases hlt : m < j
        · have hml : m < len := by omega
          have hm20 : m < 20 := by omega
          have hcell : wr.cell? ⟨b, off + m, none⟩ = some (.int .i64 (zs.getD m 0)) := (hnx.cell (by exact hb)).trans (hc m hml)
          obtain ⟨z, Hz⟩ : ∃ z, z = zs.getD m 0 := ⟨_, rfl⟩
          rw [← Hz] at hcell
          have hbw : b < wr.heap.size := Nat.lt_of_lt_of_le hb hnx.size
          have hcell2 : ∀ o, (wr.alloc o).cell? ⟨b, off + m, none⟩ = some (.int .i64 z) := fun o => by rw [← hcell]; exact Below.cell ((Below.refl _ _).alloc (Nat.le_refl wr.heap.size) o) hbw
          have hmod : m % 3 = 0 ∨ m % 3 = 1 ∨ m % 3 = 2 := by omega
          rcases hmod with hmod | hmod | hmod
          · obtain ⟨hk, V, hvv, hV, hpos⟩ := round2_0 zs m hmod
            rw [← Hz] at hV
            have hmm : ((m : Int).tmod 3) = 0 := by rw [Int.tmod_eq_emod_of_nonneg (by omega)]; omega
            have HP : Hid (pos (m + 1) = pos m + 1) := hpos
            have hV' : bits .and .i64 z (IntKind.i64.wrap 255) = V := hV
            have hsh : ∀ w, (Op.shift BinOp.shl IntKind.i64 1 IntKind.i64 (IntKind.i64.wrap 8)).run Try.prog w = .ok (.int .i64 256) w := fun _ => by kernel_rfl
            have g := fun w => get_at zs m j 1 w hlt hj20 hk
            rw [hvv] at g
            have G : Hid (∀ w, Calls Try.prog 10 #[.string (cat zs j), .int .i64 (pos m), .int .i64 1] w fun e w' => e = .returned (.tuple #[.int .i64 V, .int .i64 0]) ∧ w' = w) := g
            clear Hz hpos hmod hk g hvv
            go_wp2_with fail
            refine (G.out _).mono ?_; rintro e w3 ⟨rfl, rfl⟩
            go_wp2_with fail
            go_quiet ((go_at_call 12; exact Calls.quiet_of_same (num_any _ _)))
            go_wp2
            go_roundw
            case rel => exact ⟨m + 1, by omega, by go_num, by rw [HP.out]; go_num, below_drewN (hnx.alloc hnx.size _) _⟩
            case measure => simp [intOf]; omega
          · obtain ⟨hk, V, hvv, hV, hpos⟩ := round2_1 zs m hmod
            rw [← Hz] at hV
            have hmm : ((m : Int).tmod 3) = 1 := by rw [Int.tmod_eq_emod_of_nonneg (by omega)]; omega
            have HP : Hid (pos (m + 1) = pos m + 2) := hpos
            have hV' : bits .and .i64 z (IntKind.i64.wrap 65535) = V := hV
            have hsh : ∀ w, (Op.shift BinOp.shl IntKind.i64 1 IntKind.i64 (IntKind.i64.wrap 16)).run Try.prog w = .ok (.int .i64 65536) w := fun _ => by kernel_rfl
            have g := fun w => get_at zs m j 2 w hlt hj20 hk
            rw [hvv] at g
            have G : Hid (∀ w, Calls Try.prog 10 #[.string (cat zs j), .int .i64 (pos m), .int .i64 2] w fun e w' => e = .returned (.tuple #[.int .i64 V, .int .i64 0]) ∧ w' = w) := g
            clear Hz hpos hmod hk g hvv
            go_wp2_with fail
            refine (G.out _).mono ?_; rintro e w3 ⟨rfl, rfl⟩
            go_wp2_with fail
            go_quiet ((go_at_call 12; exact Calls.quiet_of_same (num_any _ _)))
            go_wp2
            go_roundw
            case rel => exact ⟨m + 1, by omega, by go_num, by rw [HP.out]; go_num, below_drewN (hnx.alloc hnx.size _) _⟩
            case measure => simp [intOf]; omega
          · obtain ⟨hk, V, hvv, hV, hpos⟩ := round2_2 zs m hmod
            rw [← Hz] at hV
            have hmm : ((m : Int).tmod 3) = 2 := by rw [Int.tmod_eq_emod_of_nonneg (by omega)]; omega
            have HP : Hid (pos (m + 1) = pos m + 4) := hpos
            have hV' : bits .and .i64 z (IntKind.i64.wrap 4294967295) = V := hV
            have hsh : ∀ w, (Op.shift BinOp.shl IntKind.i64 1 IntKind.i64 (IntKind.i64.wrap 32)).run Try.prog w = .ok (.int .i64 4294967296) w := fun _ => by kernel_rfl
            have g := fun w => get_at zs m j 4 w hlt hj20 hk
            rw [hvv] at g
            have G : Hid (∀ w, Calls Try.prog 10 #[.string (cat zs j), .int .i64 (pos m), .int .i64 4] w fun e w' => e = .returned (.tuple #[.int .i64 V, .int .i64 0]) ∧ w' = w) := g
            clear Hz hpos hmod hk g hvv
            go_wp2_with fail
            refine (G.out _).mono ?_; rintro e w3 ⟨rfl, rfl⟩
            go_wp2_with fail
            go_quiet ((go_at_call 12; exact Calls.quiet_of_same (num_any _ _)))
            go_wp2
            go_roundw
            case rel => exact ⟨m + 1, by omega, by go_num, by rw [HP.out]; go_num, below_drewN (hnx.alloc hnx.size _) _⟩
            case measure => simp [intOf]; omega
        · obtain rfl : m = j := by omega
          go_wp2
          go_ret
          exact ⟨rfl, hnx⟩

theorem walk_none (a : Option Addr) (cap : Nat) (w : World) :
    Calls Try.prog 7 #[.slice a 0 cap] w fun e w' => e = .returned (.bool true) ∧ Below w.heap.size w w' := by
  go_enter Try.func7, Try.ntmps7
  go_wp2_with fail
  refine (awake_yes _).mono ?_; rintro e w1 ⟨rfl, hb1⟩
  go_wp2
  go_rounds 1
  go_rounds 1
  go_ret
  exact ⟨rfl, hb1⟩

theorem walk (a0 : Option Addr) (len0 cap0 : Nat) (z0 : List Int) (w : World) (w0 : IsRow .i64 w a0 len0 cap0 z0) :
    Calls Try.prog 7 #[.slice a0 len0 cap0] w fun e w' => e = .returned (.bool true) ∧ Below w.heap.size w w' := by
  rcases w0 with ⟨rfl, rfl, rfl, rfl⟩ | ⟨x, rfl, hl, hm, hz, hcell, hwz⟩
  · exact walk_none none 0 w
  · by_cases h0 : len0 = 0
    · subst h0
      exact walk_none _ cap0 w
    · obtain ⟨b, off, spot⟩ := x
      have hc := hcell 0 (by omega)
      have hspot : spot = none := by simpa [Addr.add] using World.cell?_spot hc
      subst hspot
      have hb := World.block_lt_of_cell? w _ hc
      rw [addr_add] at hb
      exact walk_some b off len0 cap0 z0 w hl hm hb (fun i hi => by have := hcell i (by omega); rwa [addr_add] at this)

theorem own : ownKnob Try.prog.godebug = none := by kernel_rfl
theorem laidOut : laidOutB Try.prog = true := by kernel_rfl

/-! ### The row's step -/
set_option maxRecDepth 100000 in
theorem lifted (os : Os) (started : os.Started) (H : Type) (enc : TypeId × Value → H) :
    ReturnsInHanded {} Try.checked os 7 .any (Rows.beManySpec.pre6 enc Try.prog Try.f7 Rows.beManyRow.domain false) (Rows.beManySpec.post enc Try.prog Try.f7 false true false false) := by
  refine returnsInHanded_of_change_sized (C := Try.checked) own started (by kernel_rfl) Try.func7
    (ChangeSpec.witness6 (enc := enc) (C := Try.checked) false ⟨#[], #[.slice none 0 0], []⟩ 8 (by kernel_rfl) (by kernel_rfl) (by kernel_rfl) (by kernel_rfl)) ?_
  intro W base args ds gs before hval0 hW _ hsz0 _
  have hval : ∀ (j : Nat) t v, Try.f7.params[j]? = some t → args[j]? = some v → Value.okWide Try.prog W .any base t v := hval0
  have hsz : (DataW.weightsEach Try.prog (Try.f7.params.toList ++ Rows.beManySpec.plain.varTypes Try.prog) (ds ++ gs)).all (· ≤ reachBytes) = true := hsz0
  have hW' := hW
  obtain ⟨p, q, hA0, hV, rfl, _, _⟩ := hW
  have hA : DataW.TrodAll enc Try.prog W 0 (fun _ => true) true Try.f7.params.toList args.toList ds p := hA0
  rw [Try.params7] at hA hval hsz
  obtain ⟨v0, vs0, d0, ds0, p0, q0, hargs, rfl, rfl, h0, r0⟩ := trodAll_cons hA
  obtain ⟨rfl, rfl, rfl⟩ := trodAll_nil r0
  obtain rfl : args = #[v0] := by cases args; simp_all
  obtain ⟨rfl, rfl⟩ := trodVars_none hV
  obtain ⟨a0, len0, cap0, rfl⟩ := okWide_slice Try.underlying37 (hval 0 37 v0 rfl rfl)
  have k0 := h0
  have lt0 : ∀ x ∈ p0, x.block < W.heap.size := by obtain ⟨m, hm⟩ := k0; exact DataW.trod_lt m _ _ _ hm
  obtain ⟨z0, w0⟩ : ∃ zs, IsRow .i64 W a0 len0 cap0 zs := by
    obtain ⟨fuel, hf⟩ := h0
    rcases open_ints Try.underlying37 Try.underlying3 (by kernel_rfl) hf with ⟨hcs, _⟩ | ⟨x, l, c, zs, hcs, _, hl, hm, hz, _, hcell, hwz⟩
    · simp [Value.cells] at hcs
      obtain ⟨rfl, rfl, rfl⟩ := hcs
      exact ⟨[], .inl ⟨rfl, rfl, rfl, rfl⟩⟩
    · simp [Value.cells] at hcs
      obtain ⟨rfl, rfl, rfl⟩ := hcs
      exact ⟨zs, .inr ⟨_, rfl, hl, hm, by simpa using hz, hcell, hwz⟩⟩
  clear hA0 hval0 hsz0
  refine (walk a0 len0 cap0 z0 W w0).mono fun e W' ⟨he, bel⟩ => ?_
  subst he
  exact ⟨_, rfl, _, _, _, [], _, [], hW', trodAll_mk1 (shut_bool Try.underlying4 _), (trodAll_cons_mk (Below.trod laidOut (by kernel_rfl) (of_decide_eq_true (by kernel_rfl)) k0 bel lt0) trodAll_mk0), rfl, bel.frame _, fun h => by cases h⟩

theorem over : Rows.beManyRow.holds Try.pinned (OpenSpec.ofChange Rows.beManySpec) :=
  OpenClaim.holds_of_wide 7 Try.f7 rfl rfl rfl rfl rfl rfl rfl ⟨rfl, rfl, rfl, rfl, rfl⟩ rfl rfl rfl rfl rfl (by kernel_rfl) Try.func7 (by kernel_rfl)
    (of_decide_eq_true (by kernel_rfl)) (by unfold Func.isWrapper; first | (rw [if_pos (by decide +kernel)]; kernel_rfl) | (rw [if_neg (by decide +kernel)]; exact ⟨rfl, rfl⟩))
    (fun os started H enc _ => lifted os started H enc)

/-- The given statement. -/
theorem proved : Rows.BeManySaid := over

end Go.Proofs.Ytkijidgocbpbiaa.beMany
namespace Go.Proofs.Ytkijidgocbpbiaa
theorem beMany_proved : Rows.BeManySaid := beMany.proved
#print axioms beMany_proved
end Go.Proofs.Ytkijidgocbpbiaa
