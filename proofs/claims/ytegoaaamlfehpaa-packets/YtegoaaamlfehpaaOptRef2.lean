/-
  Contracts of the document's own answers of layer 6: PutOpts, FindOpt, join, GetOpts.
-/
import Derived.Test.YtegoaaamlfehpaaOptRef
namespace Go.Proofs.Ytegoaaamlfehpaa
open Go.ChangeShapes Go.WideShapes Go.ChangeAt Go.RowKit Go.Pin Go.PlainAid

theorem be_mk {c : Int} (h0 : 0 ≤ c) (h1 : c < 256) : be c 1 = mk [byteO c] := by apply bs_inj; rw [be_one h0 h1, bs_mk]
theorem refOne (c : Int) (w : World) (h0 : 0 ≤ c) (h1 : c < 256) : Calls Try.prog 35 #[.int .i64 c, .int .i64 1] w fun e w' => e = .returned (.string (mk [byteO c])) ∧ Below w.heap.size w w' := by
  rw [← be_mk h0 h1]; exact refNum c 1 w h0 (by omega) (by omega)
set_option maxRecDepth 100000 in
set_option maxHeartbeats 1000000 in
theorem rPut_from (x : Addr) (cap : Nat) (os : List Opn) (w : World) (h : OpFrom w x os) (hm : MayO os) :
    Calls Try.prog 34 #[.slice (some x) os.length cap] w fun e w' => e = .returned (.tuple #[.string (mk (putA os).1), .int .i64 (putA os).2]) ∧ Below w.heap.size w w' := by
  have HM : Hid (∀ w, OpLies w (some x) os → _) := fun w h => rMay_c (some x) cap os w (by have := hm.1; omega) h
  rw [show mayO os = true by simpa [mayO] using hm] at HM
  have H : Hid (OpFrom w x os) := h
  have h32 := hm.1
  have Hok : Hid (∀ j, j < os.length → 0 < (opAt os j).1 ∧ (opAt os j).1 < 255 ∧ (opAt os j).2.length ≤ 512) := fun j hj => (okO_iff _).1 (hm.2.1 _ (opAt_mem hj))
  have Hbd : Hid (∀ j, (bodyO (os.take j)).length ≤ 16576) := fun j => by
    have hb := body_max (os := os.take j) (fun o ho => ((okO_iff _).1 (hm.2.1 _ (List.mem_of_mem_take ho))).2.2)
    rw [List.length_take] at hb; omega
  have Htk : Hid (∀ j, j < os.length → bodyO (os.take (j + 1)) = bodyO (os.take j) ++ partsL (byteO (opAt os j).1) (opAt os j).2) := fun j hj => body_take hj
  have HA : Hid (((mk (putO os)).size ≤ 1200 → putA os = (putO os, 0)) ∧ (¬ (mk (putO os)).size ≤ 1200 → putA os = ([], 601))) := by
    constructor
    · intro hh
      rw [size_mk] at hh
      unfold putA
      rw [if_pos (by simpa [mayO] using hm), if_neg (by omega)]
    · intro hh
      rw [size_mk] at hh
      unfold putA
      rw [if_pos (by simpa [mayO] using hm), if_pos (by omega)]
  generalize putA os = R at *
  clear h
  go_enter Try.func34, Try.ntmps34
  go_wp2_with fail
  refine (HM.out _ (.inr ⟨x, rfl, H.out⟩)).mono ?_; rintro e w1 ⟨rfl, hb1⟩
  have B1 : Hid (Below w.heap.size w w1) := hb1
  clear hb1 HM
  go_wp2_with fail
  go_loopg [4, 5] (os.length + 1) (fun k (sv iv : Value) wr => ∃ j : Nat, j ≤ os.length ∧ iv = .int .i64 j ∧ sv = .string (mk (bodyO (os.take j))) ∧ Hid (Below w.heap.size w wr) ∧ k = os.length - j + 1)
  case atStart => exact ⟨0, Nat.zero_le _, rfl, rfl, B1, rfl⟩
  case round =>
    obtain ⟨j, hj, rfl, rfl, B, hk⟩ := hrel
    rename World => v0
    have Hk : Hid (_) := hk
    clear hk
    by_cases hlt : j < os.length
    · obtain ⟨h0, h1⟩ := (H.out j hlt).below B.out
      obtain ⟨o0, o1, o2⟩ := Hok.out j hlt
      have Htk' : Hid (_) := Htk.out j hlt
      have hbd := Hbd.out j
      generalize opAt os j = o at *
      obtain ⟨c, d⟩ := o
      simp only at h0 h1 o0 o1 o2
      generalize bodyO (os.take j) = P at *
      have HR1 : Hid (∀ w, _) := fun w => refOne c w (by omega) (by omega)
      have HCB : Hid (∀ w' : World, Below v0.heap.size v0 w' → w'.cell? (x.add (j * 2)) = some (.int .i64 c)) := fun w' hb => (hb.cell (World.block_lt_of_cell? _ _ h0)).trans h0
      have hjl : (j : Int) < (os.length : Int) := by omega
      go_wp2_with fail
      go_loopg [4, 6] (d.length + 1) (fun k (sv dv : Value) wr2 => ∃ pre rest : List UInt8, sv = .string (mk (P ++ pre)) ∧ dv = .string (mk rest) ∧ Hid (partsL (byteO c) d = pre ++ partsL (byteO c) rest) ∧ Hid (Below v0.heap.size v0 wr2) ∧ Hid (rest.length ≤ 512 ∧ pre.length + 3 * rest.length ≤ 1536) ∧ k = rest.length + 1)
      case atStart => exact ⟨[], d, by rw [List.append_nil], rfl, by show _ = _; simp, Below.refl _ _, by show _ ∧ _; simp; omega, rfl⟩
      case round =>
        obtain ⟨pre, rest, rfl, rfl, hpp, B2, hbo, hk2⟩ := hrel
        have Hk2 : Hid (_) := hk2
        clear hk2
        obtain ⟨S0, hS0⟩ : ∃ S0, mk (P ++ pre) = S0 := ⟨_, rfl⟩
        obtain ⟨S1, hS1⟩ : ∃ S1, mk rest = S1 := ⟨_, rfl⟩
        have hz0 : S0.size = P.length + pre.length := by rw [← hS0, size_mk, List.length_append]
        have hz1 : S1.size = rest.length := by rw [← hS1, size_mk]
        obtain ⟨hb1, hb2⟩ := hbo.out
        have HS0 : Hid (mk (P ++ pre) = S0) := hS0
        have HS1 : Hid (mk rest = S1) := hS1
        rw [hS0, hS1]
        by_cases hl : 255 < rest.length
        · have hg : (255 : Int) < (S1.size : Int) := by omega
          have hg2 : (255 : Int) ≤ (S1.size : Int) := by omega
          have he1 : S1.extract 0 255 = mk (rest.take 255) := by rw [← hS1]; apply bs_inj; simp [bs, mk]
          have he2 : S1.extract 255 S1.size = mk (rest.drop 255) := by rw [← hS1]; apply bs_inj; simp [bs, mk, ByteArray.size]; rw [List.take_of_length_le (by simp)]
          have hzT : (mk (rest.take 255)).size = 255 := by rw [size_mk]; simp; omega
          have hzB : (mk [byteO c]).size = 1 := by rw [size_mk]; rfl
          have hzF : (⟨#[255]⟩ : ByteArray).size = 1 := rfl
          have Hcat : Hid (S0 ++ mk [byteO c] ++ ⟨#[255]⟩ ++ mk (rest.take 255) = mk (P ++ (pre ++ byteO c :: 255 :: rest.take 255))) := by
            show _ = _
            rw [← hS0]; apply bs_inj; simp [bs, mk]
          have hq1 : ¬ 9223372036854775807 < S0.size + (mk [byteO c]).size := by omega
          have hq2 : ¬ 9223372036854775807 < S0.size + (mk [byteO c]).size + (⟨#[255]⟩ : ByteArray).size := by omega
          have hq3 : ¬ 9223372036854775807 < S0.size + (mk [byteO c]).size + (⟨#[255]⟩ : ByteArray).size + (mk (rest.take 255)).size := by omega
          have hq4 : ¬ 9223372036854775807 < S0.size + (mk [byteO c]).size + 1 := by omega
          have hq5 : ¬ 9223372036854775807 < S0.size + (mk [byteO c]).size + 1 + (mk (rest.take 255)).size := by omega
          have Hpp2 : Hid (partsL (byteO c) d = (pre ++ byteO c :: 255 :: rest.take 255) ++ partsL (byteO c) (rest.drop 255)) := by
            show _ = _
            rw [hpp.out, parts_long hl]; simp
          have Hbo2 : Hid ((rest.drop 255).length ≤ 512 ∧ (pre ++ byteO c :: 255 :: rest.take 255).length + 3 * (rest.drop 255).length ≤ 1536) := by
            show _ ∧ _
            simp only [List.length_drop, List.length_append, List.length_cons, List.length_take]
            omega
          generalize mk (rest.take 255) = T1 at *
          generalize mk [byteO c] = Bc at *
          have Hk3 : Hid ((rest.drop 255).length + 1 < gk) := by show _ < _; rw [Hk2.out, List.length_drop]; omega
          clear hS0 hS1 HS0 HS1 hz0 hz1 hb1 hb2 hbo hpp hl hzT hzB
          go_wp2_with fail
          have cc := HCB.out _ B2.out
          have BD : Hid (Below v0.heap.size v0 wr.drew) := bel_trans B2.out (below_drewN (Below.refl _ _) 1)
          go_region_held3 (fun w' => w'.cell? (x.add (j * 2)) = some (.int .i64 c)) (first | exact cc | exact HCB.out _ hb3') (first | (go_at_call 35; refine (HR1.out _).mono ?_; rintro e w3 ⟨rfl, hb3⟩; have hb3' : Below v0.heap.size v0 w3 := bel_trans BD.out hb3))
          have B3 : Hid (Below v0.heap.size v0 w3) := hb3'
          clear hb3 hb3' BD cc
          go_wp2
          rw [Hcat.out]
          go_roundg ((rest.drop 255).length + 1)
          case measure => exact Hk3.out
          case rel => exact ⟨_, _, rfl, rfl, Hpp2, B3, Hbo2, rfl⟩
        · have hg : ¬ (255 : Int) < (S1.size : Int) := by omega
          have cc := HCB.out _ B2.out
          have HR2 : Hid (∀ w, _) := fun w => refOne (S1.size : Int) w (by omega) (by omega)
          have hzB : (mk [byteO c]).size = 1 := by rw [size_mk]; rfl
          have hzL : (mk [byteO (S1.size : Int)]).size = 1 := by rw [size_mk]; rfl
          have Hcat : Hid (S0 ++ mk [byteO c] ++ mk [byteO (S1.size : Int)] ++ S1 = mk (bodyO (os.take (j + 1)))) := by
            show _ = _
            rw [Htk'.out, hpp.out, parts_short hl, ← hS0, ← hS1]
            apply bs_inj
            simp [bs, mk, byteO, ByteArray.size]
          have hq1 : ¬ 9223372036854775807 < S0.size + (mk [byteO c]).size := by omega
          have hq2 : ¬ 9223372036854775807 < S0.size + (mk [byteO c]).size + (mk [byteO (S1.size : Int)]).size := by omega
          have hq3 : ¬ 9223372036854775807 < S0.size + (mk [byteO c]).size + (mk [byteO (S1.size : Int)]).size + S1.size := by omega
          have Hk4 : Hid (os.length - (j + 1) + 1 < os.length - j + 1) := by show _ < _; omega
          have B5 : Hid (Below w.heap.size w wr) := bel_trans B.out B2.out
          generalize mk [byteO c] = Bc at *
          generalize mk [byteO (S1.size : Int)] = Bl at *
          clear hS0 hS1 hz0 hz1 HS0 HS1 hb1 hb2 hbo hpp hl hzB hzL
          go_wp2_with fail
          refine (HR1.out _).mono ?_; rintro e w5 ⟨rfl, hb5⟩
          have B6 : Hid (Below w.heap.size w w5) := bel_trans B5.out hb5
          clear hb5 B5 cc
          go_wp2_with fail
          refine (HR2.out _).mono ?_; rintro e w6 ⟨rfl, hb6⟩
          have B7 : Hid (Below w.heap.size w w6) := bel_trans B6.out hb6
          clear hb6 B6
          go_wp2_with fail
          rw [Hcat.out]
          go_roundg (os.length - (j + 1) + 1)
          case measure => rw [Hk.out]; exact Hk4.out
          case rel => exact ⟨j + 1, by omega, by go_num, rfl, B7, rfl⟩
    · obtain rfl : j = os.length := by omega
      have Hcat : Hid (mk (bodyO (os.take os.length)) ++ ⟨#[255]⟩ = mk (putO os)) := by
        show _ = _
        rw [List.take_length]; apply bs_inj; simp [bs, mk, putO]
      have hzz : (mk (bodyO (os.take os.length))).size ≤ 16576 := by rw [size_mk]; exact Hbd.out _
      have hz2 : (mk (bodyO (os.take os.length)) ++ ⟨#[255]⟩).size = (mk (putO os)).size := by rw [Hcat.out]
      have HA' := HA.out
      generalize mk (bodyO (os.take os.length)) = S0 at *
      obtain ⟨T, hT0⟩ : ∃ T, mk (putO os) = T := ⟨_, rfl⟩
      rw [hT0] at hz2 HA' Hcat
      have hz3 : S0.size + 1 = T.size := by rw [← hz2]; simp; rfl
      have HT0 : Hid (mk (putO os) = T) := hT0
      obtain ⟨hA1, hA2⟩ := HA'
      clear HA hT0 hz2
      by_cases hT : T.size ≤ 1200
      · have HR : Hid (_) := hA1 hT
        have hT' : ¬ (1200 : Int) < (S0.size : Int) + 1 := by omega
        clear hA1 hA2
        go_wp2
        go_ret2
        exact ⟨by rw [HR.out]; simp only; rw [HT0.out, ← Hcat.out]; rfl, B.out⟩
      · have HR : Hid (_) := hA2 hT
        have hT' : (1200 : Int) < (S0.size : Int) + 1 := by omega
        clear hA1 hA2
        go_wp2
        go_ret2
        exact ⟨by rw [HR.out]; rfl, B.out⟩
theorem rPut_no (a : Option Addr) (cap : Nat) (os : List Opn) (w : World) (hl : os.length ≤ 10000000000000) (h : OpLies w a os) (hm : mayO os = false) :
    Calls Try.prog 34 #[.slice a os.length cap] w fun e w' => e = .returned (.tuple #[.string ⟨#[]⟩, .int .i64 600]) ∧ Below w.heap.size w w' := by
  have HM : Hid (∀ w, OpLies w a os → _) := fun w h => rMay_c a cap os w hl h
  rw [hm] at HM
  go_enter Try.func34, Try.ntmps34
  go_wp2_with fail
  refine (HM.out _ h).mono ?_; rintro e w1 ⟨rfl, hb1⟩
  go_wp2
  go_ret2
  exact ⟨rfl, hb1⟩
theorem rPut_none (a : Option Addr) (cap : Nat) (w : World) :
    Calls Try.prog 34 #[.slice a 0 cap] w fun e w' => e = .returned (.tuple #[.string (mk [255]), .int .i64 0]) ∧ Below w.heap.size w w' := by
  have HM : Hid (∀ w, _) := fun w => rMay_none a cap w
  go_enter Try.func34, Try.ntmps34
  go_wp2_with fail
  refine (HM.out _).mono ?_; rintro e w1 ⟨rfl, hb1⟩
  go_wp2
  go_rounds 1
  go_ret2
  exact ⟨rfl, hb1⟩
theorem rPut_c (a : Option Addr) (cap : Nat) (os : List Opn) (w : World) (hl : os.length ≤ 10000000000000) (h : OpLies w a os) :
    Calls Try.prog 34 #[.slice a os.length cap] w fun e w' => e = .returned (.tuple #[.string (mk (putA os).1), .int .i64 (putA os).2]) ∧ Below w.heap.size w w' := by
  cases hm : mayO os with
  | false =>
    have := rPut_no a cap os w hl h hm
    unfold putA
    simpa [hm, mk] using this
  | true =>
    rcases h with rfl | ⟨x, rfl, h⟩
    · exact rPut_none a cap w
    · exact rPut_from x cap os w h (by simpa [mayO] using hm)
end Go.Proofs.Ytegoaaamlfehpaa
