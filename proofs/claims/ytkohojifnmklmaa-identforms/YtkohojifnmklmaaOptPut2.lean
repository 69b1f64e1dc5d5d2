/-
  Contracts of package opts: one option put, in parts; all of them.
-/
import Derived.Test.YtkohojifnmklmaaOptPut
namespace Go.Proofs.Ytkohojifnmklmaa
open Go.ChangeShapes Go.WideShapes Go.ChangeAt Go.RowKit Go.Pin Go.PlainAid

theorem be_one {c : Int} (h0 : 0 ≤ c) (h1 : c < 256) : bs (be c 1) = [byteO c] := by
  have : c / 2 ^ (8 * 0) % 256 = c := by simp; omega
  simp [be, top, str, bs, byteAt, byteO]
  congr 1
  omega
theorem numW_one {c : Int} (h0 : 0 ≤ c) (h1 : c < 256) (P : List UInt8) (ks : List Kn) : numW c 1 ⟨P, ks, false⟩ = ⟨P ++ [byteO c], ks, false⟩ := by simp [numW, textW, be_one h0 h1]
theorem textW_is (t P : List UInt8) (ks : List Kn) : textW (mk t) ⟨P, ks, false⟩ = ⟨P ++ t, ks, false⟩ := by simp [textW, bs_mk]
theorem inB_one {c : Int} (h0 : 0 ≤ c) (h1 : c < 256) : inB c 1 := by unfold inB; simp; omega

theorem option_c (b : Nat) (G : Bool) (ks : List Kn) (c : Int) (h0 : 0 < c) (h1 : c < 255) (d : List UInt8) (hd : d.length ≤ 512) (P : List UInt8) (hP : P.length + 2 * d.length ≤ 99000) (w : World) (h : Wr w b 0 G ⟨P, ks, false⟩) :
    Calls Try.prog 40 #[.pointer (some ⟨b, 0, none⟩), .int .i64 c, .string (mk d)] w fun e w' => e = .returned (.tuple #[]) ∧ Wr w' b 0 G ⟨P ++ partsL (byteO c) d, ks, false⟩ ∧ Ink b w w' := by
  induction hk : d.length using Nat.strongRecOn generalizing d P w with
  | _ n ih =>
    obtain ⟨S, hS⟩ : ∃ S, S = mk d := ⟨_, rfl⟩
    have hsz : S.size = d.length := by rw [hS, size_mk]
    have HN1 : Hid (∀ w, Wr w b 0 G ⟨P, ks, false⟩ → _) := fun w h => number_g b 0 G ⟨P, ks, false⟩ c 1 w h (inB_one (by omega) (by omega)) (by simp; omega)
    simp only [numW_one (Int.le_of_lt h0) (show c < 256 by omega)] at HN1
    have H0 : Hid (Wr w b 0 G ⟨P, ks, false⟩) := h
    rw [← hS]
    by_cases hl : 255 < d.length
    · have hmin : ∀ (w : World) ts t, (Builtin.min_ ts t #[.int .i64 (S.size : Int), .int .i64 255]).run Try.prog w = .ok (.int .i64 255) w := by
        intro w ts t
        rw [run_min_int2]
        rw [if_pos (by omega)]
      have HN2 : Hid (∀ w, Wr w b 0 G ⟨P ++ [byteO c], ks, false⟩ → _) := fun w h => number_g b 0 G ⟨P ++ [byteO c], ks, false⟩ 255 1 w h (inB_one (by omega) (by omega)) (by simp; omega)
      simp only [numW_one (show (0:Int) ≤ 255 by omega) (show (255 : Int) < 256 by omega)] at HN2
      have HT : Hid (∀ w, Wr w b 0 G ⟨P ++ [byteO c] ++ [byteO 255], ks, false⟩ → _) := fun w h => text_g b 0 G ⟨P ++ [byteO c] ++ [byteO 255], ks, false⟩ (mk (d.take 255)) w h (by simp; omega) (by rw [size_mk]; simp; omega)
      simp only [textW_is] at HT
      have HR : Hid (∀ w, Wr w b 0 G ⟨P ++ [byteO c] ++ [byteO 255] ++ d.take 255, ks, false⟩ → _) := fun w h => ih (d.drop 255).length (by simp; omega) (d.drop 255) (by simp; omega) (P ++ [byteO c] ++ [byteO 255] ++ d.take 255) (by simp; omega) w h rfl
      have e1 : S.extract 0 255 = mk (d.take 255) := by rw [hS]; apply bs_inj; simp [bs, mk]
      have e2 : S.extract 255 S.size = mk (d.drop 255) := by rw [hS]; apply bs_inj; simp [bs, mk, ByteArray.size]; rw [List.take_of_length_le (by simp)]
      have hE : Hid (P ++ partsL (byteO c) d = P ++ [byteO c] ++ [byteO 255] ++ d.take 255 ++ partsL (byteO c) (d.drop 255)) := by show _ = _; rw [parts_long hl]; simp; rfl
      rw [hE.out]
      generalize P ++ [byteO c] ++ [byteO 255] ++ d.take 255 ++ partsL (byteO c) (d.drop 255) = X4 at *
      generalize P ++ [byteO c] ++ [byteO 255] ++ d.take 255 = X3 at *
      generalize P ++ [byteO c] ++ [byteO 255] = X2 at *
      generalize P ++ [byteO c] = X1 at *
      generalize mk (d.take 255) = S1 at *
      generalize mk (d.drop 255) = S2 at *
      have hs1 : ¬ (S.size : Int) ≤ 255 := by omega
      have hs2 : 255 < S.size := by omega
      have hs3 : S.size ≤ 512 := by omega
      have hs4 : (255 : Int) ≤ (S.size : Int) := by omega
      clear h ih hS hE hk hd hP hl hsz
      go_enter Try.func40, Try.ntmps40
      go_wp2_with fail
      refine (HN1.out _ H0.out).mono ?_; rintro e w1 ⟨rfl, hW1, hI1⟩
      have W1 : Hid (_) := hW1
      have I1 : Hid (_) := hI1
      clear hW1 hI1 HN1 H0
      go_wp2_with fail
      refine (HN2.out _ W1.out).mono ?_; rintro e w2 ⟨rfl, hW2, hI2⟩
      have W2 : Hid (_) := hW2
      have I2 : Hid (_) := I1.out.trans hI2
      clear hW2 hI2 HN2 I1 W1
      go_wp2_with fail
      have HT' : Hid (Calls Try.prog 23 #[.pointer (some ⟨b, 0, none⟩), .string S1] w2.drew fun e w' => e = .returned (.tuple #[]) ∧ Wr w' b 0 G ⟨X3, ks, false⟩ ∧ Ink b w w') := (HT.out _ (W2.out.below (below_drewN (Below.refl _ _) 1))).mono fun e w' ⟨h1, h2, h3⟩ => ⟨h1, h2, I2.out.trans ((Ink.of_below (below_drewN (Below.refl _ _) 1) W2.out.lt).trans h3)⟩
      clear HT W2 I2
      go_region_held3 (fun _ => True) (first | exact trivial) (first | (go_at_call 23; refine HT'.out.mono ?_; rintro e w3 ⟨rfl, hW3, hI3⟩))
      go_wp2_with fail
      have I3 : Hid (_) := hI3
      refine (HR.out _ hW3).mono ?_; rintro e w4 ⟨rfl, hW4, hI4⟩
      have W4 : Hid (_) := hW4
      have I4 : Hid (_) := I3.out.trans hI4
      clear hW3 hI3 hW4 hI4 HR I3
      go_wp2
      go_end0
      exact ⟨rfl, W4.out, I4.out⟩
    · have hmin : ∀ (w : World) ts t, (Builtin.min_ ts t #[.int .i64 (S.size : Int), .int .i64 255]).run Try.prog w = .ok (.int .i64 (S.size : Int)) w := by
        intro w ts t
        rw [run_min_int2]
        rw [if_neg (by omega)]
      have HN2 : Hid (∀ w, Wr w b 0 G ⟨P ++ [byteO c], ks, false⟩ → _) := fun w h => number_g b 0 G ⟨P ++ [byteO c], ks, false⟩ (S.size : Int) 1 w h (inB_one (by omega) (by omega)) (by simp; omega)
      simp only [numW_one (show (0:Int) ≤ (S.size : Int) by omega) (show (S.size : Int) < 256 by omega)] at HN2
      have HT : Hid (∀ w, Wr w b 0 G ⟨P ++ [byteO c] ++ [byteO (S.size : Int)], ks, false⟩ → _) := fun w h => text_g b 0 G ⟨P ++ [byteO c] ++ [byteO (S.size : Int)], ks, false⟩ (mk d) w h (by simp; omega) (by rw [size_mk]; omega)
      simp only [textW_is] at HT
      rw [← hS] at HT
      have e1 : S.extract 0 S.size = S := by rw [hS]; apply bs_inj; simp [bs, mk, ByteArray.size]
      have hE : Hid (P ++ partsL (byteO c) d = P ++ [byteO c] ++ [byteO (S.size : Int)] ++ d) := by show _ = _; rw [parts_short hl, hsz]; simp [byteO]
      rw [hE.out]
      generalize P ++ [byteO c] ++ [byteO (S.size : Int)] ++ d = X3 at *
      generalize P ++ [byteO c] ++ [byteO (S.size : Int)] = X2 at *
      generalize P ++ [byteO c] = X1 at *
      have hs1 : (S.size : Int) ≤ 255 := by omega
      have hs2 : (0 : Int) ≤ (S.size : Int) := by omega
      have hs4 : (S.size : Int) ≤ (S.size : Int) := by omega
      clear h ih hS hE hk hd hP hl hsz
      go_enter Try.func40, Try.ntmps40
      go_wp2_with fail
      refine (HN1.out _ H0.out).mono ?_; rintro e w1 ⟨rfl, hW1, hI1⟩
      have W1 : Hid (_) := hW1
      have I1 : Hid (_) := hI1
      clear hW1 hI1 HN1 H0
      go_wp2_with fail
      refine (HN2.out _ W1.out).mono ?_; rintro e w2 ⟨rfl, hW2, hI2⟩
      have W2 : Hid (_) := hW2
      have I2 : Hid (_) := I1.out.trans hI2
      clear hW2 hI2 HN2 I1 W1
      go_wp2_with fail
      have HT' : Hid (Calls Try.prog 23 #[.pointer (some ⟨b, 0, none⟩), .string S] w2.drew fun e w' => e = .returned (.tuple #[]) ∧ Wr w' b 0 G ⟨X3, ks, false⟩ ∧ Ink b w w') := (HT.out _ (W2.out.below (below_drewN (Below.refl _ _) 1))).mono fun e w' ⟨h1, h2, h3⟩ => ⟨h1, h2, I2.out.trans ((Ink.of_below (below_drewN (Below.refl _ _) 1) W2.out.lt).trans h3)⟩
      clear HT W2 I2
      go_region_held3 (fun _ => True) (first | exact trivial) (first | (go_at_call 23; refine HT'.out.mono ?_; rintro e w3 ⟨rfl, hW3, hI3⟩))
      have W3 : Hid (_) := hW3
      have I3 : Hid (_) := hI3
      clear hW3 hI3 HT'
      go_wp2
      go_end0
      exact ⟨rfl, W3.out, I3.out⟩

theorem oPut_no (a : Option Addr) (cap : Nat) (os : List Opn) (w : World) (h : OpLies w a os) (hm : mayO os = false) :
    Calls Try.prog 31 #[.slice a os.length cap] w fun e w' => e = .returned (.tuple #[.string ⟨#[]⟩, .int .i64 600]) ∧ Below w.heap.size w w' := by
  have HM : Hid (∀ w, OpLies w a os → _) := fun w h => mayBe_c a cap os w h
  rw [hm] at HM
  go_enter Try.func31, Try.ntmps31
  go_wp2_with fail
  refine (HM.out _ h).mono ?_; rintro e w1 ⟨rfl, hb1⟩
  go_wp2
  go_ret2
  exact ⟨rfl, hb1⟩
theorem body_take {os : List Opn} {j : Nat} (h : j < os.length) : bodyO (os.take (j + 1)) = bodyO (os.take j) ++ partsL (byteO (opAt os j).1) (opAt os j).2 := by
  unfold opAt
  rw [List.take_add_one, List.getElem?_eq_getElem h, List.getD_eq_getElem?_getD, List.getElem?_eq_getElem h]
  exact body_snoc _ _
theorem Wr.new (w : World) (t : TypeId) : Wr (w.alloc (.cells #[.int .i64 0, .slice none 0 0, .slice none 0 0, .bool false] t)) w.heap.size 0 false ⟨[], [], false⟩ :=
  ⟨new_cell _ _ _ _ _ rfl, new_cell _ _ _ _ _ rfl, ⟨none, 0, none, 0, new_cell _ _ _ _ _ rfl, Bytes.nil _ _, new_cell _ _ _ _ _ rfl, .inl rfl, fun _ h => (by cases h), fun h => (by cases h)⟩, fun j => new_frozen _ _ _ j, by simp⟩

theorem oPut_from (x : Addr) (cap : Nat) (os : List Opn) (w : World) (h : OpFrom w x os) (hm : MayO os) :
    Calls Try.prog 31 #[.slice (some x) os.length cap] w fun e w' => e = .returned (.tuple #[.string (mk (putA os).1), .int .i64 (putA os).2]) ∧ Below w.heap.size w w' := by
  have HM : Hid (∀ w, OpLies w (some x) os → _) := fun w h => mayBe_c (some x) cap os w h
  rw [show mayO os = true by simpa [mayO] using hm] at HM
  have HF : Hid (∀ w, _) := fun w => from_g 0 none 0 0 w
  have H : Hid (OpFrom w x os) := h
  have h32 := hm.1
  have HO : Hid (∀ j, j < os.length → ∀ (b : Nat) (w : World), Wr w b 0 false ⟨bodyO (os.take j), [], false⟩ → Calls Try.prog 40 #[.pointer (some ⟨b, 0, none⟩), .int .i64 (opAt os j).1, .string (mk (opAt os j).2)] w fun e w' => e = .returned (.tuple #[]) ∧ Wr w' b 0 false ⟨bodyO (os.take (j + 1)), [], false⟩ ∧ Ink b w w') := by
    intro j hj b w hW
    have ho := (okO_iff _).1 (hm.2.1 _ (opAt_mem hj))
    have hb := body_max (os := os.take j) (fun o ho => ((okO_iff _).1 (hm.2.1 _ (List.mem_of_mem_take ho))).2.2)
    rw [List.length_take] at hb
    rw [body_take hj]
    exact option_c b false [] _ ho.1 ho.2.1 _ ho.2.2 _ (by omega) w hW
  have HN : Hid (∀ (b : Nat) (w : World), Wr w b 0 false ⟨bodyO (os.take os.length), [], false⟩ → Calls Try.prog 24 #[.pointer (some ⟨b, 0, none⟩), .int .i64 255, .int .i64 1] w fun e w' => e = .returned (.tuple #[]) ∧ Wr w' b 0 false ⟨putO os, [], false⟩ ∧ Ink b w w') := by
    intro b w hW
    have hb := body_max (os := os) (fun o ho => ((okO_iff _).1 (hm.2.1 _ ho)).2.2)
    rw [List.take_length] at hW
    have := number_g b 0 false ⟨bodyO os, [], false⟩ 255 1 w hW (inB_one (by omega) (by omega)) (by simp only; omega)
    rw [numW_one (show (0:Int) ≤ 255 by omega) (show (255 : Int) < 256 by omega)] at this
    exact this
  have HG : Hid (∀ (b : Nat) (w : World), Wr w b 0 false ⟨putO os, [], false⟩ → Calls Try.prog 26 #[.pointer (some ⟨b, 0, none⟩)] w fun e w' => e = .returned (.string (mk (putO os))) ∧ w' = w) := fun b w hW => given_g b 0 false _ w hW
  have HA : Hid (((mk (putO os)).size ≤ 1200 → putA os = (putO os, 0)) ∧ (¬ (mk (putO os)).size ≤ 1200 → putA os = ([], 601))) := by
    constructor
    · intro hh
      rw [size_mk] at hh
      unfold putA
      rw [if_pos (by simpa [mayO] using hm), if_neg (by omega)]
    · intro hh
      rw [size_mk] at hh
      unfold putA
      rw [if_pos (by simpa [mayO] using hm), if_pos (by omega)]
  generalize putA os = R at *
  obtain ⟨T, hT0⟩ : ∃ T, mk (putO os) = T := ⟨_, rfl⟩
  rw [hT0] at HG HA
  have HT0 : Hid (mk (putO os) = T) := hT0
  clear h hT0
  go_enter Try.func31, Try.ntmps31
  go_wp2_with fail
  refine (HM.out _ (.inr ⟨x, rfl, H.out⟩)).mono ?_; rintro e w1 ⟨rfl, hb1⟩
  have B1 : Hid (_) := hb1
  clear hb1 HM
  go_wp2_with fail
  refine (HF.out _).mono ?_; rintro e w2 ⟨rfl, hb2⟩
  have B2 : Hid (Below w.heap.size w w2) := bel_trans B1.out hb2
  have W2 : Hid (Wr (w2.alloc (.cells #[.int .i64 0, .slice none 0 0, .slice none 0 0, .bool false] 72)) w2.heap.size 0 false ⟨[], [], false⟩) := Wr.new w2 _
  have B3 : Hid (Below w.heap.size w (w2.alloc (.cells #[.int .i64 0, .slice none 0 0, .slice none 0 0, .bool false] 72))) := B2.out.alloc B2.out.size _
  have hle := B2.out.size
  clear hb2 B1 B2
  go_wp2_with fail
  go_loopw [15] (fun i wr => ∃ j : Nat, j ≤ os.length ∧ i = .int .i64 j ∧ Hid (Wr wr w2.heap.size 0 false ⟨bodyO (os.take j), [], false⟩) ∧ Hid (Below w.heap.size w wr)) (fun i _ => os.length - (intOf i).toNat)
  case atStart => exact ⟨0, Nat.zero_le _, rfl, W2, B3⟩
  case round =>
    obtain ⟨j, hj, rfl, hW, B⟩ := hrel
    by_cases hlt : j < os.length
    · obtain ⟨h0, h1⟩ := (H.out j hlt).below B.out
      have HO' := HO.out j hlt w2.heap.size
      have HO2 : Hid (∀ w, _) := fun w => HO' w
      clear HO'
      generalize (opAt os j).1 = c at *
      generalize mk (opAt os j).2 = ds at *
      have W4 : Hid (Wr (wr.alloc (.cells #[.int .i64 c, .string ds] 39)) w2.heap.size 0 false ⟨bodyO (os.take j), [], false⟩) := hW.out.below ((Below.refl _ _).alloc (Nat.le_refl _) _)
      have B4 : Hid (Below w.heap.size w (wr.alloc (.cells #[.int .i64 c, .string ds] 39))) := B.out.alloc B.out.size _
      go_wp2_with fail
      refine (HO2.out _ W4.out).mono ?_; rintro e w5 ⟨rfl, hW5, hI5⟩
      have W5 : Hid (_) := hW5
      have B5 : Hid (Below w.heap.size w w5) := B4.out.trans (hI5.bel.mono hle)
      clear hW5 hI5 HO2 W4 B4 h0 h1 B hW
      go_wp2
      exact ⟨⟨j + 1, by omega, by go_num, W5, B5⟩, by simp [intOf]; omega⟩
    · obtain rfl : j = os.length := by omega
      go_wp2_with fail
      refine (HN.out _ _ hW.out).mono ?_; rintro e w5 ⟨rfl, hW5, hI5⟩
      have W5 : Hid (_) := hW5
      have B5 : Hid (Below w.heap.size w w5) := B.out.trans (hI5.bel.mono hle)
      clear hW5 hI5 HN B hW
      go_wp2_with fail
      refine (HG.out _ _ W5.out).mono ?_; rintro e w6 ⟨rfl, rfl⟩
      clear HG W5
      obtain ⟨hA1, hA2⟩ := HA.out
      by_cases hT : T.size ≤ 1200
      · have HR : Hid (_) := hA1 hT
        clear hA1 hA2 HA
        go_wp2
        go_ret2
        exact ⟨by rw [HR.out]; simp only; rw [HT0.out]; rfl, B5.out⟩
      · have HR : Hid (_) := hA2 hT
        clear hA1 hA2 HA
        go_wp2
        go_ret2
        exact ⟨by rw [HR.out]; rfl, B5.out⟩

theorem oPut_none (a : Option Addr) (cap : Nat) (w : World) :
    Calls Try.prog 31 #[.slice a 0 cap] w fun e w' => e = .returned (.tuple #[.string (mk [255]), .int .i64 0]) ∧ Below w.heap.size w w' := by
  have HM : Hid (∀ w, _) := fun w => mayBe_none a cap w
  have HF : Hid (∀ w, _) := fun w => from_g 0 none 0 0 w
  have HN : Hid (∀ (b : Nat) (w : World), Wr w b 0 false ⟨[], [], false⟩ → Calls Try.prog 24 #[.pointer (some ⟨b, 0, none⟩), .int .i64 255, .int .i64 1] w fun e w' => e = .returned (.tuple #[]) ∧ Wr w' b 0 false ⟨[255], [], false⟩ ∧ Ink b w w') := by
    intro b w hW
    have := number_g b 0 false ⟨[], [], false⟩ 255 1 w hW (inB_one (by omega) (by omega)) (by simp)
    rw [numW_one (show (0:Int) ≤ 255 by omega) (show (255 : Int) < 256 by omega)] at this
    exact this
  have HG : Hid (∀ (b : Nat) (w : World), Wr w b 0 false ⟨[255], [], false⟩ → Calls Try.prog 26 #[.pointer (some ⟨b, 0, none⟩)] w fun e w' => e = .returned (.string (mk [255])) ∧ w' = w) := fun b w hW => given_g b 0 false _ w hW
  have hsz : (mk [255]).size = 1 := rfl
  generalize mk [255] = T at *
  go_enter Try.func31, Try.ntmps31
  go_wp2_with fail
  refine (HM.out _).mono ?_; rintro e w1 ⟨rfl, hb1⟩
  have B1 : Hid (_) := hb1
  clear hb1 HM
  go_wp2_with fail
  refine (HF.out _).mono ?_; rintro e w2 ⟨rfl, hb2⟩
  have B2 : Hid (Below w.heap.size w w2) := bel_trans B1.out hb2
  have W2 : Hid (Wr (w2.alloc (.cells #[.int .i64 0, .slice none 0 0, .slice none 0 0, .bool false] 72)) w2.heap.size 0 false ⟨[], [], false⟩) := Wr.new w2 _
  have B3 : Hid (Below w.heap.size w (w2.alloc (.cells #[.int .i64 0, .slice none 0 0, .slice none 0 0, .bool false] 72))) := B2.out.alloc B2.out.size _
  have hle := B2.out.size
  clear hb2 B1 B2
  go_wp2_with fail
  refine wp_loop_rounds 1 ?_
  rw [rounds_succ]
  go_wp2_with fail
  refine (HN.out _ _ W2.out).mono ?_; rintro e w5 ⟨rfl, hW5, hI5⟩
  have W5 : Hid (_) := hW5
  have B5 : Hid (Below w.heap.size w w5) := B3.out.trans (hI5.bel.mono hle)
  clear hW5 hI5 HN
  go_wp2_with fail
  refine (HG.out _ _ W5.out).mono ?_; rintro e w6 ⟨rfl, rfl⟩
  clear HG W5
  go_wp2
  go_ret2
  exact ⟨rfl, B5.out⟩
/-- Put: every list of options. -/
theorem oPut_c (a : Option Addr) (cap : Nat) (os : List Opn) (w : World) (h : OpLies w a os) :
    Calls Try.prog 31 #[.slice a os.length cap] w fun e w' => e = .returned (.tuple #[.string (mk (putA os).1), .int .i64 (putA os).2]) ∧ Below w.heap.size w w' := by
  cases hm : mayO os with
  | false =>
    have := oPut_no a cap os w h hm
    unfold putA
    simpa [hm, mk] using this
  | true =>
    rcases h with rfl | ⟨x, rfl, h⟩
    · exact oPut_none a cap w
    · exact oPut_from x cap os w h (by simpa [mayO] using hm)
end Go.Proofs.Ytkohojifnmklmaa
