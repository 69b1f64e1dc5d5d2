/-
  Contracts of package ident: Client, at every packet; Dhcid, at every client and name.
-/
import Derived.Test.YtkohojifnmklmaaIdPure
import Derived.Test.YtkohojifnmklmaaPackMay
import Derived.Test.YtkohojifnmklmaaOptGot
import Derived.Test.YtkohojifnmklmaaBName
import Derived.Test.YtkohojifnmklmaaBGive
namespace Go.Proofs.Ytkohojifnmklmaa
open Go.ChangeShapes Go.WideShapes Go.ChangeAt Go.RowKit Go.Pin Go.PlainAid

theorem iMay_c (s : ByteArray) (w : World) : Calls Try.prog 18 #[.string s] w fun e w' => e = .returned (.bool (okI (bs s))) ∧ w' = w := by
  have hv : okI (bs s) = (decide (1 ≤ s.size) && decide (s.size ≤ 16)) := by unfold okI; rw [length_bs]
  rw [hv]
  by_cases h0 : s.size = 0
  · have he := empty_yes h0
    have hd : decide (1 ≤ s.size) = false := by simp [h0]
    rw [hd]
    clear h0 hd hv
    go_enter Try.func18, Try.ntmps18
    go_wp2
    go_ret
    exact ⟨rfl, rfl⟩
  · have he := empty_no h0
    have hd : decide (1 ≤ s.size) = true := by simp; omega
    rw [hd, Bool.true_and]
    clear hd hv
    by_cases h1 : s.size ≤ 16
    · have hz : decide ((s.size : Int) ≤ 16) = true := by simp; omega
      rw [decide_eq_true h1]
      clear h0
      go_enter Try.func18, Try.ntmps18
      go_wp2
      go_ret
      exact ⟨rfl, rfl⟩
    · have hz : decide ((s.size : Int) ≤ 16) = false := by simp; omega
      rw [decide_eq_false h1]
      clear h0 h1
      go_enter Try.func18, Try.ntmps18
      go_wp2
      go_ret
      exact ⟨rfl, rfl⟩

theorem mk_byte (h : Int) : str [h] = mk [byteO h] := by simp [str, mk, byteO]

set_option maxHeartbeats 1000000 in
theorem told_i (p : Pk) (a : Option Addr) (c : Nat) (w : World) (hL : OpLies w a p.os) (hm : mayP p = true) : Calls Try.prog 17 #[pv p a c] w fun e w' => e = .returned (.string (mk (toldI p))) ∧ Below w.heap.size w w' := by
  obtain ⟨h8, _, _, hch, hO⟩ := (mayP_iff p).1 hm
  have hht : 0 ≤ p.ht ∧ p.ht < 256 := by have := h8 p.ht (by simp); unfold inB at this; omega
  have hl : p.os.length ≤ 10000000000000 := by have := hO.1; omega
  have HF : Hid (∀ w', Below w.heap.size w w' → _) := fun w' hb => oFind_c a c p.os 61 w' hl (hL.below hb)
  have hd5 : (findA p.os 61).1.length ≤ 512 ∨ True := .inr trivial
  have HB : Hid (∀ d, findO p.os 61 = some d → d.length ≤ 281474976710656) := fun d hd => by
    rcases find_at p.os 61 with ⟨j, hj, _, h2, _⟩ | ⟨h, _⟩
    · rw [hd] at h2
      have := ((okO_iff _).1 (hO.2.1 _ (opAt_mem hj))).2.2
      rw [← Option.some.inj h2] at this; omega
    · rw [hd] at h; cases h
  have BX : Hid (BoxP (w.alloc (.cells (cellsP p a c) 24)) w.heap.size p a c) := BoxP.new w p a c
  have B0 : Hid (Below w.heap.size w (w.alloc (.cells (cellsP p a c) 24))) := (Below.refl w.heap.size w).alloc (Nat.le_refl _) _
  have hcell : Hid (∀ w', BoxP w' w.heap.size p a c → _) := fun w' h => h.all
  have hbel : Hid (∀ w' w'', BoxP w' w.heap.size p a c → Below w'.heap.size w' w'' → BoxP w'' w.heap.size p a c) := fun w' w'' h1 h2 => h1.below h2
  have HV : Hid (toldI p = match findO p.os 61 with | some d => d | none => if p.ch.size = 0 then [] else byteO p.ht :: bs p.ch) := rfl
  unfold findA at HF
  generalize findO p.os 61 = D at *
  generalize toldI p = V at *
  clear hL hm h8 hO hl hd5
  obtain ⟨hht0, hht1⟩ := hht
  simp only [pv, cellsP] at *
  go_enter Try.func17, Try.ntmps17
  obtain ⟨w0, hw0⟩ : ∃ w0, w.alloc (.cells #[.int .i64 p.op, .int .i64 p.ht, .int .i64 p.ho, .int .i64 p.xid, .int .i64 p.sc, .int .i64 p.fl, .int .i64 p.ci, .int .i64 p.yi, .int .i64 p.si, .int .i64 p.gi, .string p.ch, .slice a p.os.length c] 24) = w0 := ⟨_, rfl⟩
  rw [hw0] at *
  clear hw0
  obtain ⟨c0, c1, c2, c3, c4, c5, c6, c7, c8, c9, c10, c11⟩ := hcell.out _ BX.out
  go_wp2_with fail
  refine (HF.out _ B0.out).mono ?_; rintro e w1 ⟨rfl, hb⟩
  have B1 : Hid (Below w.heap.size w w1) := bel_trans B0.out hb
  have X1 : Hid (BoxP w1 w.heap.size p a c) := hbel.out _ _ BX.out hb
  clear c0 c1 c2 c3 c4 c5 c6 c7 c8 c9 c10 c11 hb B0 BX HF
  obtain ⟨c0, c1, c2, c3, c4, c5, c6, c7, c8, c9, c10, c11⟩ := hcell.out _ X1.out
  cases D with
  | some d =>
    have hds : (mk d).size ≤ 281474976710656 := by rw [size_mk]; exact HB.out d rfl
    have HC : Hid (∀ w, _) := fun w => clone_str (mk d) w hds
    have hV : V = d := HV.out
    subst hV
    simp only [Option.getD_some, Option.isSome_some]
    clear HB HV hds
    go_wp2_with fail
    refine (HC.out _).mono ?_; rintro e w2 ⟨rfl, hb⟩
    go_wp2
    go_ret
    exact ⟨rfl, bel_trans B1.out hb⟩
  | none =>
    simp only [Option.getD_none, Option.isSome_none]
    by_cases hz : p.ch.size = 0
    · have he := empty_yes hz
      have hV : V = [] := by have := HV.out; simp only [hz, if_true] at this; exact this
      subst hV
      clear HV HB hz
      go_wp2
      go_ret
      exact ⟨rfl, B1.out⟩
    · have he := empty_no hz
      have hV : V = byteO p.ht :: bs p.ch := by have := HV.out; simp only [hz, if_false] at this; exact this
      have HM : Hid (mk [byteO p.ht] ++ p.ch = mk V) := by show _ = _; rw [hV]; apply bs_inj; simp [bs, mk]
      have hm8 : p.ht % 256 = p.ht := by omega
      obtain ⟨w2, hw2⟩ : ∃ w2, w1.alloc (.cells #[.int .u8 p.ht] 5) = w2 := ⟨_, rfl⟩
      have hb2 : Below w1.heap.size w1 w2 := by rw [← hw2]; exact (Below.refl _ _).alloc (Nat.le_refl _) _
      have hcv := conv_new (P := Try.prog) w1 37 9 5 5 1 [p.ht] 1 #[.int .u8 p.ht] rfl rfl Try.underlying37 Try.underlying5 Try.underlying9
      rw [mk_byte, hw2] at hcv
      have B2 : Hid (Below w.heap.size w w2) := bel_trans B1.out hb2
      have d10 := (hbel.out _ _ X1.out hb2).cell 10
      simp only [cellsP] at d10
      have d10' : w2.cell? ⟨w.heap.size, 10, none⟩ = some (.string p.ch) := d10
      have hsz : (mk [byteO p.ht]).size = 1 := size_mk _
      generalize mk [byteO p.ht] = H at *
      have hss : H.size + p.ch.size ≤ 17 := by omega
      clear HV HB hz d10 hV hb2
      go_wp2
      rw [HM.out]
      go_ret
      exact ⟨rfl, B2.out⟩

set_option maxHeartbeats 1000000 in
theorem client_c (p : Pk) (a : Option Addr) (c : Nat) (w : World) (hL : OpLies w a p.os) (hch : p.ch.size ≤ maxLen) :
    Calls Try.prog 8 #[pv p a c] w fun e w' => e = .returned (.tuple #[.string (clientA p).1, .int .i64 (clientA p).2]) ∧ Below w.heap.size w w' := by
  have HM : Hid (∀ w', Below w.heap.size w w' → _) := fun w' hb => pMay_c p a c w' (hL.below hb) hch
  have HT : Hid (mayP p = true → ∀ w', Below w.heap.size w w' → _) := fun hm w' hb => told_i p a c w' (hL.below hb) hm
  have HI : Hid (∀ w, _) := fun w => iMay_c (mk (toldI p)) w
  rw [bs_mk] at HI
  have BX : Hid (BoxP (w.alloc (.cells (cellsP p a c) 24)) w.heap.size p a c) := BoxP.new w p a c
  have B0 : Hid (Below w.heap.size w (w.alloc (.cells (cellsP p a c) 24))) := (Below.refl w.heap.size w).alloc (Nat.le_refl _) _
  have hcell : Hid (∀ w', BoxP w' w.heap.size p a c → _) := fun w' h => h.all
  have hbel : Hid (∀ w' w'', BoxP w' w.heap.size p a c → Below w'.heap.size w' w'' → BoxP w'' w.heap.size p a c) := fun w' w'' h1 h2 => h1.below h2
  have hA : clientA p = if mayP p && okI (toldI p) then (mk (toldI p), 0) else (⟨#[]⟩, 900) := rfl
  generalize clientA p = R at *
  generalize mayP p = m at *
  generalize okI (toldI p) = o at *
  generalize mk (toldI p) = T at *
  clear hL hch
  simp only [pv, cellsP] at *
  go_enter Try.func8, Try.ntmps8
  obtain ⟨w0, hw0⟩ : ∃ w0, w.alloc (.cells #[.int .i64 p.op, .int .i64 p.ht, .int .i64 p.ho, .int .i64 p.xid, .int .i64 p.sc, .int .i64 p.fl, .int .i64 p.ci, .int .i64 p.yi, .int .i64 p.si, .int .i64 p.gi, .string p.ch, .slice a p.os.length c] 24) = w0 := ⟨_, rfl⟩
  rw [hw0] at *
  clear hw0
  obtain ⟨c0, c1, c2, c3, c4, c5, c6, c7, c8, c9, c10, c11⟩ := hcell.out _ BX.out
  go_wp2_with fail
  refine (HM.out _ B0.out).mono ?_; rintro e w1 ⟨rfl, hb⟩
  have B1 : Hid (Below w.heap.size w w1) := bel_trans B0.out hb
  have X1 : Hid (BoxP w1 w.heap.size p a c) := hbel.out _ _ BX.out hb
  clear c0 c1 c2 c3 c4 c5 c6 c7 c8 c9 c10 c11 hb B0 BX HM
  obtain ⟨c0, c1, c2, c3, c4, c5, c6, c7, c8, c9, c10, c11⟩ := hcell.out _ X1.out
  cases m with
  | false =>
    have hR : R = (⟨#[]⟩, 900) := hA
    subst hR
    clear hA HT
    go_wp2
    go_ret2
    exact ⟨rfl, B1.out⟩
  | true =>
    have HT' := HT.out rfl
    clear HT
    go_wp2_with fail
    refine (HT' _ B1.out).mono ?_; rintro e w2 ⟨rfl, hb⟩
    have B2 : Hid (Below w.heap.size w w2) := bel_trans B1.out hb
    clear hb B1 HT' X1 hbel hcell c0 c1 c2 c3 c4 c5 c6 c7 c8 c9 c10 c11
    go_wp2_with fail
    refine (HI.out _).mono ?_; rintro e w3 ⟨rfl, rfl⟩
    simp only [Bool.true_and] at hA
    cases o
    all_goals
      simp only [if_true, Bool.false_eq_true, if_false] at hA
      subst hA
      go_wp2
      go_ret2
      exact ⟨rfl, B2.out⟩

/-! ### the sum -/
theorem take_snoc (l : List UInt8) (j : Nat) (h : j < l.length) : l.take (j + 1) = l.take j ++ [l[j]] := by
  rw [List.take_add_one, List.getElem?_eq_getElem h]; rfl
theorem fnv_take (s : ByteArray) (x j : Nat) (hj : j < s.size) : fnv x ((bs s).take (j + 1)) = fnvS (fnv x ((bs s).take j)) (UInt8.ofNat (bt s j).toNat) := by
  have hl : j < (bs s).length := by rw [length_bs]; exact hj
  rw [take_snoc _ _ hl, fnv_snoc, bt_is s j hj hl]
  simp
theorem step_sum {X : Nat} (hX : X < 4294967296) {b : Int} (h0 : 0 ≤ b) (h1 : b ≤ 255) : bits .xor .u32 (X : Int) b * 16777619 % 4294967296 = (fnvS X (UInt8.ofNat b.toNat) : Nat) := by
  rw [sum_xor (by omega) (by omega) h0 (by omega)]
  unfold fnvS
  have e : (UInt8.ofNat b.toNat).toNat = b.toNat := toNat_byte b h0 (by omega)
  rw [e]
  simp
set_option maxHeartbeats 1000000 in
theorem sum_c (s : ByteArray) (w : World) (hs : s.size ≤ 1048576) : Calls Try.prog 25 #[.string s] w fun e w' => e = .returned (.int .u32 (fnv 2166136261 (bs s) : Nat)) ∧ Below w.heap.size w w' := by
  obtain ⟨w1, cap, hcv, hb1, hz1, hc1⟩ := bytes_new s w
  have H1 : Hid (∀ j, j < s.size → w1.cell? ⟨w.heap.size, j, none⟩ = some (.int .u8 (bt s j)) ∧ w1.frozen? ⟨w.heap.size, j, none⟩ = false) := hc1
  have B1 : Hid (Below w.heap.size w w1) := hb1
  have HX : Hid (∀ j, fnv 2166136261 ((bs s).take j) < 4294967296) := fun j => fnv_lt (by decide) _
  have HS : Hid (∀ j, j < s.size → fnv 2166136261 ((bs s).take (j + 1)) = fnvS (fnv 2166136261 ((bs s).take j)) (UInt8.ofNat (bt s j).toNat)) := fun j hj => fnv_take s _ j hj
  have HE : Hid (fnv 2166136261 (bs s) = fnv 2166136261 ((bs s).take s.size)) := by show _ = _; rw [List.take_of_length_le (by rw [length_bs]; exact Nat.le_refl _)]
  have H0 : Hid (fnv 2166136261 ((bs s).take 0) = 2166136261) := rfl
  rw [HE.out]
  generalize hG : (fun j => fnv 2166136261 ((bs s).take j)) = G at *
  have hg : ∀ j, fnv 2166136261 ((bs s).take j) = G j := fun j => by rw [← hG]
  simp only [hg] at HX HS H0 ⊢
  clear hc1 hz1 hb1 HE hG hg
  go_enter Try.func25, Try.ntmps25
  go_wp2
  go_loop [3, 9] (fun x i => ∃ j : Nat, j ≤ s.size ∧ i = .int .i64 j ∧ x = .int .u32 (G j : Nat)) (fun _ i => s.size - (intOf i).toNat)
  case atStart => exact ⟨0, Nat.zero_le _, rfl, by rw [H0.out]; rfl⟩
  case round =>
    clear hcv
    obtain ⟨j, hj, rfl, rfl⟩ := hrel
    by_cases hlt : j < s.size
    · obtain ⟨hce, hfr⟩ := H1.out j hlt
      have hb0 := bt_nonneg s j
      have hb2 := bt_le s j
      have hst : Hid (_) := step_sum (HX.out j) hb0 hb2
      rw [← HS.out j hlt] at hst
      generalize hx : bt s j = x at *
      clear hx
      go_wp2
      exact ⟨⟨j + 1, by omega, by go_num, by rw [hst.out]⟩, by simp [intOf]; omega⟩
    · obtain rfl : j = s.size := by omega
      go_wp2
      go_ret
      exact ⟨rfl, B1.out⟩

/-! ### Dhcid -/
theorem iHave_c (s n : ByteArray) (w : World) (hn : n.size ≤ maxLen) : Calls Try.prog 21 #[.string s, .string n] w fun e w' => e = .returned (.bool (okI (bs s) && mayL (bs n))) ∧ Below w.heap.size w w' := by
  have HI : Hid (∀ w, _) := fun w => iMay_c s w
  have HM : Hid (∀ w, _) := fun w => may_is n (mayL (bs n)) w hn rfl
  generalize okI (bs s) = o at *
  generalize mayL (bs n) = m at *
  clear hn
  go_enter Try.func21, Try.ntmps21
  go_wp2_with fail
  refine (HI.out _).mono ?_; rintro e w1 ⟨rfl, rfl⟩
  cases o
  · go_wp2
    go_ret
    exact ⟨rfl, Below.refl _ _⟩
  · go_wp2_with fail
    refine (HM.out _).mono ?_; rintro e w2 ⟨rfl, hb⟩
    go_wp2
    go_ret
    exact ⟨rfl, hb⟩
theorem over_mk (s n : ByteArray) : s ++ ⟨#[0]⟩ ++ n = mk (overI (bs s) (bs n)) := by
  apply bs_inj
  simp [bs, mk, overI]
theorem okI_len {l : List UInt8} (h : okI l = true) : 1 ≤ l.length ∧ l.length ≤ 16 := by simpa [okI] using h
/-- The writer at the end. -/
theorem dhc_end (c n : List UInt8) : numW (sumI c n : Nat) 4 (textW ⟨#[0, 1, 1]⟩ ⟨[], [], false⟩) = ⟨dhcL c n, [], false⟩ := by
  simp [numW, textW, dhcL, bs]
set_option maxHeartbeats 1000000 in
theorem dhcid_c (s n : ByteArray) (w : World) (hn : n.size ≤ maxLen) :
    Calls Try.prog 10 #[.string s, .string n] w fun e w' => e = .returned (.tuple #[.string (dhcA (bs s) (bs n)).1, .int .i64 (dhcA (bs s) (bs n)).2]) ∧ Below w.heap.size w w' := by
  have HM : Hid (∀ w, _) := fun w => iHave_c s n w hn
  have hA : dhcA (bs s) (bs n) = if okI (bs s) && mayL (bs n) then (mk (dhcL (bs s) (bs n)), 0) else (⟨#[]⟩, 900) := rfl
  by_cases hm : (okI (bs s) && mayL (bs n)) = true
  · obtain ⟨h1, h2⟩ := Bool.and_eq_true_iff.1 hm
    have l1 := okI_len h1
    have l2 := mayL_len h2
    rw [length_bs] at l1 l2
    rw [hm, if_pos rfl] at hA
    rw [hm] at HM
    have HS : Hid (∀ w, _) := fun w => sum_c (mk (overI (bs s) (bs n))) w (by rw [size_mk]; simp only [overI, List.length_append, List.length_cons, length_bs]; omega)
    rw [bs_mk] at HS
    have hov := over_mk s n
    have HF : Hid (∀ w, _) := fun w => from_g 0 none 0 0 w
    have HT : Hid (∀ b w, Wr w b 0 false ⟨[], [], false⟩ → _) := fun b w h => text_g b 0 false ⟨[], [], false⟩ ⟨#[0, 1, 1]⟩ w h (by simp) (by decide)
    have HN : Hid (∀ b w, Wr w b 0 false (textW ⟨#[0, 1, 1]⟩ ⟨[], [], false⟩) → _) := fun b w h => number_g b 0 false (textW ⟨#[0, 1, 1]⟩ ⟨[], [], false⟩) (sumI (bs s) (bs n) : Nat) 4 w h (by have := sumI_lt (bs s) (bs n); unfold inB; omega) (by simp [textW, bs])
    rw [dhc_end] at HN
    have HG : Hid (∀ b w, Wr w b 0 false ⟨dhcL (bs s) (bs n), [], false⟩ → _) := fun b w h => given_g b 0 false ⟨dhcL (bs s) (bs n), [], false⟩ w h
    have hlt := sumI_lt (bs s) (bs n)
    have hsu : fnv 2166136261 (overI (bs s) (bs n)) = sumI (bs s) (bs n) := rfl
    rw [hsu] at HS
    rw [hA]
    generalize textW ⟨#[0, 1, 1]⟩ ⟨[], [], false⟩ = x1 at *
    generalize mk (overI (bs s) (bs n)) = O at *
    generalize sumI (bs s) (bs n) = U at *
    generalize dhcL (bs s) (bs n) = P at *
    clear hA hsu hn h1 h2 hm
    have hw : wrap64 (U : Int) = U := by unfold wrap64; omega
    have hp1 : (s ++ ⟨#[0]⟩ : ByteArray).size ≤ 17 := by rw [ByteArray.size_append]; have : (⟨#[0]⟩ : ByteArray).size = 1 := rfl; omega
    go_enter Try.func10, Try.ntmps10
    go_wp2_with fail
    refine (HM.out _).mono ?_; rintro e w0 ⟨rfl, hb0⟩
    go_wp2_with fail
    refine (HF.out _).mono ?_; rintro e w1 ⟨rfl, hb1⟩
    have hb1' := bel_trans hb0 hb1
    have W2 : Hid (Wr (w1.alloc (.cells #[.int .i64 0, .slice none 0 0, .slice none 0 0, .bool false] 54)) w1.heap.size 0 false ⟨[], [], false⟩) := Wr.fresh w1 _
    have B2 : Hid (Below w.heap.size w (w1.alloc (.cells #[.int .i64 0, .slice none 0 0, .slice none 0 0, .bool false] 54))) := hb1'.alloc hb1'.size _
    have hle := hb1'.size
    clear hb1 hb0 hb1' HF HM
    go_wp2_with fail
    refine (HT.out _ _ W2.out).mono ?_; rintro e w3 ⟨rfl, hW, hI⟩
    have W3 : Hid (_) := hW
    have B3 : Hid (Below w.heap.size w w3) := B2.out.trans (hI.bel.mono hle)
    clear hW hI W2 B2 HT
    go_wp2_with fail
    refine (HS.out _).mono ?_; rintro e w4 ⟨rfl, hb⟩
    have W4 : Hid (_) := W3.out.below hb
    have B4 : Hid (Below w.heap.size w w4) := bel_trans B3.out hb
    clear hb W3 B3 HS
    go_wp2_with fail
    refine (HN.out _ _ W4.out).mono ?_; rintro e w5 ⟨rfl, hW, hI⟩
    have W5 : Hid (_) := hW
    have B5 : Hid (Below w.heap.size w w5) := B4.out.trans (hI.bel.mono hle)
    clear hW hI W4 B4 HN
    go_wp2_with fail
    refine (HG.out _ _ W5.out).mono ?_; rintro e w6 ⟨rfl, rfl⟩
    go_wp2
    go_ret2
    exact ⟨rfl, B5.out⟩
  · have hm' : (okI (bs s) && mayL (bs n)) = false := by simpa using hm
    rw [hm', if_neg (by simp)] at hA
    rw [hm'] at HM
    rw [hA]
    clear hA hm hm' hn
    go_enter Try.func10, Try.ntmps10
    go_wp2_with fail
    refine (HM.out _).mono ?_; rintro e w0 ⟨rfl, hb0⟩
    go_wp2
    go_ret2
    exact ⟨rfl, hb0⟩

end Go.Proofs.Ytkohojifnmklmaa
