/-
  Contract of the document's own GetPacket, at every text.
-/
import Derived.Test.YtegoaaamlfehpaaPackRef2
import Derived.Test.YtegoaaamlfehpaaPackGetPlain
import Derived.Test.YtegoaaamlfehpaaPackGet
import Derived.Deep.DeepCutAuto
import Derived.Deep.CutRange
namespace Go.Proofs.Ytegoaaamlfehpaa
open Go.ChangeShapes Go.WideShapes Go.ChangeAt Go.RowKit Go.Pin Go.PlainAid
theorem may_read (s : ByteArray) (kn : Nat) (os : List Opn) (h : kn ≤ 16) : mayP ⟨num s 0 1, num s 1 1, num s 3 1, num s 4 4, num s 8 2, num s 10 2, num s 12 4, num s 16 4, num s 20 4, num s 24 4, mk (cut s 28 kn), os⟩ = mayO os := by
  have b1 : ∀ a, inB (num s a 1) 1 := fun a => .inl ⟨rfl, (num_bd s a 1).1, by have := (num_bd s a 1).2; omega⟩
  have b2 : ∀ a, inB (num s a 2) 2 := fun a => .inr (.inl ⟨rfl, (num_bd s a 2).1, by have := (num_bd s a 2).2; omega⟩)
  have b4 : ∀ a, inB (num s a 4) 4 := fun a => .inr (.inr ⟨rfl, (num_bd s a 4).1, by have := (num_bd s a 4).2; omega⟩)
  have hc : (mk (cut s 28 kn)).size ≤ 16 := by rw [size_mk]; unfold cut; rw [List.length_take]; omega
  rw [mayP_row]
  simp only [b1, b2, b4, hc, decide_true, Bool.true_and]
theorem cut_size (s : ByteArray) (a n : Nat) : (mk (cut s a n)).size ≤ n := by rw [size_mk]; unfold cut; rw [List.length_take]; omega
theorem over_c (a : Option Addr) (cap : Nat) (os : List Opn) (s : ByteArray) (i j n : Nat) (w : World) (hs : s.size ≤ 140737488351232) (hn : j = i + n) (β : Nat) (hβ : β ≤ w.heap.size) (hl : os.length ≤ 500) (hd : ∀ o ∈ os, o.2.length ≤ 100000) (h : LiesN w a os) (hp : ∀ x, a = some x → β ≤ x.block) :
    Calls Try.prog 40 #[.slice a os.length cap, .string (s.extract i j)] w fun e w' => (match getO (cut s i n) [] with | some xs => ∃ a' c', e = .returned (.tuple #[.slice a' (joinAll os (wo xs)).length c', .bool true]) ∧ LiesN w' a' (joinAll os (wo xs)) ∧ (∀ x, a' = some x → β ≤ x.block) | none => e = .returned (.tuple #[.slice none 0 0, .bool false])) ∧ Below w.heap.size w w' := by
  have e : bs (s.extract i j) = cut s i n := by rw [hn]; exact extract_bs s i n
  have hz : (s.extract i j).size ≤ 140737488351232 := by rw [ByteArray.size_extract]; omega
  cases hg : getO (cut s i n) [] with
  | none => exact over_no _ _ w hz (by rw [e]; exact hg)
  | some xs => exact over_yes a cap os xs _ w hz (by rw [e]; exact hg) β hβ hl hd h hp
theorem OpLies.lay {w : World} {r : Nat} {a : Option Addr} {ks : List Opn} (h : OpLies w a ks) (hq : ∀ x, a = some x → x.block = r → False) (P : Pk) (b : Option Addr) (c : Nat) : OpLies (layP w r P b c) a ks := h.heap fun x hx => layP_other _ _ _ _ _ _ (fun e => hq x hx e)
theorem bs_from (s : ByteArray) (n : Nat) (h : n ≤ s.size) : bs (s.extract n s.size) = (bs s).drop n := by
  have := bs_extract s n (s.size - n)
  rw [show n + (s.size - n) = s.size by omega] at this
  rw [this, List.take_of_length_le (by rw [List.length_drop, length_bs]; exact Nat.le_refl _)]
def ovT (a : List Opn) : Bool := decide (ovr a = [1]) || decide (ovr a = [2]) || decide (ovr a = [3])
theorem ovT_false (a : List Opn) (h : ovT a = false) : ovr a ≠ [1] ∧ ovr a ≠ [2] ∧ ovr a ≠ [3] := by
  simpa [ovT, and_assoc] using h
theorem bt_one (x : UInt8) : bt (mk [x]) 0 = x.toNat := by rw [bt_list]; rfl
theorem ovT_true (a : List Opn) : ovT a = true → ∃ x : Nat, (x = 1 ∨ x = 2 ∨ x = 3) ∧ ovr a = [UInt8.ofNat x] ∧ bt (mk (ovr a)) 0 = x ∧ (mk (ovr a)).size = 1 := by
  intro h
  simp only [ovT, Bool.or_eq_true, decide_eq_true_eq] at h
  rcases h with (h | h) | h
  · exact ⟨1, .inl rfl, h, by rw [h, bt_one]; rfl, by rw [h, size_mk]; rfl⟩
  · exact ⟨2, .inr (.inl rfl), h, by rw [h, bt_one]; rfl, by rw [h, size_mk]; rfl⟩
  · exact ⟨3, .inr (.inr rfl), h, by rw [h, bt_one]; rfl, by rw [h, size_mk]; rfl⟩
theorem ov_case (a : List Opn) : ((findA a 52).2 = false ∧ ovT a = false) ∨ ((findA a 52).2 = true ∧ (mk (ovr a)).size ≠ 1 ∧ ovT a = false) ∨ ((findA a 52).2 = true ∧ (mk (ovr a)).size = 1 ∧ bt (mk (ovr a)) 0 < 1 ∧ ovT a = false) ∨ ((findA a 52).2 = true ∧ (mk (ovr a)).size = 1 ∧ 1 ≤ bt (mk (ovr a)) 0 ∧ ovT a = decide (bt (mk (ovr a)) 0 ≤ 3)) := by
  unfold ovT findA ovr
  cases hq : findO a 52 with
  | none => left; simp
  | some d =>
    right
    simp only [Option.getD_some, Option.isSome_some, true_and]
    match d with
    | [] => left; simp [size_mk]
    | x :: y :: r => left; simp [size_mk]
    | [x] =>
      right
      simp only [bt_one]
      have hx := x.toNat_lt
      have e : ∀ k : Nat, k < 256 → (decide ([x] = [UInt8.ofNat k]) = decide (x.toNat = k)) := fun k hk => by
        rw [decide_eq_decide]
        simp only [List.cons.injEq, and_true]
        constructor
        · intro h; rw [h, UInt8.toNat_ofNat']; omega
        · intro h; apply UInt8.toNat_inj.1; rw [UInt8.toNat_ofNat', h]; omega
      have e1 := e 1 (by omega)
      have e2 := e 2 (by omega)
      have e3 := e 3 (by omega)
      have g1 : (UInt8.ofNat 1) = 1 := rfl
      have g2 : (UInt8.ofNat 2) = 2 := rfl
      have g3 : (UInt8.ofNat 3) = 3 := rfl
      rw [g1] at e1; rw [g2] at e2; rw [g3] at e3
      simp only [e1, e2, e3]
      have hsz : (mk [x]).size = 1 := by rw [size_mk]; rfl
      by_cases h0 : x.toNat = 0
      · left; exact ⟨hsz, by omega, by simp; omega⟩
      · right
        refine ⟨hsz, by omega, ?_⟩
        by_cases h3 : x.toNat ≤ 3
        · rw [show decide (((x.toNat : Nat) : Int) ≤ 3) = true by simp; omega]
          simp; omega
        · rw [show decide (((x.toNat : Nat) : Int) ≤ 3) = false by simp; omega]
          simp; omega
theorem newTk (w : World) (s : ByteArray) (t : TypeId) : TkAt (w.alloc (.cells #[.string s, .int .i64 0, .bool false] t)) w.heap.size s ⟨0, false⟩ :=
  ⟨new_cell _ _ _ _ _ rfl, new_cell _ _ _ _ _ rfl, new_cell _ _ _ _ _ rfl, fun _ => new_frozen _ _ _ _, by simp, fun _ => ⟨by simp, by simp⟩, by simp⟩
set_option maxRecDepth 100000 in
set_option maxHeartbeats 8000000 in
theorem rpGet_yes (s : ByteArray) (w : World) (kn : Nat) (hs : s.size ≤ 140737488351232) (h0 : 240 ≤ s.size) (hk : num s 2 1 = kn) (hkn : kn ≤ 16) (h2 : num s 236 4 = 1669485411) :
    Calls Try.prog 14 #[.string s] w fun e w' => (match optsP ((bs s).drop 240) (cut s 44 64) (cut s 108 128) with
      | none => e = .returned (.tuple #[pv zeroP none 0, .int .i64 700])
      | some os => ∃ a c, e = .returned (.tuple #[pv ⟨num s 0 1, num s 1 1, num s 3 1, num s 4 4, num s 8 2, num s 10 2, num s 12 4, num s 16 4, num s 20 4, num s 24 4, mk (cut s 28 kn), os⟩ a c, .int .i64 0]) ∧ OpLies w' a os) ∧ Below w.heap.size w w' := by
  have HM : Hid (∀ (os : List Opn) (a : Option Addr) (c : Nat) (w : World), OpLies w a os → os.length ≤ 10000000000000 → Calls Try.prog 17 #[pv ⟨num s 0 1, num s 1 1, num s 3 1, num s 4 4, num s 8 2, num s 10 2, num s 12 4, num s 16 4, num s 20 4, num s 24 4, mk (cut s 28 kn), os⟩ a c] w fun e w' => e = .returned (.bool (mayO os)) ∧ Below w.heap.size w w') := fun os a c w hL hl => by
    rw [← may_read s kn os hkn]
    exact rpMay_c _ a c w hL hl (by show (mk (cut s 28 kn)).size ≤ maxLen; have := cut_size s 28 kn; unfold maxLen; omega)
  have HG : Hid (∀ w, Calls Try.prog 38 #[.string (s.extract 240 s.size)] w fun e w' => (match getO ((bs s).drop 240) [] with | some os => ∃ v, e = .returned (.tuple #[v, .int .i64 0]) ∧ Opts w' w.heap.size v os | none => e = .returned (.tuple #[.slice none 0 0, .int .i64 600])) ∧ Below w.heap.size w w') := fun w => by
    have := rGet_c (s.extract 240 s.size) w (by rw [ByteArray.size_extract]; omega)
    rwa [show bs (s.extract 240 s.size) = (bs s).drop 240 from bs_from s 240 h0] at this
  have HO1 : Hid (∀ (a : Option Addr) (cap : Nat) (os : List Opn) (w : World) (β : Nat), β ≤ w.heap.size → os.length ≤ 500 → (∀ o ∈ os, o.2.length ≤ 100000) → LiesN w a os → (∀ x, a = some x → β ≤ x.block) → Calls Try.prog 40 #[.slice a os.length cap, .string (s.extract 108 236)] w fun e w' => (match getO (cut s 108 128) [] with | some xs => ∃ a' c', e = .returned (.tuple #[.slice a' (joinAll os (wo xs)).length c', .bool true]) ∧ LiesN w' a' (joinAll os (wo xs)) ∧ (∀ x, a' = some x → β ≤ x.block) | none => e = .returned (.tuple #[.slice none 0 0, .bool false])) ∧ Below w.heap.size w w') := fun a cap os w β hβ h1 h2 h3 h4 => over_c a cap os s 108 236 128 w hs rfl β hβ h1 h2 h3 h4
  have HO2 : Hid (∀ (a : Option Addr) (cap : Nat) (os : List Opn) (w : World) (β : Nat), β ≤ w.heap.size → os.length ≤ 500 → (∀ o ∈ os, o.2.length ≤ 100000) → LiesN w a os → (∀ x, a = some x → β ≤ x.block) → Calls Try.prog 40 #[.slice a os.length cap, .string (s.extract 44 108)] w fun e w' => (match getO (cut s 44 64) [] with | some xs => ∃ a' c', e = .returned (.tuple #[.slice a' (joinAll os (wo xs)).length c', .bool true]) ∧ LiesN w' a' (joinAll os (wo xs)) ∧ (∀ x, a' = some x → β ≤ x.block) | none => e = .returned (.tuple #[.slice none 0 0, .bool false])) ∧ Below w.heap.size w w') := fun a cap os w β hβ h1 h2 h3 h4 => over_c a cap os s 44 108 64 w hs rfl β hβ h1 h2 h3 h4
  have HCH : Hid (s.extract 28 (28 + kn) = mk (cut s 28 kn)) := by show _ = _; apply bs_inj; simp [cut, bs, mk]
  have h1 : num s 2 1 ≤ 16 := by omega
  have HC : Hid (∀ w, _) := fun w => refNum 1669485411 4 w (by omega) (by omega) (by omega)
  rw [← (cookie_is s h0).2 h2] at HC
  have b2 : bt s 2 ≤ 16 := by rw [← num_1bt]; exact h1
  have hbt := get_bt s
  have hsz : (240 : Int) ≤ (s.size : Int) := by omega
  have hd1 : decide ((s.size : Int) < 240) = false := by simp; omega
  have hd2 : decide (16 < bt s 2) = false := by simp; omega
  have h0' : 236 ≤ s.size := by omega
  have N0 : Hid (∀ (b : Nat) (w : World), TkAt w b s ⟨0, false⟩ → Calls Try.prog 37 #[.pointer (some ⟨b, 0, none⟩), .int .i64 1] w fun e w' => e = .returned (.int .i64 (num s 0 1)) ∧ TkAt w' b s ⟨1, false⟩ ∧ Turn b w w') := fun b w h => rnum_c b s 0 1 w (by omega) (by omega) (by omega) h
  generalize num s 0 1 = v0 at *
  have N1 : Hid (∀ (b : Nat) (w : World), TkAt w b s ⟨1, false⟩ → Calls Try.prog 37 #[.pointer (some ⟨b, 0, none⟩), .int .i64 1] w fun e w' => e = .returned (.int .i64 (num s 1 1)) ∧ TkAt w' b s ⟨2, false⟩ ∧ Turn b w w') := fun b w h => rnum_c b s 1 1 w (by omega) (by omega) (by omega) h
  generalize num s 1 1 = v1 at *
  have N2 : Hid (∀ (b : Nat) (w : World), TkAt w b s ⟨2, false⟩ → Calls Try.prog 37 #[.pointer (some ⟨b, 0, none⟩), .int .i64 1] w fun e w' => e = .returned (.int .i64 (num s 2 1)) ∧ TkAt w' b s ⟨3, false⟩ ∧ Turn b w w') := fun b w h => rnum_c b s 2 1 w (by omega) (by omega) (by omega) h
  have N3 : Hid (∀ (b : Nat) (w : World), TkAt w b s ⟨3, false⟩ → Calls Try.prog 37 #[.pointer (some ⟨b, 0, none⟩), .int .i64 1] w fun e w' => e = .returned (.int .i64 (num s 3 1)) ∧ TkAt w' b s ⟨4, false⟩ ∧ Turn b w w') := fun b w h => rnum_c b s 3 1 w (by omega) (by omega) (by omega) h
  generalize num s 3 1 = v3 at *
  have N4 : Hid (∀ (b : Nat) (w : World), TkAt w b s ⟨4, false⟩ → Calls Try.prog 37 #[.pointer (some ⟨b, 0, none⟩), .int .i64 4] w fun e w' => e = .returned (.int .i64 (num s 4 4)) ∧ TkAt w' b s ⟨8, false⟩ ∧ Turn b w w') := fun b w h => rnum_c b s 4 4 w (by omega) (by omega) (by omega) h
  generalize num s 4 4 = v4 at *
  have N5 : Hid (∀ (b : Nat) (w : World), TkAt w b s ⟨8, false⟩ → Calls Try.prog 37 #[.pointer (some ⟨b, 0, none⟩), .int .i64 2] w fun e w' => e = .returned (.int .i64 (num s 8 2)) ∧ TkAt w' b s ⟨10, false⟩ ∧ Turn b w w') := fun b w h => rnum_c b s 8 2 w (by omega) (by omega) (by omega) h
  generalize num s 8 2 = v5 at *
  have N6 : Hid (∀ (b : Nat) (w : World), TkAt w b s ⟨10, false⟩ → Calls Try.prog 37 #[.pointer (some ⟨b, 0, none⟩), .int .i64 2] w fun e w' => e = .returned (.int .i64 (num s 10 2)) ∧ TkAt w' b s ⟨12, false⟩ ∧ Turn b w w') := fun b w h => rnum_c b s 10 2 w (by omega) (by omega) (by omega) h
  generalize num s 10 2 = v6 at *
  have N7 : Hid (∀ (b : Nat) (w : World), TkAt w b s ⟨12, false⟩ → Calls Try.prog 37 #[.pointer (some ⟨b, 0, none⟩), .int .i64 4] w fun e w' => e = .returned (.int .i64 (num s 12 4)) ∧ TkAt w' b s ⟨16, false⟩ ∧ Turn b w w') := fun b w h => rnum_c b s 12 4 w (by omega) (by omega) (by omega) h
  generalize num s 12 4 = v7 at *
  have N8 : Hid (∀ (b : Nat) (w : World), TkAt w b s ⟨16, false⟩ → Calls Try.prog 37 #[.pointer (some ⟨b, 0, none⟩), .int .i64 4] w fun e w' => e = .returned (.int .i64 (num s 16 4)) ∧ TkAt w' b s ⟨20, false⟩ ∧ Turn b w w') := fun b w h => rnum_c b s 16 4 w (by omega) (by omega) (by omega) h
  generalize num s 16 4 = v8 at *
  have N9 : Hid (∀ (b : Nat) (w : World), TkAt w b s ⟨20, false⟩ → Calls Try.prog 37 #[.pointer (some ⟨b, 0, none⟩), .int .i64 4] w fun e w' => e = .returned (.int .i64 (num s 20 4)) ∧ TkAt w' b s ⟨24, false⟩ ∧ Turn b w w') := fun b w h => rnum_c b s 20 4 w (by omega) (by omega) (by omega) h
  generalize num s 20 4 = v9 at *
  have N10 : Hid (∀ (b : Nat) (w : World), TkAt w b s ⟨24, false⟩ → Calls Try.prog 37 #[.pointer (some ⟨b, 0, none⟩), .int .i64 4] w fun e w' => e = .returned (.int .i64 (num s 24 4)) ∧ TkAt w' b s ⟨28, false⟩ ∧ Turn b w w') := fun b w h => rnum_c b s 24 4 w (by omega) (by omega) (by omega) h
  generalize num s 24 4 = v10 at *
  generalize mk (cut s 28 kn) = CH at *
  generalize (bs s).drop 240 = r at *
  generalize cut s 44 64 = boot at *
  generalize cut s 108 128 = file at *
  obtain ⟨RES, hRES⟩ : ∃ RES, optsP r boot file = RES := ⟨_, rfl⟩
  have HRES : Hid (_) := hRES
  rw [hRES]
  clear hRES h1 h2
  simp only [pv, cellsP, zeroP, List.length_nil] at *
  have R0 : Hid (BoxP (w.alloc (.cells #[.int .i64 0, .int .i64 0, .int .i64 0, .int .i64 0, .int .i64 0, .int .i64 0, .int .i64 0, .int .i64 0, .int .i64 0, .int .i64 0, .string ⟨#[]⟩, .slice none 0 0] 40)) w.heap.size zeroP none 0) := BoxP.new w zeroP none 0
  have B0 : Hid (Below w.heap.size w (w.alloc (.cells #[.int .i64 0, .int .i64 0, .int .i64 0, .int .i64 0, .int .i64 0, .int .i64 0, .int .i64 0, .int .i64 0, .int .i64 0, .int .i64 0, .string ⟨#[]⟩, .slice none 0 0] 40))) := (Below.refl _ _).alloc (Nat.le_refl _) _
  have S0 : Hid ((w.alloc (.cells #[.int .i64 0, .int .i64 0, .int .i64 0, .int .i64 0, .int .i64 0, .int .i64 0, .int .i64 0, .int .i64 0, .int .i64 0, .int .i64 0, .string ⟨#[]⟩, .slice none 0 0] 40)).heap.size = w.heap.size + 1) := by show _ = _; simp
  go_enter Try.func14, Try.ntmps14
  go_wp2_with fail
  generalize w.alloc (.cells #[.int .i64 0, .int .i64 0, .int .i64 0, .int .i64 0, .int .i64 0, .int .i64 0, .int .i64 0, .int .i64 0, .int .i64 0, .int .i64 0, .string ⟨#[]⟩, .slice none 0 0] 40) = w0 at *
  go_region_held3 (fun _ => True) (first | exact trivial) (first | (go_at_call 35; refine (HC.out _).mono ?_; rintro e w1 ⟨rfl, hb1⟩))
  have hb1' : Below w0.heap.size w0 w1 := bel_trans (below_drewN (Below.refl w0.heap.size _) 1) hb1
  have R1 : Hid (BoxP w1 w.heap.size zeroP none 0) := R0.out.below hb1'
  have B1 : Hid (Below w.heap.size w w1) := bel_trans B0.out hb1'
  have hlt : w.heap.size < w1.heap.size := by have := hb1'.size; have := S0.out; omega
  clear hb1 hb1' R0 B0 S0
  obtain ⟨w2, hw2⟩ : ∃ w2, w1.alloc (.cells #[.string s, .int .i64 0, .bool false] 83) = w2 := ⟨_, rfl⟩
  have hb2 : Below w1.heap.size w1 w2 := by rw [← hw2]; exact (Below.refl _ _).alloc (Nat.le_refl _) _
  have A2 : Hid (TkAt w2 w1.heap.size s ⟨0, false⟩) := by
    show TkAt _ _ _ _
    rw [← hw2]; exact newTk w1 s _
  have R2 : Hid (BoxP w2 w.heap.size zeroP none 0) := R1.out.below hb2
  have B2 : Hid (Below w.heap.size w w2) := bel_trans B1.out hb2
  go_wp2_with fail
  generalize w1.heap.size = b at *
  clear R1 B1 hb2 hw2 HC
  refine (N0.out _ _ A2.out).mono ?_; rintro e w3 ⟨rfl, hT, hU⟩
  have A3 : Hid (TkAt w3 b s ⟨1, false⟩) := hT
  have R3 : Hid (BoxP w3 w.heap.size zeroP none 0) := R2.out.turn hU (by omega)
  have B3 : Hid (Below w.heap.size w w3) := B2.out.trans (hU.bel.mono (by omega))
  clear hT hU A2 R2 B2 N0
  go_wp2_with fail
  refine (N1.out _ _ A3.out).mono ?_; rintro e w4 ⟨rfl, hT, hU⟩
  have A4 : Hid (TkAt w4 b s ⟨2, false⟩) := hT
  have R4 : Hid (BoxP w4 w.heap.size zeroP none 0) := R3.out.turn hU (by omega)
  have B4 : Hid (Below w.heap.size w w4) := B3.out.trans (hU.bel.mono (by omega))
  clear hT hU A3 R3 B3 N1
  go_wp2_with fail
  obtain ⟨w5, hw5⟩ : ∃ w5, w4.alloc (.cells #[.int .i64 v0, .int .i64 v1, .int .i64 0, .int .i64 0, .int .i64 0, .int .i64 0, .int .i64 0, .int .i64 0, .int .i64 0, .int .i64 0, .string ⟨#[]⟩, .slice none 0 0] 40) = w5 := ⟨_, rfl⟩
  have hb5 : Below w4.heap.size w4 w5 := by rw [← hw5]; exact (Below.refl _ _).alloc (Nat.le_refl _) _
  have X5 : Hid (BoxP w5 w4.heap.size ⟨v0, v1, 0, 0, 0, 0, 0, 0, 0, 0, ⟨#[]⟩, []⟩ none 0) := by
    show BoxP _ _ _ _ _
    rw [← hw5]; exact BoxP.new w4 ⟨v0, v1, 0, 0, 0, 0, 0, 0, 0, 0, ⟨#[]⟩, []⟩ none 0
  have A5 : Hid (TkAt w5 b s ⟨2, false⟩) := A4.out.below hb5 A4.out.lt
  have R5 : Hid (BoxP w5 w.heap.size zeroP none 0) := R4.out.below hb5
  have B5 : Hid (Below w.heap.size w w5) := bel_trans B4.out hb5
  have hbq : b < w4.heap.size := A4.out.lt
  rw [hw5]
  generalize w4.heap.size = q at *
  clear A4 R4 B4 hb5 hw5
  refine (N2.out _ _ A5.out).mono ?_; rintro e w6a ⟨rfl, hT, hU⟩
  have A6a : Hid (TkAt w6a b s ⟨3, false⟩) := hT
  have R6a : Hid (BoxP w6a w.heap.size zeroP none 0) := R5.out.turn hU (by omega)
  have B6a : Hid (Below w.heap.size w w6a) := B5.out.trans (hU.bel.mono (by omega))
  have X6a : Hid (BoxP w6a q ⟨v0, v1, 0, 0, 0, 0, 0, 0, 0, 0, ⟨#[]⟩, []⟩ none 0) := X5.out.turn hU (by omega)
  clear hT hU A5 R5 B5 N2
  clear X5
  go_wp2_with fail
  refine (N3.out _ _ A6a.out).mono ?_; rintro e w7a ⟨rfl, hT, hU⟩
  have A7a : Hid (TkAt w7a b s ⟨4, false⟩) := hT
  have R7a : Hid (BoxP w7a w.heap.size zeroP none 0) := R6a.out.turn hU (by omega)
  have B7a : Hid (Below w.heap.size w w7a) := B6a.out.trans (hU.bel.mono (by omega))
  have X7a : Hid (BoxP w7a q ⟨v0, v1, 0, 0, 0, 0, 0, 0, 0, 0, ⟨#[]⟩, []⟩ none 0) := X6a.out.turn hU (by omega)
  clear hT hU A6a R6a B6a N3
  clear X6a
  have cc : w7a.cell? ⟨q, 2, none⟩ = some (.int .i64 0) := X7a.out.cell 2
  have ff := X7a.out.fz 2
  obtain ⟨w7, hw⟩ : ∃ w7, w7a.setCell ⟨q, 2, none⟩ (.int .i64 v3) = w7 := ⟨_, rfl⟩
  have X7 : Hid (BoxP w7 q ⟨v0, v1, v3, 0, 0, 0, 0, 0, 0, 0, ⟨#[]⟩, []⟩ none 0) := by
    show BoxP _ _ _ _ _
    rw [← hw]; exact X7a.out.set 2 _ rfl
  have A7 : Hid (TkAt w7 b s ⟨4, false⟩) := by
    show TkAt _ _ _ _
    rw [← hw]; exact A7a.out.store (by omega) 2 _
  have R7 : Hid (BoxP w7 w.heap.size zeroP none 0) := by
    show BoxP _ _ _ _ _
    rw [← hw]; exact R7a.out.other (by omega) 2 _
  have B7 : Hid (Below w.heap.size w w7) := by
    show Below _ _ _
    rw [← hw]; exact B7a.out.setCell (show w.heap.size ≤ (⟨q, 2, none⟩ : Addr).block from by show w.heap.size ≤ q; omega) _
  clear A7a R7a B7a X7a
  go_wp2_with fail
  clear hw cc ff
  refine (N4.out _ _ A7.out).mono ?_; rintro e w8a ⟨rfl, hT, hU⟩
  have A8a : Hid (TkAt w8a b s ⟨8, false⟩) := hT
  have R8a : Hid (BoxP w8a w.heap.size zeroP none 0) := R7.out.turn hU (by omega)
  have B8a : Hid (Below w.heap.size w w8a) := B7.out.trans (hU.bel.mono (by omega))
  have X8a : Hid (BoxP w8a q ⟨v0, v1, v3, 0, 0, 0, 0, 0, 0, 0, ⟨#[]⟩, []⟩ none 0) := X7.out.turn hU (by omega)
  clear hT hU A7 R7 B7 N4
  clear X7
  have cc : w8a.cell? ⟨q, 3, none⟩ = some (.int .i64 0) := X8a.out.cell 3
  have ff := X8a.out.fz 3
  obtain ⟨w8, hw⟩ : ∃ w8, w8a.setCell ⟨q, 3, none⟩ (.int .i64 v4) = w8 := ⟨_, rfl⟩
  have X8 : Hid (BoxP w8 q ⟨v0, v1, v3, v4, 0, 0, 0, 0, 0, 0, ⟨#[]⟩, []⟩ none 0) := by
    show BoxP _ _ _ _ _
    rw [← hw]; exact X8a.out.set 3 _ rfl
  have A8 : Hid (TkAt w8 b s ⟨8, false⟩) := by
    show TkAt _ _ _ _
    rw [← hw]; exact A8a.out.store (by omega) 3 _
  have R8 : Hid (BoxP w8 w.heap.size zeroP none 0) := by
    show BoxP _ _ _ _ _
    rw [← hw]; exact R8a.out.other (by omega) 3 _
  have B8 : Hid (Below w.heap.size w w8) := by
    show Below _ _ _
    rw [← hw]; exact B8a.out.setCell (show w.heap.size ≤ (⟨q, 3, none⟩ : Addr).block from by show w.heap.size ≤ q; omega) _
  clear A8a R8a B8a X8a
  go_wp2_with fail
  clear hw cc ff
  refine (N5.out _ _ A8.out).mono ?_; rintro e w9a ⟨rfl, hT, hU⟩
  have A9a : Hid (TkAt w9a b s ⟨10, false⟩) := hT
  have R9a : Hid (BoxP w9a w.heap.size zeroP none 0) := R8.out.turn hU (by omega)
  have B9a : Hid (Below w.heap.size w w9a) := B8.out.trans (hU.bel.mono (by omega))
  have X9a : Hid (BoxP w9a q ⟨v0, v1, v3, v4, 0, 0, 0, 0, 0, 0, ⟨#[]⟩, []⟩ none 0) := X8.out.turn hU (by omega)
  clear hT hU A8 R8 B8 N5
  clear X8
  have cc : w9a.cell? ⟨q, 4, none⟩ = some (.int .i64 0) := X9a.out.cell 4
  have ff := X9a.out.fz 4
  obtain ⟨w9, hw⟩ : ∃ w9, w9a.setCell ⟨q, 4, none⟩ (.int .i64 v5) = w9 := ⟨_, rfl⟩
  have X9 : Hid (BoxP w9 q ⟨v0, v1, v3, v4, v5, 0, 0, 0, 0, 0, ⟨#[]⟩, []⟩ none 0) := by
    show BoxP _ _ _ _ _
    rw [← hw]; exact X9a.out.set 4 _ rfl
  have A9 : Hid (TkAt w9 b s ⟨10, false⟩) := by
    show TkAt _ _ _ _
    rw [← hw]; exact A9a.out.store (by omega) 4 _
  have R9 : Hid (BoxP w9 w.heap.size zeroP none 0) := by
    show BoxP _ _ _ _ _
    rw [← hw]; exact R9a.out.other (by omega) 4 _
  have B9 : Hid (Below w.heap.size w w9) := by
    show Below _ _ _
    rw [← hw]; exact B9a.out.setCell (show w.heap.size ≤ (⟨q, 4, none⟩ : Addr).block from by show w.heap.size ≤ q; omega) _
  clear A9a R9a B9a X9a
  go_wp2_with fail
  clear hw cc ff
  refine (N6.out _ _ A9.out).mono ?_; rintro e w10a ⟨rfl, hT, hU⟩
  have A10a : Hid (TkAt w10a b s ⟨12, false⟩) := hT
  have R10a : Hid (BoxP w10a w.heap.size zeroP none 0) := R9.out.turn hU (by omega)
  have B10a : Hid (Below w.heap.size w w10a) := B9.out.trans (hU.bel.mono (by omega))
  have X10a : Hid (BoxP w10a q ⟨v0, v1, v3, v4, v5, 0, 0, 0, 0, 0, ⟨#[]⟩, []⟩ none 0) := X9.out.turn hU (by omega)
  clear hT hU A9 R9 B9 N6
  clear X9
  have cc : w10a.cell? ⟨q, 5, none⟩ = some (.int .i64 0) := X10a.out.cell 5
  have ff := X10a.out.fz 5
  obtain ⟨w10, hw⟩ : ∃ w10, w10a.setCell ⟨q, 5, none⟩ (.int .i64 v6) = w10 := ⟨_, rfl⟩
  have X10 : Hid (BoxP w10 q ⟨v0, v1, v3, v4, v5, v6, 0, 0, 0, 0, ⟨#[]⟩, []⟩ none 0) := by
    show BoxP _ _ _ _ _
    rw [← hw]; exact X10a.out.set 5 _ rfl
  have A10 : Hid (TkAt w10 b s ⟨12, false⟩) := by
    show TkAt _ _ _ _
    rw [← hw]; exact A10a.out.store (by omega) 5 _
  have R10 : Hid (BoxP w10 w.heap.size zeroP none 0) := by
    show BoxP _ _ _ _ _
    rw [← hw]; exact R10a.out.other (by omega) 5 _
  have B10 : Hid (Below w.heap.size w w10) := by
    show Below _ _ _
    rw [← hw]; exact B10a.out.setCell (show w.heap.size ≤ (⟨q, 5, none⟩ : Addr).block from by show w.heap.size ≤ q; omega) _
  clear A10a R10a B10a X10a
  go_wp2_with fail
  clear hw cc ff
  refine (N7.out _ _ A10.out).mono ?_; rintro e w11a ⟨rfl, hT, hU⟩
  have A11a : Hid (TkAt w11a b s ⟨16, false⟩) := hT
  have R11a : Hid (BoxP w11a w.heap.size zeroP none 0) := R10.out.turn hU (by omega)
  have B11a : Hid (Below w.heap.size w w11a) := B10.out.trans (hU.bel.mono (by omega))
  have X11a : Hid (BoxP w11a q ⟨v0, v1, v3, v4, v5, v6, 0, 0, 0, 0, ⟨#[]⟩, []⟩ none 0) := X10.out.turn hU (by omega)
  clear hT hU A10 R10 B10 N7
  clear X10
  have cc : w11a.cell? ⟨q, 6, none⟩ = some (.int .i64 0) := X11a.out.cell 6
  have ff := X11a.out.fz 6
  obtain ⟨w11, hw⟩ : ∃ w11, w11a.setCell ⟨q, 6, none⟩ (.int .i64 v7) = w11 := ⟨_, rfl⟩
  have X11 : Hid (BoxP w11 q ⟨v0, v1, v3, v4, v5, v6, v7, 0, 0, 0, ⟨#[]⟩, []⟩ none 0) := by
    show BoxP _ _ _ _ _
    rw [← hw]; exact X11a.out.set 6 _ rfl
  have A11 : Hid (TkAt w11 b s ⟨16, false⟩) := by
    show TkAt _ _ _ _
    rw [← hw]; exact A11a.out.store (by omega) 6 _
  have R11 : Hid (BoxP w11 w.heap.size zeroP none 0) := by
    show BoxP _ _ _ _ _
    rw [← hw]; exact R11a.out.other (by omega) 6 _
  have B11 : Hid (Below w.heap.size w w11) := by
    show Below _ _ _
    rw [← hw]; exact B11a.out.setCell (show w.heap.size ≤ (⟨q, 6, none⟩ : Addr).block from by show w.heap.size ≤ q; omega) _
  clear A11a R11a B11a X11a
  go_wp2_with fail
  clear hw cc ff
  refine (N8.out _ _ A11.out).mono ?_; rintro e w12a ⟨rfl, hT, hU⟩
  have A12a : Hid (TkAt w12a b s ⟨20, false⟩) := hT
  have R12a : Hid (BoxP w12a w.heap.size zeroP none 0) := R11.out.turn hU (by omega)
  have B12a : Hid (Below w.heap.size w w12a) := B11.out.trans (hU.bel.mono (by omega))
  have X12a : Hid (BoxP w12a q ⟨v0, v1, v3, v4, v5, v6, v7, 0, 0, 0, ⟨#[]⟩, []⟩ none 0) := X11.out.turn hU (by omega)
  clear hT hU A11 R11 B11 N8
  clear X11
  have cc : w12a.cell? ⟨q, 7, none⟩ = some (.int .i64 0) := X12a.out.cell 7
  have ff := X12a.out.fz 7
  obtain ⟨w12, hw⟩ : ∃ w12, w12a.setCell ⟨q, 7, none⟩ (.int .i64 v8) = w12 := ⟨_, rfl⟩
  have X12 : Hid (BoxP w12 q ⟨v0, v1, v3, v4, v5, v6, v7, v8, 0, 0, ⟨#[]⟩, []⟩ none 0) := by
    show BoxP _ _ _ _ _
    rw [← hw]; exact X12a.out.set 7 _ rfl
  have A12 : Hid (TkAt w12 b s ⟨20, false⟩) := by
    show TkAt _ _ _ _
    rw [← hw]; exact A12a.out.store (by omega) 7 _
  have R12 : Hid (BoxP w12 w.heap.size zeroP none 0) := by
    show BoxP _ _ _ _ _
    rw [← hw]; exact R12a.out.other (by omega) 7 _
  have B12 : Hid (Below w.heap.size w w12) := by
    show Below _ _ _
    rw [← hw]; exact B12a.out.setCell (show w.heap.size ≤ (⟨q, 7, none⟩ : Addr).block from by show w.heap.size ≤ q; omega) _
  clear A12a R12a B12a X12a
  go_wp2_with fail
  clear hw cc ff
  refine (N9.out _ _ A12.out).mono ?_; rintro e w13a ⟨rfl, hT, hU⟩
  have A13a : Hid (TkAt w13a b s ⟨24, false⟩) := hT
  have R13a : Hid (BoxP w13a w.heap.size zeroP none 0) := R12.out.turn hU (by omega)
  have B13a : Hid (Below w.heap.size w w13a) := B12.out.trans (hU.bel.mono (by omega))
  have X13a : Hid (BoxP w13a q ⟨v0, v1, v3, v4, v5, v6, v7, v8, 0, 0, ⟨#[]⟩, []⟩ none 0) := X12.out.turn hU (by omega)
  clear hT hU A12 R12 B12 N9
  clear X12
  have cc : w13a.cell? ⟨q, 8, none⟩ = some (.int .i64 0) := X13a.out.cell 8
  have ff := X13a.out.fz 8
  obtain ⟨w13, hw⟩ : ∃ w13, w13a.setCell ⟨q, 8, none⟩ (.int .i64 v9) = w13 := ⟨_, rfl⟩
  have X13 : Hid (BoxP w13 q ⟨v0, v1, v3, v4, v5, v6, v7, v8, v9, 0, ⟨#[]⟩, []⟩ none 0) := by
    show BoxP _ _ _ _ _
    rw [← hw]; exact X13a.out.set 8 _ rfl
  have A13 : Hid (TkAt w13 b s ⟨24, false⟩) := by
    show TkAt _ _ _ _
    rw [← hw]; exact A13a.out.store (by omega) 8 _
  have R13 : Hid (BoxP w13 w.heap.size zeroP none 0) := by
    show BoxP _ _ _ _ _
    rw [← hw]; exact R13a.out.other (by omega) 8 _
  have B13 : Hid (Below w.heap.size w w13) := by
    show Below _ _ _
    rw [← hw]; exact B13a.out.setCell (show w.heap.size ≤ (⟨q, 8, none⟩ : Addr).block from by show w.heap.size ≤ q; omega) _
  clear A13a R13a B13a X13a
  go_wp2_with fail
  clear hw cc ff
  refine (N10.out _ _ A13.out).mono ?_; rintro e w14a ⟨rfl, hT, hU⟩
  have A14a : Hid (TkAt w14a b s ⟨28, false⟩) := hT
  have R14a : Hid (BoxP w14a w.heap.size zeroP none 0) := R13.out.turn hU (by omega)
  have B14a : Hid (Below w.heap.size w w14a) := B13.out.trans (hU.bel.mono (by omega))
  have X14a : Hid (BoxP w14a q ⟨v0, v1, v3, v4, v5, v6, v7, v8, v9, 0, ⟨#[]⟩, []⟩ none 0) := X13.out.turn hU (by omega)
  clear hT hU A13 R13 B13 N10
  clear X13
  have cc : w14a.cell? ⟨q, 9, none⟩ = some (.int .i64 0) := X14a.out.cell 9
  have ff := X14a.out.fz 9
  obtain ⟨w14, hw⟩ : ∃ w14, w14a.setCell ⟨q, 9, none⟩ (.int .i64 v10) = w14 := ⟨_, rfl⟩
  have X14 : Hid (BoxP w14 q ⟨v0, v1, v3, v4, v5, v6, v7, v8, v9, v10, ⟨#[]⟩, []⟩ none 0) := by
    show BoxP _ _ _ _ _
    rw [← hw]; exact X14a.out.set 9 _ rfl
  have A14 : Hid (TkAt w14 b s ⟨28, false⟩) := by
    show TkAt _ _ _ _
    rw [← hw]; exact A14a.out.store (by omega) 9 _
  have R14 : Hid (BoxP w14 w.heap.size zeroP none 0) := by
    show BoxP _ _ _ _ _
    rw [← hw]; exact R14a.out.other (by omega) 9 _
  have B14 : Hid (Below w.heap.size w w14) := by
    show Below _ _ _
    rw [← hw]; exact B14a.out.setCell (show w.heap.size ≤ (⟨q, 9, none⟩ : Addr).block from by show w.heap.size ≤ q; omega) _
  clear A14a R14a B14a X14a
  have cc2 : w14.cell? ⟨q, 10, none⟩ = some (.string ⟨#[]⟩) := X14.out.cell 10
  have ff2 := X14.out.fz 10
  obtain ⟨w15, hw2⟩ : ∃ w15, w14.setCell ⟨q, 10, none⟩ (.string CH) = w15 := ⟨_, rfl⟩
  have X15 : Hid (BoxP w15 q ⟨v0, v1, v3, v4, v5, v6, v7, v8, v9, v10, CH, []⟩ none 0) := by
    show BoxP _ _ _ _ _
    rw [← hw2]; exact X14.out.set 10 _ rfl
  have R15 : Hid (BoxP w15 w.heap.size zeroP none 0) := by
    show BoxP _ _ _ _ _
    rw [← hw2]; exact R14.out.other (by omega) 10 _
  have B15 : Hid (Below w.heap.size w w15) := by
    show Below _ _ _
    rw [← hw2]; exact B14.out.setCell (show w.heap.size ≤ (⟨q, 10, none⟩ : Addr).block from by show w.heap.size ≤ q; omega) _
  have hwk : IntKind.i64.wrap (28 + (kn : Int)) = ((28 + kn : Nat) : Int) := by rw [wrap_in _ (by omega) (by omega)]; omega
  have hwk2 : wrap64 (28 + (kn : Int)) = ((28 + kn : Nat) : Int) := by unfold wrap64; omega
  have hk28 : 28 + kn ≤ s.size := by omega
  have hce := HCH.out
  clear A14 R14 B14 X14
  go_upto_region 14 with fail
  go_cut [] from 14 to 67 (fun wx => w15 = wx)
  case first =>
    go_wp2_with fail
    go_meet
    rfl
  case rest =>
  subst hcut
  clear hw cc ff hw2 cc2 ff2 hd1 hd2 hbt hwk hwk2 hce
  go_wp2_with fail
  cases hg : getO r [] with
  | none =>
    obtain rfl : RES = none := by rw [← HRES.out, optsP_no hg]
    simp only [hg] at HG
    refine (HG.out _).mono ?_; rintro e w16 ⟨rfl, hb⟩
    have R16 : Hid (BoxP w16 w.heap.size zeroP none 0) := R15.out.below hb
    have B16 : Hid (Below w.heap.size w w16) := bel_trans B15.out hb
    clear hb R15 B15 HG X15
    obtain ⟨r0, r1, r2, r3, r4, r5, r6, r7, r8, r9, r10, r11⟩ := R16.out.all
    simp only [zeroP, List.length_nil] at r0 r1 r2 r3 r4 r5 r6 r7 r8 r9 r10 r11
    have p0 := R16.out.fz 0
    have p1 := R16.out.fz 1
    have p2 := R16.out.fz 2
    have p3 := R16.out.fz 3
    have p4 := R16.out.fz 4
    have p5 := R16.out.fz 5
    have p6 := R16.out.fz 6
    have p7 := R16.out.fz 7
    have p8 := R16.out.fz 8
    have p9 := R16.out.fz 9
    have p10 := R16.out.fz 10
    have p11 := R16.out.fz 11
    have Q := layP_box R16.out zeroP none 0
    have V0 := layP_below B16.out (Nat.le_refl _) zeroP none 0
    obtain ⟨wz, hwz⟩ : ∃ wz, layP w16 w.heap.size zeroP none 0 = wz := ⟨_, rfl⟩
    rw [hwz] at Q V0
    have V : Hid (Below w.heap.size w wz) := V0
    obtain ⟨a0, a1, a2, a3, a4, a5, a6, a7, a8, a9, a10, a11⟩ := Q.all
    simp only [layP, zeroP, List.length_nil] at hwz a0 a1 a2 a3 a4 a5 a6 a7 a8 a9 a10 a11
    clear R16 B16 Q V0 HM HO1 HO2 HCH hsz hk28 hk hs h0 h0' hkn HRES hg
    go_upto_region 17 with fail
    go_cut [3] from 76 to 76 (fun ev wx => ev = .int .i64 700 ∧ wz = wx)
    case first =>
      go_wp2_with fail
      go_meet
      exact ⟨rfl, rfl⟩
    case rest =>
    obtain ⟨rfl, rfl⟩ := hcut
    repeat go_step
    refine bodyPost_ret (v := .tuple #[.agg #[.int .i64 0, .int .i64 0, .int .i64 0, .int .i64 0, .int .i64 0, .int .i64 0, .int .i64 0, .int .i64 0, .int .i64 0, .int .i64 0, .string ⟨#[]⟩, .slice none 0 0], .int .i64 700]) (by simp [results, Try.results14, go_sem, a0, a1, a2, a3, a4, a5, a6, a7, a8, a9, a10, a11]) rfl ⟨rfl, V.out⟩
  | some a =>
    have ma := getO_may hg
    simp only [hg] at HG
    refine (HG.out _).mono ?_; rintro e w16 ⟨⟨v, rfl, hO⟩, hb⟩
    have hqw : q < w15.heap.size := X15.out.lt
    obtain ⟨oa, oc, rfl, hl⟩ := hO.lies
    have NPL : Hid (∀ x, oa = some x → q + 1 ≤ x.block) := fun x hx => by have := hO.place x hx; omega
    have L16 : Hid (OpLies w16 oa a) := hl
    have X16 : Hid (BoxP w16 q ⟨v0, v1, v3, v4, v5, v6, v7, v8, v9, v10, CH, []⟩ none 0) := X15.out.below hb
    have R16 : Hid (BoxP w16 w.heap.size zeroP none 0) := R15.out.below hb
    have B16 : Hid (Below w.heap.size w w16) := bel_trans B15.out hb
    have h32 := ma.1
    have HF : Hid (∀ w, OpLies w oa a → _) := fun w h => rFind_c oa oc a 52 w (by omega) h
    clear hb R15 B15 HG X15 hO hl
    go_wp2_with fail
    refine (HF.out _ L16.out).mono ?_; rintro e w17 ⟨rfl, rfl⟩
    clear HF
    have NP : Hid (∀ x, oa = some x → q + 1 ≤ x.block) := NPL
    have hcase := ov_case a
    have hov : mk (findA a 52).1 = mk (ovr a) := rfl
    rw [hov]
    have HOT : Hid (_) := ovT_true a
    obtain ⟨T, hT⟩ : ∃ T, mk (ovr a) = T := ⟨_, rfl⟩
    rw [hT] at hcase HOT
    rw [hT]
    obtain ⟨fv, hfv⟩ : ∃ fv, (findA a 52).2 = fv := ⟨_, rfl⟩
    rw [hfv] at hcase
    rw [hfv]
    clear hfv
    have hgT := get_bt T
    clear hov hT
    go_upto_region 19 with fail
    go_cut [97] from 82 to 97 (fun cv wx => cv = .bool (ovT a) ∧ w17 = wx)
    case first =>
      rcases hcase with ⟨rfl, ht⟩ | ⟨rfl, hz, ht⟩ | ⟨rfl, hz, hz1, ht⟩ | ⟨rfl, hz, hz1, ht⟩
      · go_wp2_with fail
        go_meet
        exact ⟨by rw [ht], rfl⟩
      · have hq : ((T.size : Int) == 1) = false := by simp; omega
        go_wp2_with fail
        go_meet
        exact ⟨by rw [ht], rfl⟩
      · have hq : ((T.size : Int) == 1) = true := by simp; omega
        have hq0 : (0 : Int) < (T.size : Int) := by omega
        have hq1 : decide (1 ≤ bt T 0) = false := by simp; omega
        go_wp2_with fail
        go_meet
        exact ⟨by rw [ht], rfl⟩
      · have hq : ((T.size : Int) == 1) = true := by simp; omega
        have hq0 : (0 : Int) < (T.size : Int) := by omega
        have hq1 : decide (1 ≤ bt T 0) = true := by simp; omega
        go_wp2_with fail
        go_meet
        exact ⟨by rw [ht], rfl⟩
    case rest =>
    obtain ⟨rfl, hwc⟩ := hcut
    subst hwc
    clear hcase
    have HWS : Hid (q < w17.heap.size) := X16.out.lt
    obtain ⟨tv, htv⟩ : ∃ tv, ovT a = tv := ⟨_, rfl⟩
    have HTV : Hid (ovT a = tv) := htv
    rw [htv]
    clear htv
    go_upto_if 97 with fail
    go_cut [7] from 98 to 143 (fun ov wx => ∃ (oa' : Option Addr) (oc' : Nat) (os : List Opn), ov = .slice oa' os.length oc' ∧ Hid (OpLies wx oa' os) ∧ Hid (∀ x, oa' = some x → q + 1 ≤ x.block) ∧ Hid (BoxP wx q ⟨v0, v1, v3, v4, v5, v6, v7, v8, v9, v10, CH, []⟩ none 0) ∧ Hid (BoxP wx w.heap.size zeroP none 0) ∧ Hid (Below w.heap.size w wx) ∧ Hid (RES = fin os) ∧ Hid (os.length ≤ 1000))
    case first =>
      cases tv with
      | false =>
        have ht : ovT a = false := HTV.out
        have HRF : Hid (RES = fin a) := by
          show _ = _
          obtain ⟨n1, n2, n3⟩ := ovT_false a ht
          rw [← HRES.out, optsP_0 hg n1 n2 n3]
          unfold fin; rw [if_pos (by simpa [mayO] using ma)]
        clear ht
        go_wp2_with fail
        go_meet
        exact ⟨oa, oc, a, rfl, L16, NP, X16, R16, B16, HRF, by show _ ≤ _; omega⟩
      | true =>
        have ht : ovT a = true := HTV.out
        obtain ⟨x, hx3, hxo, hT0, hTs⟩ := HOT.out ht
        clear ht
        have HWT : Hid (∀ j, j < a.length → wo (a.take (j + 1)) = wo (a.take j) ++ (if (opAt a j).1 ≠ 52 then [opAt a j] else [])) := fun j hj => wo_take hj
        have HWL : Hid (∀ j, (wo (a.take j)).length ≤ 32) := fun j => by
          have h1 := wo_len (a.take j)
          rw [List.length_take] at h1
          show _ ≤ _
          omega
        have E1 : Hid (wo (a.take a.length) = wo a) := by show _ = _; rw [List.take_length]
        obtain ⟨i0, hi, hz0, hz1, hz2⟩ := info_parts Try.infoOp
        go_wp2_with fail
        go_loopg [11, 12] (a.length + 1) (fun k (rv iv : Value) wr => ∃ (j : Nat) (ra : Option Addr) (rc : Nat), iv = .int .i64 j ∧ j ≤ a.length ∧ rv = .slice ra (wo (a.take j)).length rc ∧ Hid (Opts wr w17.heap.size (.slice ra (wo (a.take j)).length rc) (wo (a.take j))) ∧ Hid (wo (a.take j) = [] → ra = none) ∧ Hid (Below w17.heap.size w17 wr) ∧ k = a.length - j + 1)
        case atStart => exact ⟨0, none, 0, rfl, Nat.zero_le _, rfl, World.ownsRow_nil _ _ _ _, fun _ => rfl, Below.refl _ _, rfl⟩
        case round =>
          obtain ⟨j, ra, rc, rfl, hj, rfl, hO, hN, C, hk⟩ := hrel
          have Hk : Hid (_) := hk
          clear hk
          by_cases hlt : j < a.length
          · have hlt' : (j : Int) < (a.length : Int) := by omega
            obtain ⟨y, rfl, hc⟩ : ∃ y, oa = some y ∧ OpFrom wr y a := by
              rcases L16.out.below C.out with h | ⟨y, h1, h2⟩
              · rw [h] at hlt; exact absurd hlt (Nat.not_lt_zero _)
              · exact ⟨y, h1, h2⟩
            obtain ⟨c0, c1⟩ := hc j hlt
            have hTj := HWT.out j hlt
            have hwl := HWL.out j
            have Hk2 : Hid (a.length - (j + 1) + 1 < gk) := by show _ < _; rw [Hk.out]; omega
            clear hc
            generalize opAt a j = o at *
            obtain ⟨cd, d⟩ := o
            simp only at c0 c1 hTj
            by_cases h52 : cd = 52
            · have Hn : Hid (wo (a.take (j + 1)) = wo (a.take j)) := by show _ = _; rw [hTj]; simp [h52]
              have hq : (cd != 52) = false := by simp [h52]
              clear hTj
              go_wp2_with fail
              go_roundg (a.length - (j + 1) + 1)
              case measure => exact Hk2.out
              case rel => exact ⟨j + 1, ra, rc, by go_num, by omega, by rw [Hn.out], by show Opts _ _ _ _; rw [Hn.out]; exact hO.out, by show _ → _; rw [Hn.out]; exact hN.out, C, rfl⟩
            · have Hn : Hid (wo (a.take (j + 1)) = wo (a.take j) ++ [(cd, d)]) := by show _ = _; rw [hTj]; simp [h52]
              have hq : (cd != 52) = true := by simpa using h52
              have hown : Hid (wr.ownsRow w17.heap.size 25 2 (.slice ra (wo (a.take j)).length rc) (wo (a.take j)).length (opCells (wo (a.take j)))) := hO.out
              have hle := C.out.size
              clear hTj hO
              go_wp2_with (first
                | (at_builtin; refine wpList_append_own _ rfl _ _ 23 rfl w17.heap.size 25 i0 (.agg #[.int .i64 0, .string ByteArray.empty]) 2 24 Try.underlying23 hi hz0 hz1 hz2 rfl (by decide) _ (wo (a.take j)).length (opCells (wo (a.take j))) rfl (World.ownsRow.alloc hown.out _) ⟨wr.heap.size, 0, none⟩ 1 1 [.int .i64 cd, .string (mk d)] rfl rfl ?c1 ?c2 ?c3 ?c4 ?c5 ?_)
                | fail)
              case c1 =>
                intro j u hj
                match j, hj with
                | 0, hj => simp at hj; subst hj; exact new_at _ _ _ 0 _ _ rfl rfl
                | 1, hj => simp at hj; subst hj; exact new_at _ _ _ 1 _ _ rfl rfl
              case c2 => intro u hu; simp at hu; rcases hu with rfl | rfl <;> rfl
              case c3 => unfold maxLen; omega
              case c4 => omega
              case c5 => first | omega | (simp; omega)
              intro v6 w6 hown6 hgrow6 _
              have R6 : Hid (Opts w6 w17.heap.size v6 (wo (a.take (j + 1)))) := by
                show Opts _ _ _ _
                rw [Hn.out]
                unfold Opts
                rw [opCells_append]
                have e : (wo (a.take j) ++ [(cd, d)]).length = (wo (a.take j)).length + 1 := by simp
                rw [e]
                exact hown6
              have B6 : Hid (Below w17.heap.size w17 w6) := (C.out.alloc hle _).grown hgrow6 (by simp; omega) (fun k hk => (World.ownsRow.lt hown.out k hk).1)
              obtain ⟨a6, c6, rfl, _⟩ := R6.out.lies
              clear hown6 hgrow6 hown
              go_wp2
              go_roundg (a.length - (j + 1) + 1)
              case measure => exact Hk2.out
              case rel => exact ⟨j + 1, a6, c6, by go_num, by omega, rfl, R6.out, fun e => by rw [Hn.out] at e; simp at e, B6, rfl⟩
          · obtain rfl : j = a.length := by omega
            have hO' := hO.out
            have hN' := hN.out
            rw [E1.out] at hO' hN'
            rw [E1.out]
            have LR : Hid (LiesN wr ra (wo a)) := by
              by_cases he : wo a = []
              · exact .inl ⟨he, hN' he⟩
              · exact hO'.liesN he
            have PR : Hid (∀ x, ra = some x → q + 1 ≤ x.block) := fun x hx => by have := hO'.place x hx; have := HWS.out; omega
            have WL : Hid ((wo a).length ≤ 32) := by have := wo_len a; show _ ≤ _; omega
            have WD : Hid (∀ o ∈ wo a, o.2.length ≤ 512) := fun o ho => ((okO_iff o).1 (ma.2.1 o (List.mem_filter.1 ho).1)).2.2
            have Xr : Hid (BoxP wr q ⟨v0, v1, v3, v4, v5, v6, v7, v8, v9, v10, CH, []⟩ none 0) := X16.out.below C.out
            have Rr : Hid (BoxP wr w.heap.size zeroP none 0) := R16.out.below C.out
            have Br : Hid (Below w.heap.size w wr) := bel_trans B16.out C.out
            have HQr : Hid (q + 1 ≤ wr.heap.size) := Xr.out.lt
            clear hO' hN' hO hN C X16 R16 B16 L16 HWT HWL E1
            rcases hx3 with rfl | rfl | rfl
            · have hT1 : bt T 0 = 1 := hT0
              have hq0 : (0 : Int) < (T.size : Int) := by omega
              go_wp2_with fail
              have HC1 := HO1.out ra rc (wo a) wr (q + 1) HQr.out (by have := WL.out; omega) (fun o ho => by have := WD.out o ho; omega) LR.out PR.out
              cases hf1 : getO file [] with
              | none =>
                obtain rfl : RES = none := by rw [← HRES.out, optsP_1 hg hxo, hf1]; rfl
                simp only [hf1] at HC1
                refine HC1.mono ?_; rintro e z1 ⟨rfl, hb⟩
                have R9 : Hid (BoxP z1 w.heap.size zeroP none 0) := Rr.out.below hb
                have B9 : Hid (Below w.heap.size w z1) := bel_trans Br.out hb
                clear hb HC1 Xr Rr Br
                obtain ⟨r0, r1, r2, r3, r4, r5, r6, r7, r8, r9, r10, r11⟩ := R9.out.all
                simp only [zeroP, List.length_nil] at r0 r1 r2 r3 r4 r5 r6 r7 r8 r9 r10 r11
                have p0 := R9.out.fz 0
                have p1 := R9.out.fz 1
                have p2 := R9.out.fz 2
                have p3 := R9.out.fz 3
                have p4 := R9.out.fz 4
                have p5 := R9.out.fz 5
                have p6 := R9.out.fz 6
                have p7 := R9.out.fz 7
                have p8 := R9.out.fz 8
                have p9 := R9.out.fz 9
                have p10 := R9.out.fz 10
                have p11 := R9.out.fz 11
                have Q := layP_box R9.out zeroP none 0
                have V0 := layP_below B9.out (Nat.le_refl _) zeroP none 0
                obtain ⟨wz, hwz⟩ : ∃ wz, layP z1 w.heap.size zeroP none 0 = wz := ⟨_, rfl⟩
                rw [hwz] at Q V0
                have V : Hid (Below w.heap.size w wz) := V0
                obtain ⟨a0, a1, a2, a3, a4, a5, a6, a7, a8, a9, a10, a11⟩ := Q.all
                simp only [layP, zeroP, List.length_nil] at hwz a0 a1 a2 a3 a4 a5 a6 a7 a8 a9 a10 a11
                clear R9 B9 Q V0 
                go_upto_region 33 with fail
                go_cut [3] from 143 to 143 (fun ev wx => ev = .int .i64 700 ∧ wz = wx)
                case first =>
                  go_wp2_with fail
                  go_meet
                  exact ⟨rfl, rfl⟩
                case rest =>
                obtain ⟨rfl, rfl⟩ := hcut
                repeat go_step
                refine bodyPost_ret (v := .tuple #[.agg #[.int .i64 0, .int .i64 0, .int .i64 0, .int .i64 0, .int .i64 0, .int .i64 0, .int .i64 0, .int .i64 0, .int .i64 0, .int .i64 0, .string ⟨#[]⟩, .slice none 0 0], .int .i64 700]) (by simp [results, Try.results14, go_sem, a0, a1, a2, a3, a4, a5, a6, a7, a8, a9, a10, a11]) rfl ⟨rfl, V.out⟩
              | some b1 =>
                have mb1 := getO_may hf1
                have WB1 : Hid (∀ o ∈ wo b1, o.2.length ≤ 512) := fun o ho => ((okO_iff o).1 (mb1.2.1 o (List.mem_filter.1 ho).1)).2.2
                have WM1 : Hid ((wo b1).length ≤ 32) := by have h1 := wo_len b1; have h2 := mb1.1; show _ ≤ _; omega
                simp only [hf1] at HC1
                refine HC1.mono ?_; rintro e z1 ⟨⟨ya1, yc1, rfl, hL, hP⟩, hb⟩
                have L1z : Hid (LiesN z1 ya1 (joinAll (wo a) (wo b1))) := hL
                have P1z : Hid (∀ x, ya1 = some x → q + 1 ≤ x.block) := hP
                have X1z : Hid (BoxP z1 q ⟨v0, v1, v3, v4, v5, v6, v7, v8, v9, v10, CH, []⟩ none 0) := Xr.out.below hb
                have R1z : Hid (BoxP z1 w.heap.size zeroP none 0) := Rr.out.below hb
                have B1z : Hid (Below w.heap.size w z1) := bel_trans Br.out hb
                have HQ1z : Hid (q + 1 ≤ z1.heap.size) := X1z.out.lt
                clear hb hL hP HC1 Xr Rr Br LR PR
                go_wp2_with fail
                have HRF : Hid (RES = fin (joinAll (wo a) (wo b1))) := by show _ = _; rw [← HRES.out, optsP_1 hg hxo, hf1]; rfl
                go_meet
                exact ⟨ya1, yc1, (joinAll (wo a) (wo b1)), rfl, L1z.out.lies, P1z, X1z, R1z, B1z, HRF, by have h1 := (joinAll_size (wo b1) (wo a) 512 WD.out WB1.out).1; have h2 := WL.out; have h3 := WM1.out; show _ ≤ _; omega⟩
            · have hT2 : bt T 0 = 2 := hT0
              have hq0 : (0 : Int) < (T.size : Int) := by omega
              go_wp2_with fail
              have HC1 := HO2.out ra rc (wo a) wr (q + 1) HQr.out (by have := WL.out; omega) (fun o ho => by have := WD.out o ho; omega) LR.out PR.out
              cases hf1 : getO boot [] with
              | none =>
                obtain rfl : RES = none := by rw [← HRES.out, optsP_2 hg hxo, hf1]; rfl
                simp only [hf1] at HC1
                refine HC1.mono ?_; rintro e z1 ⟨rfl, hb⟩
                have R9 : Hid (BoxP z1 w.heap.size zeroP none 0) := Rr.out.below hb
                have B9 : Hid (Below w.heap.size w z1) := bel_trans Br.out hb
                clear hb HC1 Xr Rr Br
                obtain ⟨r0, r1, r2, r3, r4, r5, r6, r7, r8, r9, r10, r11⟩ := R9.out.all
                simp only [zeroP, List.length_nil] at r0 r1 r2 r3 r4 r5 r6 r7 r8 r9 r10 r11
                have p0 := R9.out.fz 0
                have p1 := R9.out.fz 1
                have p2 := R9.out.fz 2
                have p3 := R9.out.fz 3
                have p4 := R9.out.fz 4
                have p5 := R9.out.fz 5
                have p6 := R9.out.fz 6
                have p7 := R9.out.fz 7
                have p8 := R9.out.fz 8
                have p9 := R9.out.fz 9
                have p10 := R9.out.fz 10
                have p11 := R9.out.fz 11
                have Q := layP_box R9.out zeroP none 0
                have V0 := layP_below B9.out (Nat.le_refl _) zeroP none 0
                obtain ⟨wz, hwz⟩ : ∃ wz, layP z1 w.heap.size zeroP none 0 = wz := ⟨_, rfl⟩
                rw [hwz] at Q V0
                have V : Hid (Below w.heap.size w wz) := V0
                obtain ⟨a0, a1, a2, a3, a4, a5, a6, a7, a8, a9, a10, a11⟩ := Q.all
                simp only [layP, zeroP, List.length_nil] at hwz a0 a1 a2 a3 a4 a5 a6 a7 a8 a9 a10 a11
                clear R9 B9 Q V0 
                go_upto_region 33 with fail
                go_cut [3] from 143 to 143 (fun ev wx => ev = .int .i64 700 ∧ wz = wx)
                case first =>
                  go_wp2_with fail
                  go_meet
                  exact ⟨rfl, rfl⟩
                case rest =>
                obtain ⟨rfl, rfl⟩ := hcut
                repeat go_step
                refine bodyPost_ret (v := .tuple #[.agg #[.int .i64 0, .int .i64 0, .int .i64 0, .int .i64 0, .int .i64 0, .int .i64 0, .int .i64 0, .int .i64 0, .int .i64 0, .int .i64 0, .string ⟨#[]⟩, .slice none 0 0], .int .i64 700]) (by simp [results, Try.results14, go_sem, a0, a1, a2, a3, a4, a5, a6, a7, a8, a9, a10, a11]) rfl ⟨rfl, V.out⟩
              | some b1 =>
                have mb1 := getO_may hf1
                have WB1 : Hid (∀ o ∈ wo b1, o.2.length ≤ 512) := fun o ho => ((okO_iff o).1 (mb1.2.1 o (List.mem_filter.1 ho).1)).2.2
                have WM1 : Hid ((wo b1).length ≤ 32) := by have h1 := wo_len b1; have h2 := mb1.1; show _ ≤ _; omega
                simp only [hf1] at HC1
                refine HC1.mono ?_; rintro e z1 ⟨⟨ya1, yc1, rfl, hL, hP⟩, hb⟩
                have L1z : Hid (LiesN z1 ya1 (joinAll (wo a) (wo b1))) := hL
                have P1z : Hid (∀ x, ya1 = some x → q + 1 ≤ x.block) := hP
                have X1z : Hid (BoxP z1 q ⟨v0, v1, v3, v4, v5, v6, v7, v8, v9, v10, CH, []⟩ none 0) := Xr.out.below hb
                have R1z : Hid (BoxP z1 w.heap.size zeroP none 0) := Rr.out.below hb
                have B1z : Hid (Below w.heap.size w z1) := bel_trans Br.out hb
                have HQ1z : Hid (q + 1 ≤ z1.heap.size) := X1z.out.lt
                clear hb hL hP HC1 Xr Rr Br LR PR
                go_wp2_with fail
                have HRF : Hid (RES = fin (joinAll (wo a) (wo b1))) := by show _ = _; rw [← HRES.out, optsP_2 hg hxo, hf1]; rfl
                go_meet
                exact ⟨ya1, yc1, (joinAll (wo a) (wo b1)), rfl, L1z.out.lies, P1z, X1z, R1z, B1z, HRF, by have h1 := (joinAll_size (wo b1) (wo a) 512 WD.out WB1.out).1; have h2 := WL.out; have h3 := WM1.out; show _ ≤ _; omega⟩
            · have hT3 : bt T 0 = 3 := hT0
              have hq0 : (0 : Int) < (T.size : Int) := by omega
              go_wp2_with fail
              have HC1 := HO1.out ra rc (wo a) wr (q + 1) HQr.out (by have := WL.out; omega) (fun o ho => by have := WD.out o ho; omega) LR.out PR.out
              cases hf1 : getO file [] with
              | none =>
                obtain rfl : RES = none := by rw [← HRES.out, optsP_3 hg hxo, hf1]; rfl
                simp only [hf1] at HC1
                refine HC1.mono ?_; rintro e z1 ⟨rfl, hb⟩
                have R9 : Hid (BoxP z1 w.heap.size zeroP none 0) := Rr.out.below hb
                have B9 : Hid (Below w.heap.size w z1) := bel_trans Br.out hb
                clear hb HC1 Xr Rr Br
                obtain ⟨r0, r1, r2, r3, r4, r5, r6, r7, r8, r9, r10, r11⟩ := R9.out.all
                simp only [zeroP, List.length_nil] at r0 r1 r2 r3 r4 r5 r6 r7 r8 r9 r10 r11
                have p0 := R9.out.fz 0
                have p1 := R9.out.fz 1
                have p2 := R9.out.fz 2
                have p3 := R9.out.fz 3
                have p4 := R9.out.fz 4
                have p5 := R9.out.fz 5
                have p6 := R9.out.fz 6
                have p7 := R9.out.fz 7
                have p8 := R9.out.fz 8
                have p9 := R9.out.fz 9
                have p10 := R9.out.fz 10
                have p11 := R9.out.fz 11
                have Q := layP_box R9.out zeroP none 0
                have V0 := layP_below B9.out (Nat.le_refl _) zeroP none 0
                obtain ⟨wz, hwz⟩ : ∃ wz, layP z1 w.heap.size zeroP none 0 = wz := ⟨_, rfl⟩
                rw [hwz] at Q V0
                have V : Hid (Below w.heap.size w wz) := V0
                obtain ⟨a0, a1, a2, a3, a4, a5, a6, a7, a8, a9, a10, a11⟩ := Q.all
                simp only [layP, zeroP, List.length_nil] at hwz a0 a1 a2 a3 a4 a5 a6 a7 a8 a9 a10 a11
                clear R9 B9 Q V0 
                go_upto_region 33 with fail
                go_cut [3] from 143 to 143 (fun ev wx => ev = .int .i64 700 ∧ wz = wx)
                case first =>
                  go_wp2_with fail
                  go_meet
                  exact ⟨rfl, rfl⟩
                case rest =>
                obtain ⟨rfl, rfl⟩ := hcut
                repeat go_step
                refine bodyPost_ret (v := .tuple #[.agg #[.int .i64 0, .int .i64 0, .int .i64 0, .int .i64 0, .int .i64 0, .int .i64 0, .int .i64 0, .int .i64 0, .int .i64 0, .int .i64 0, .string ⟨#[]⟩, .slice none 0 0], .int .i64 700]) (by simp [results, Try.results14, go_sem, a0, a1, a2, a3, a4, a5, a6, a7, a8, a9, a10, a11]) rfl ⟨rfl, V.out⟩
              | some b1 =>
                have mb1 := getO_may hf1
                have WB1 : Hid (∀ o ∈ wo b1, o.2.length ≤ 512) := fun o ho => ((okO_iff o).1 (mb1.2.1 o (List.mem_filter.1 ho).1)).2.2
                have WM1 : Hid ((wo b1).length ≤ 32) := by have h1 := wo_len b1; have h2 := mb1.1; show _ ≤ _; omega
                simp only [hf1] at HC1
                refine HC1.mono ?_; rintro e z1 ⟨⟨ya1, yc1, rfl, hL, hP⟩, hb⟩
                have L1z : Hid (LiesN z1 ya1 (joinAll (wo a) (wo b1))) := hL
                have P1z : Hid (∀ x, ya1 = some x → q + 1 ≤ x.block) := hP
                have X1z : Hid (BoxP z1 q ⟨v0, v1, v3, v4, v5, v6, v7, v8, v9, v10, CH, []⟩ none 0) := Xr.out.below hb
                have R1z : Hid (BoxP z1 w.heap.size zeroP none 0) := Rr.out.below hb
                have B1z : Hid (Below w.heap.size w z1) := bel_trans Br.out hb
                have HQ1z : Hid (q + 1 ≤ z1.heap.size) := X1z.out.lt
                clear hb hL hP HC1 Xr Rr Br LR PR
                go_wp2_with fail
                have HC2 := HO2.out ya1 yc1 (joinAll (wo a) (wo b1)) z1 (q + 1) HQ1z.out (by have h1 := (joinAll_size (wo b1) (wo a) 512 WD.out WB1.out).1; have h2 := WL.out; have h3 := WM1.out; omega) (fun o ho => by have h1 := (joinAll_size (wo b1) (wo a) 512 WD.out WB1.out).2 o ho; have h3 := WM1.out; omega) L1z.out P1z.out
                cases hf2 : getO boot [] with
                | none =>
                  obtain rfl : RES = none := by rw [← HRES.out, optsP_3 hg hxo, hf1, hf2]; rfl
                  simp only [hf2] at HC2
                  refine HC2.mono ?_; rintro e z2 ⟨rfl, hb⟩
                  have R9 : Hid (BoxP z2 w.heap.size zeroP none 0) := R1z.out.below hb
                  have B9 : Hid (Below w.heap.size w z2) := bel_trans B1z.out hb
                  clear hb HC2 X1z R1z B1z
                  obtain ⟨r0, r1, r2, r3, r4, r5, r6, r7, r8, r9, r10, r11⟩ := R9.out.all
                  simp only [zeroP, List.length_nil] at r0 r1 r2 r3 r4 r5 r6 r7 r8 r9 r10 r11
                  have p0 := R9.out.fz 0
                  have p1 := R9.out.fz 1
                  have p2 := R9.out.fz 2
                  have p3 := R9.out.fz 3
                  have p4 := R9.out.fz 4
                  have p5 := R9.out.fz 5
                  have p6 := R9.out.fz 6
                  have p7 := R9.out.fz 7
                  have p8 := R9.out.fz 8
                  have p9 := R9.out.fz 9
                  have p10 := R9.out.fz 10
                  have p11 := R9.out.fz 11
                  have Q := layP_box R9.out zeroP none 0
                  have V0 := layP_below B9.out (Nat.le_refl _) zeroP none 0
                  obtain ⟨wz, hwz⟩ : ∃ wz, layP z2 w.heap.size zeroP none 0 = wz := ⟨_, rfl⟩
                  rw [hwz] at Q V0
                  have V : Hid (Below w.heap.size w wz) := V0
                  obtain ⟨a0, a1, a2, a3, a4, a5, a6, a7, a8, a9, a10, a11⟩ := Q.all
                  simp only [layP, zeroP, List.length_nil] at hwz a0 a1 a2 a3 a4 a5 a6 a7 a8 a9 a10 a11
                  clear R9 B9 Q V0 
                  go_upto_region 33 with fail
                  go_cut [3] from 143 to 143 (fun ev wx => ev = .int .i64 700 ∧ wz = wx)
                  case first =>
                    go_wp2_with fail
                    go_meet
                    exact ⟨rfl, rfl⟩
                  case rest =>
                  obtain ⟨rfl, rfl⟩ := hcut
                  repeat go_step
                  refine bodyPost_ret (v := .tuple #[.agg #[.int .i64 0, .int .i64 0, .int .i64 0, .int .i64 0, .int .i64 0, .int .i64 0, .int .i64 0, .int .i64 0, .int .i64 0, .int .i64 0, .string ⟨#[]⟩, .slice none 0 0], .int .i64 700]) (by simp [results, Try.results14, go_sem, a0, a1, a2, a3, a4, a5, a6, a7, a8, a9, a10, a11]) rfl ⟨rfl, V.out⟩
                | some b2 =>
                  have mb2 := getO_may hf2
                  have WB2 : Hid (∀ o ∈ wo b2, o.2.length ≤ 512) := fun o ho => ((okO_iff o).1 (mb2.2.1 o (List.mem_filter.1 ho).1)).2.2
                  have WM2 : Hid ((wo b2).length ≤ 32) := by have h1 := wo_len b2; have h2 := mb2.1; show _ ≤ _; omega
                  simp only [hf2] at HC2
                  refine HC2.mono ?_; rintro e z2 ⟨⟨ya2, yc2, rfl, hL, hP⟩, hb⟩
                  have L2z : Hid (LiesN z2 ya2 (joinAll (joinAll (wo a) (wo b1)) (wo b2))) := hL
                  have P2z : Hid (∀ x, ya2 = some x → q + 1 ≤ x.block) := hP
                  have X2z : Hid (BoxP z2 q ⟨v0, v1, v3, v4, v5, v6, v7, v8, v9, v10, CH, []⟩ none 0) := X1z.out.below hb
                  have R2z : Hid (BoxP z2 w.heap.size zeroP none 0) := R1z.out.below hb
                  have B2z : Hid (Below w.heap.size w z2) := bel_trans B1z.out hb
                  have HQ2z : Hid (q + 1 ≤ z2.heap.size) := X2z.out.lt
                  clear hb hL hP HC2 X1z R1z B1z L1z P1z
                  go_wp2_with fail
                  have HRF : Hid (RES = fin (joinAll (joinAll (wo a) (wo b1)) (wo b2))) := by show _ = _; rw [← HRES.out, optsP_3 hg hxo, hf1, hf2]; rfl
                  go_meet
                  exact ⟨ya2, yc2, (joinAll (joinAll (wo a) (wo b1)) (wo b2)), rfl, L2z.out.lies, P2z, X2z, R2z, B2z, HRF, by have h1 := (joinAll_size (wo b1) (wo a) 512 WD.out WB1.out).1; have h4 := (joinAll_size (wo b2) (joinAll (wo a) (wo b1)) (512 + 512 * (wo b1).length) (joinAll_size (wo b1) (wo a) 512 WD.out WB1.out).2 WB2.out).1; have h2 := WL.out; have h3 := WM1.out; have h5 := WM2.out; show _ ≤ _; omega⟩
    case rest =>
      obtain ⟨oa', oc', os, rfl, L30, NP', X30, R30, B30, HRF, HLN⟩ := hcut
      rename World => w30
      have NQ : Hid (∀ x, oa' = some x → x.block = q → False) := fun x hx e => by have := NP'.out x hx; omega
      have NW : Hid (∀ x, oa' = some x → x.block = w.heap.size → False) := fun x hx e => by have := NP'.out x hx; omega
      have hln := HLN.out
      clear X16 R16 B16 L16
      have cc : w30.cell? ⟨q, 11, none⟩ = some (.slice none 0 0) := X30.out.cell 11
      have ff := X30.out.fz 11
      obtain ⟨y1, hy⟩ : ∃ y1, w30.setCell ⟨q, 11, none⟩ (.slice oa' os.length oc') = y1 := ⟨_, rfl⟩
      have Xy : Hid (BoxP y1 q ⟨v0, v1, v3, v4, v5, v6, v7, v8, v9, v10, CH, os⟩ oa' oc') := by
        show BoxP _ _ _ _ _
        rw [← hy]; exact X30.out.set 11 _ rfl
      have Ry : Hid (BoxP y1 w.heap.size zeroP none 0) := by
        show BoxP _ _ _ _ _
        rw [← hy]; exact R30.out.other (by omega) 11 _
      have By : Hid (Below w.heap.size w y1) := by
        show Below _ _ _
        rw [← hy]; exact B30.out.setCell (show w.heap.size ≤ (⟨q, 11, none⟩ : Addr).block from by show w.heap.size ≤ q; omega) _
      have Ly : Hid (OpLies y1 oa' os) := by
        show OpLies _ _ _
        rw [← hy]; exact L30.out.set (by intro x hx e; exact NQ.out x hx e) _ _
      obtain ⟨g0, g1, g2, g3, g4, g5, g6, g7, g8, g9, g10, g11⟩ := Xy.out.all
      have HM2 : Hid (Calls Try.prog 17 #[pv ⟨v0, v1, v3, v4, v5, v6, v7, v8, v9, v10, CH, os⟩ oa' oc'] y1 fun e w' => e = .returned (.bool (mayO os)) ∧ Below y1.heap.size y1 w') := HM.out os oa' oc' y1 Ly.out (by omega)
      clear X30 R30 B30 L30 HM
      simp only [pv, cellsP] at HM2
      go_wp2_with fail
      clear hy cc ff
      refine HM2.out.mono ?_; rintro e y2 ⟨rfl, hb⟩
      have X2 : Hid (BoxP y2 q ⟨v0, v1, v3, v4, v5, v6, v7, v8, v9, v10, CH, os⟩ oa' oc') := Xy.out.below hb
      have R2 : Hid (BoxP y2 w.heap.size zeroP none 0) := Ry.out.below hb
      have B2 : Hid (Below w.heap.size w y2) := bel_trans By.out hb
      have L2 : Hid (OpLies y2 oa' os) := Ly.out.below hb
      clear hb Xy Ry By Ly HM2 g0 g1 g2 g3 g4 g5 g6 g7 g8 g9 g10 g11
      cases hm : mayO os with
      | false =>
        obtain rfl : RES = none := by rw [HRF.out]; unfold fin; rw [hm]; rfl
        obtain ⟨r0, r1, r2, r3, r4, r5, r6, r7, r8, r9, r10, r11⟩ := R2.out.all
        simp only [zeroP, List.length_nil] at r0 r1 r2 r3 r4 r5 r6 r7 r8 r9 r10 r11
        have p0 := R2.out.fz 0
        have p1 := R2.out.fz 1
        have p2 := R2.out.fz 2
        have p3 := R2.out.fz 3
        have p4 := R2.out.fz 4
        have p5 := R2.out.fz 5
        have p6 := R2.out.fz 6
        have p7 := R2.out.fz 7
        have p8 := R2.out.fz 8
        have p9 := R2.out.fz 9
        have p10 := R2.out.fz 10
        have p11 := R2.out.fz 11
        have Q := layP_box R2.out zeroP none 0
        have V0 := layP_below B2.out (Nat.le_refl _) zeroP none 0
        obtain ⟨wz, hwz⟩ : ∃ wz, layP y2 w.heap.size zeroP none 0 = wz := ⟨_, rfl⟩
        rw [hwz] at Q V0
        have V : Hid (Below w.heap.size w wz) := V0
        obtain ⟨a0, a1, a2, a3, a4, a5, a6, a7, a8, a9, a10, a11⟩ := Q.all
        simp only [layP, zeroP, List.length_nil] at hwz a0 a1 a2 a3 a4 a5 a6 a7 a8 a9 a10 a11
        clear R2 B2 Q V0 X2 L2
        go_upto_region 36 with fail
        go_cut [3] from 149 to 149 (fun ev wx => ev = .int .i64 700 ∧ wz = wx)
        case first =>
          go_wp2_with fail
          go_meet
          exact ⟨rfl, rfl⟩
        case rest =>
        obtain ⟨rfl, rfl⟩ := hcut
        repeat go_step
        refine bodyPost_ret (v := .tuple #[.agg #[.int .i64 0, .int .i64 0, .int .i64 0, .int .i64 0, .int .i64 0, .int .i64 0, .int .i64 0, .int .i64 0, .int .i64 0, .int .i64 0, .string ⟨#[]⟩, .slice none 0 0], .int .i64 700]) (by simp [results, Try.results14, go_sem, a0, a1, a2, a3, a4, a5, a6, a7, a8, a9, a10, a11]) rfl ⟨rfl, V.out⟩
      | true =>
        obtain rfl : RES = some os := by rw [HRF.out]; unfold fin; rw [hm]; rfl
        obtain ⟨r0, r1, r2, r3, r4, r5, r6, r7, r8, r9, r10, r11⟩ := R2.out.all
        simp only [zeroP, List.length_nil] at r0 r1 r2 r3 r4 r5 r6 r7 r8 r9 r10 r11
        have p0 := R2.out.fz 0
        have p1 := R2.out.fz 1
        have p2 := R2.out.fz 2
        have p3 := R2.out.fz 3
        have p4 := R2.out.fz 4
        have p5 := R2.out.fz 5
        have p6 := R2.out.fz 6
        have p7 := R2.out.fz 7
        have p8 := R2.out.fz 8
        have p9 := R2.out.fz 9
        have p10 := R2.out.fz 10
        have p11 := R2.out.fz 11
        obtain ⟨g0, g1, g2, g3, g4, g5, g6, g7, g8, g9, g10, g11⟩ := X2.out.all
        have hne : ¬ w.heap.size = q := by omega
        have hne2 : ¬ q = w.heap.size := by omega
        have Q := layP_box R2.out ⟨v0, v1, v3, v4, v5, v6, v7, v8, v9, v10, CH, os⟩ oa' oc'
        have V0 := layP_below B2.out (Nat.le_refl _) ⟨v0, v1, v3, v4, v5, v6, v7, v8, v9, v10, CH, os⟩ oa' oc'
        have W0 := L2.out.lay (r := w.heap.size) (by intro x hx e; exact NW.out x hx e) ⟨v0, v1, v3, v4, v5, v6, v7, v8, v9, v10, CH, os⟩ oa' oc'
        obtain ⟨wz, hwz⟩ : ∃ wz, layP y2 w.heap.size ⟨v0, v1, v3, v4, v5, v6, v7, v8, v9, v10, CH, os⟩ oa' oc' = wz := ⟨_, rfl⟩
        rw [hwz] at Q V0 W0
        have V : Hid (Below w.heap.size w wz) := V0
        have W : Hid (OpLies wz oa' os) := W0
        obtain ⟨a0, a1, a2, a3, a4, a5, a6, a7, a8, a9, a10, a11⟩ := Q.all
        simp only [layP] at hwz
        clear X2 R2 B2 L2 Q V0 W0
        go_upto_region 37 with fail
        go_cut [3] from 150 to 150 (fun ev wx => ev = .int .i64 0 ∧ wz = wx)
        case first =>
          go_wp2_with fail
          go_meet
          exact ⟨rfl, rfl⟩
        case rest =>
        obtain ⟨rfl, rfl⟩ := hcut
        repeat go_step
        refine bodyPost_ret (v := .tuple #[.agg #[.int .i64 v0, .int .i64 v1, .int .i64 v3, .int .i64 v4, .int .i64 v5, .int .i64 v6, .int .i64 v7, .int .i64 v8, .int .i64 v9, .int .i64 v10, .string CH, .slice oa' os.length oc'], .int .i64 0]) (by simp [results, Try.results14, go_sem, a0, a1, a2, a3, a4, a5, a6, a7, a8, a9, a10, a11]) rfl ⟨⟨oa', oc', rfl, W.out⟩, V.out⟩
set_option maxRecDepth 100000 in
set_option maxHeartbeats 4000000 in
theorem rpGet_small (s : ByteArray) (w : World) (hs : s.size ≤ 140737488351232) (h0 : ¬ 240 ≤ s.size) :
    Calls Try.prog 14 #[.string s] w fun e w' => e = .returned (.tuple #[pv zeroP none 0, .int .i64 700]) ∧ Below w.heap.size w w' := by
  have hd : decide ((s.size : Int) < 240) = true := by simp; omega
  simp only [pv, cellsP, zeroP, List.length_nil] at *
  have R0 : Hid (BoxP (w.alloc (.cells #[.int .i64 0, .int .i64 0, .int .i64 0, .int .i64 0, .int .i64 0, .int .i64 0, .int .i64 0, .int .i64 0, .int .i64 0, .int .i64 0, .string ⟨#[]⟩, .slice none 0 0] 40)) w.heap.size zeroP none 0) := BoxP.new w zeroP none 0
  have B0 : Hid (Below w.heap.size w (w.alloc (.cells #[.int .i64 0, .int .i64 0, .int .i64 0, .int .i64 0, .int .i64 0, .int .i64 0, .int .i64 0, .int .i64 0, .int .i64 0, .int .i64 0, .string ⟨#[]⟩, .slice none 0 0] 40))) := (Below.refl _ _).alloc (Nat.le_refl _) _
  go_enter Try.func14, Try.ntmps14
  go_wp2_with fail
  generalize w.alloc (.cells #[.int .i64 0, .int .i64 0, .int .i64 0, .int .i64 0, .int .i64 0, .int .i64 0, .int .i64 0, .int .i64 0, .int .i64 0, .int .i64 0, .string ⟨#[]⟩, .slice none 0 0] 40) = w0 at *
  go_quiet (fail)
  have R1 : Hid (BoxP (w0.drewN nq) w.heap.size zeroP none 0) := R0.out.below (below_drewN (Below.refl _ _) nq)
  have B1 : Hid (Below w.heap.size w (w0.drewN nq)) := bel_trans B0.out (below_drewN (Below.refl _ _) nq)
  generalize w0.drewN nq = w1 at *
  obtain ⟨r0, r1, r2, r3, r4, r5, r6, r7, r8, r9, r10, r11⟩ := R1.out.all
  simp only [zeroP, List.length_nil] at r0 r1 r2 r3 r4 r5 r6 r7 r8 r9 r10 r11
  have p0 := R1.out.fz 0
  have p1 := R1.out.fz 1
  have p2 := R1.out.fz 2
  have p3 := R1.out.fz 3
  have p4 := R1.out.fz 4
  have p5 := R1.out.fz 5
  have p6 := R1.out.fz 6
  have p7 := R1.out.fz 7
  have p8 := R1.out.fz 8
  have p9 := R1.out.fz 9
  have p10 := R1.out.fz 10
  have p11 := R1.out.fz 11
  have Q := layP_box R1.out zeroP none 0
  have V0 := layP_below B1.out (Nat.le_refl _) zeroP none 0
  obtain ⟨wz, hwz⟩ : ∃ wz, layP w1 w.heap.size zeroP none 0 = wz := ⟨_, rfl⟩
  rw [hwz] at Q V0
  have V : Hid (Below w.heap.size w wz) := V0
  obtain ⟨a0, a1, a2, a3, a4, a5, a6, a7, a8, a9, a10, a11⟩ := Q.all
  simp only [layP, zeroP, List.length_nil] at hwz a0 a1 a2 a3 a4 a5 a6 a7 a8 a9 a10 a11
  clear R1 B1 Q V0 R0 B0 hd
  go_upto_region 2 with fail
  go_cut [3] from 28 to 28 (fun ev wx => ev = .int .i64 700 ∧ wz = wx)
  case first =>
    go_wp2_with fail
    go_meet
    exact ⟨rfl, rfl⟩
  case rest =>
  obtain ⟨rfl, rfl⟩ := hcut
  repeat go_step
  refine bodyPost_ret (v := .tuple #[.agg #[.int .i64 0, .int .i64 0, .int .i64 0, .int .i64 0, .int .i64 0, .int .i64 0, .int .i64 0, .int .i64 0, .int .i64 0, .int .i64 0, .string ⟨#[]⟩, .slice none 0 0], .int .i64 700]) (by simp [results, Try.results14, go_sem, a0, a1, a2, a3, a4, a5, a6, a7, a8, a9, a10, a11]) rfl ⟨rfl, V.out⟩
set_option maxRecDepth 100000 in
set_option maxHeartbeats 4000000 in
theorem rpGet_chaddr (s : ByteArray) (w : World) (hs : s.size ≤ 140737488351232) (h0 : 240 ≤ s.size) (h1 : ¬ num s 2 1 ≤ 16) :
    Calls Try.prog 14 #[.string s] w fun e w' => e = .returned (.tuple #[pv zeroP none 0, .int .i64 700]) ∧ Below w.heap.size w w' := by
  have b2 : ¬ bt s 2 ≤ 16 := by rw [← num_1bt]; exact h1
  have hbt := get_bt s
  have hsz : (240 : Int) ≤ (s.size : Int) := by omega
  have hd1 : decide ((s.size : Int) < 240) = false := by simp; omega
  have hd2 : decide (16 < bt s 2) = true := by simp; omega
  have h2s : (2 : Int) < (s.size : Int) := by omega
  simp only [pv, cellsP, zeroP, List.length_nil] at *
  have R0 : Hid (BoxP (w.alloc (.cells #[.int .i64 0, .int .i64 0, .int .i64 0, .int .i64 0, .int .i64 0, .int .i64 0, .int .i64 0, .int .i64 0, .int .i64 0, .int .i64 0, .string ⟨#[]⟩, .slice none 0 0] 40)) w.heap.size zeroP none 0) := BoxP.new w zeroP none 0
  have B0 : Hid (Below w.heap.size w (w.alloc (.cells #[.int .i64 0, .int .i64 0, .int .i64 0, .int .i64 0, .int .i64 0, .int .i64 0, .int .i64 0, .int .i64 0, .int .i64 0, .int .i64 0, .string ⟨#[]⟩, .slice none 0 0] 40))) := (Below.refl _ _).alloc (Nat.le_refl _) _
  go_enter Try.func14, Try.ntmps14
  go_wp2_with fail
  generalize w.alloc (.cells #[.int .i64 0, .int .i64 0, .int .i64 0, .int .i64 0, .int .i64 0, .int .i64 0, .int .i64 0, .int .i64 0, .int .i64 0, .int .i64 0, .string ⟨#[]⟩, .slice none 0 0] 40) = w0 at *
  go_quiet (fail)
  have R1 : Hid (BoxP (w0.drewN nq) w.heap.size zeroP none 0) := R0.out.below (below_drewN (Below.refl _ _) nq)
  have B1 : Hid (Below w.heap.size w (w0.drewN nq)) := bel_trans B0.out (below_drewN (Below.refl _ _) nq)
  generalize w0.drewN nq = w1 at *
  obtain ⟨r0, r1, r2, r3, r4, r5, r6, r7, r8, r9, r10, r11⟩ := R1.out.all
  simp only [zeroP, List.length_nil] at r0 r1 r2 r3 r4 r5 r6 r7 r8 r9 r10 r11
  have p0 := R1.out.fz 0
  have p1 := R1.out.fz 1
  have p2 := R1.out.fz 2
  have p3 := R1.out.fz 3
  have p4 := R1.out.fz 4
  have p5 := R1.out.fz 5
  have p6 := R1.out.fz 6
  have p7 := R1.out.fz 7
  have p8 := R1.out.fz 8
  have p9 := R1.out.fz 9
  have p10 := R1.out.fz 10
  have p11 := R1.out.fz 11
  have Q := layP_box R1.out zeroP none 0
  have V0 := layP_below B1.out (Nat.le_refl _) zeroP none 0
  obtain ⟨wz, hwz⟩ : ∃ wz, layP w1 w.heap.size zeroP none 0 = wz := ⟨_, rfl⟩
  rw [hwz] at Q V0
  have V : Hid (Below w.heap.size w wz) := V0
  obtain ⟨a0, a1, a2, a3, a4, a5, a6, a7, a8, a9, a10, a11⟩ := Q.all
  simp only [layP, zeroP, List.length_nil] at hwz a0 a1 a2 a3 a4 a5 a6 a7 a8 a9 a10 a11
  clear R1 B1 Q V0 R0 B0 hd1 hd2 hbt
  go_upto_region 2 with fail
  go_cut [3] from 28 to 28 (fun ev wx => ev = .int .i64 700 ∧ wz = wx)
  case first =>
    go_wp2_with fail
    go_meet
    exact ⟨rfl, rfl⟩
  case rest =>
  obtain ⟨rfl, rfl⟩ := hcut
  repeat go_step
  refine bodyPost_ret (v := .tuple #[.agg #[.int .i64 0, .int .i64 0, .int .i64 0, .int .i64 0, .int .i64 0, .int .i64 0, .int .i64 0, .int .i64 0, .int .i64 0, .int .i64 0, .string ⟨#[]⟩, .slice none 0 0], .int .i64 700]) (by simp [results, Try.results14, go_sem, a0, a1, a2, a3, a4, a5, a6, a7, a8, a9, a10, a11]) rfl ⟨rfl, V.out⟩
set_option maxRecDepth 100000 in
set_option maxHeartbeats 4000000 in
theorem rpGet_cookie (s : ByteArray) (w : World) (hs : s.size ≤ 140737488351232) (h0 : 240 ≤ s.size) (h1 : num s 2 1 ≤ 16) (h2 : num s 236 4 ≠ 1669485411) :
    Calls Try.prog 14 #[.string s] w fun e w' => e = .returned (.tuple #[pv zeroP none 0, .int .i64 700]) ∧ Below w.heap.size w w' := by
  have HC : Hid (∀ w, _) := fun w => refNum 1669485411 4 w (by omega) (by omega) (by omega)
  have hne := eq_no (fun e => h2 ((cookie_is s h0).1 e))
  generalize be 1669485411 4 = CK at *
  have b2 : bt s 2 ≤ 16 := by rw [← num_1bt]; exact h1
  have hbt := get_bt s
  have hsz : (240 : Int) ≤ (s.size : Int) := by omega
  have hd1 : decide ((s.size : Int) < 240) = false := by simp; omega
  have hd2 : decide (16 < bt s 2) = false := by simp; omega
  have h0' : 236 ≤ s.size := by omega
  simp only [pv, cellsP, zeroP, List.length_nil] at *
  have R0 : Hid (BoxP (w.alloc (.cells #[.int .i64 0, .int .i64 0, .int .i64 0, .int .i64 0, .int .i64 0, .int .i64 0, .int .i64 0, .int .i64 0, .int .i64 0, .int .i64 0, .string ⟨#[]⟩, .slice none 0 0] 40)) w.heap.size zeroP none 0) := BoxP.new w zeroP none 0
  have B0 : Hid (Below w.heap.size w (w.alloc (.cells #[.int .i64 0, .int .i64 0, .int .i64 0, .int .i64 0, .int .i64 0, .int .i64 0, .int .i64 0, .int .i64 0, .int .i64 0, .int .i64 0, .string ⟨#[]⟩, .slice none 0 0] 40))) := (Below.refl _ _).alloc (Nat.le_refl _) _
  go_enter Try.func14, Try.ntmps14
  go_wp2_with fail
  generalize w.alloc (.cells #[.int .i64 0, .int .i64 0, .int .i64 0, .int .i64 0, .int .i64 0, .int .i64 0, .int .i64 0, .int .i64 0, .int .i64 0, .int .i64 0, .string ⟨#[]⟩, .slice none 0 0] 40) = w0 at *
  go_region_held3 (fun _ => True) (first | exact trivial) (first | (go_at_call 35; refine (HC.out _).mono ?_; rintro e w1 ⟨rfl, hb1⟩))
  have hb1' : Below w0.heap.size w0 w1 := bel_trans (below_drewN (Below.refl w0.heap.size _) 1) hb1
  have R1 : Hid (BoxP w1 w.heap.size zeroP none 0) := R0.out.below hb1'
  have B1 : Hid (Below w.heap.size w w1) := bel_trans B0.out hb1'
  clear hb1 hb1'
  obtain ⟨r0, r1, r2, r3, r4, r5, r6, r7, r8, r9, r10, r11⟩ := R1.out.all
  simp only [zeroP, List.length_nil] at r0 r1 r2 r3 r4 r5 r6 r7 r8 r9 r10 r11
  have p0 := R1.out.fz 0
  have p1 := R1.out.fz 1
  have p2 := R1.out.fz 2
  have p3 := R1.out.fz 3
  have p4 := R1.out.fz 4
  have p5 := R1.out.fz 5
  have p6 := R1.out.fz 6
  have p7 := R1.out.fz 7
  have p8 := R1.out.fz 8
  have p9 := R1.out.fz 9
  have p10 := R1.out.fz 10
  have p11 := R1.out.fz 11
  have Q := layP_box R1.out zeroP none 0
  have V0 := layP_below B1.out (Nat.le_refl _) zeroP none 0
  obtain ⟨wz, hwz⟩ : ∃ wz, layP w1 w.heap.size zeroP none 0 = wz := ⟨_, rfl⟩
  rw [hwz] at Q V0
  have V : Hid (Below w.heap.size w wz) := V0
  obtain ⟨a0, a1, a2, a3, a4, a5, a6, a7, a8, a9, a10, a11⟩ := Q.all
  simp only [layP, zeroP, List.length_nil] at hwz a0 a1 a2 a3 a4 a5 a6 a7 a8 a9 a10 a11
  clear R1 B1 Q V0 R0 B0 HC hd1 hd2 hbt
  go_upto_region 2 with fail
  go_cut [3] from 28 to 28 (fun ev wx => ev = .int .i64 700 ∧ wz = wx)
  case first =>
    go_wp2_with fail
    go_meet
    exact ⟨rfl, rfl⟩
  case rest =>
  obtain ⟨rfl, rfl⟩ := hcut
  repeat go_step
  refine bodyPost_ret (v := .tuple #[.agg #[.int .i64 0, .int .i64 0, .int .i64 0, .int .i64 0, .int .i64 0, .int .i64 0, .int .i64 0, .int .i64 0, .int .i64 0, .int .i64 0, .string ⟨#[]⟩, .slice none 0 0], .int .i64 700]) (by simp [results, Try.results14, go_sem, a0, a1, a2, a3, a4, a5, a6, a7, a8, a9, a10, a11]) rfl ⟨rfl, V.out⟩
theorem rpGet_c (s : ByteArray) (w : World) (hs : s.size ≤ 140737488351232) :
    Calls Try.prog 14 #[.string s] w fun e w' => (match getP s with | none => e = .returned (.tuple #[pv zeroP none 0, .int .i64 700]) | some p => ∃ a c, e = .returned (.tuple #[pv p a c, .int .i64 0]) ∧ OpLies w' a p.os) ∧ Below w.heap.size w w' := by
  unfold getP
  by_cases h0 : 240 ≤ s.size
  · by_cases h1 : num s 2 1 ≤ 16
    · by_cases h2 : num s 236 4 = 1669485411
      · rw [if_pos ⟨h0, h1, h2⟩]
        obtain ⟨kn, hk⟩ : ∃ kn : Nat, num s 2 1 = kn := ⟨(num s 2 1).toNat, by have := num_bd s 2 1; omega⟩
        rw [hk, Int.toNat_natCast]
        have := rpGet_yes s w kn hs h0 hk (by omega) h2
        cases ho : optsP ((bs s).drop 240) (cut s 44 64) (cut s 108 128) with
        | none => rw [ho] at this; exact this
        | some os => rw [ho] at this; exact this
      · rw [if_neg (fun h => h2 h.2.2)]
        exact rpGet_cookie s w hs h0 h1 h2
    · rw [if_neg (fun h => h1 h.2.1)]
      exact rpGet_chaddr s w hs h0 h1
  · rw [if_neg (fun h => h0 h.1)]
    exact rpGet_small s w hs h0
end Go.Proofs.Ytegoaaamlfehpaa
