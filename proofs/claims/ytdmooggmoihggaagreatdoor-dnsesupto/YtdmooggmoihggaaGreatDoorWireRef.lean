/-
  Contracts of the references GetName and PutName: at every text, place, list of known names and name (of the sizes that each theorem names).
-/
import Derived.Test.YtdmooggmoihggaaGreatDoorBWire
import Derived.Test.YtdmooggmoihggaaGreatDoorBPut
import Derived.Test.YtdmooggmoihggaaGreatDoorBName
namespace Go.Proofs.YtdmooggmoihggaaGreatDoor
set_option maxRecDepth 100000
open Go.ChangeShapes Go.WideShapes Go.ChangeAt Go.RowKit Go.Pin Go.PlainAid

theorem rget_below (s : ByteArray) (a : Int) (w : World) (h : a < 0) : Calls Tryz.prog 24 #[.string s, .int .i64 a] w fun e w' => e = told ([], 0, 300) ∧ w' = w := by
  go_enter Tryz.func24, Tryz.ntmps24
  go_wp2
  go_ret3
  exact ⟨rfl, rfl⟩

/-- Where it goes on, as the reference holds it. -/
def nextI (en : Nat) : Int := if en = 0 then -1 else en
theorem nextI_goOn (en a : Nat) (ha : a ≠ 0) : nextI (goOn en a) = if en = 0 then (a : Int) else nextI en := by
  unfold nextI goOn
  by_cases h : en = 0
  · simp [h, ha]
  · simp [h]
theorem nextI_neg (en : Nat) : (en = 0 ∧ nextI en = -1) ∨ (en ≠ 0 ∧ nextI en = en) := by
  unfold nextI; by_cases h : en = 0 <;> simp [h]

set_option maxHeartbeats 2000000 in
set_option maxRecDepth 100000 in
theorem rget_from (s : ByteArray) (a : Nat) (w : World) (hs : s.size ≤ 1125899906842624) : Calls Tryz.prog 24 #[.string s, .int .i64 a] w fun e w' => e = told (getL (bs s) a) ∧ Below w.heap.size w w' := by
  have HR : Hid (getL (bs s) a = endWire (allWire (bs s) ⟨a, a, 0, []⟩)) := rfl
  generalize getL (bs s) a = R at *
  have hpos : 0 ≤ (a : Int) := by omega
  have hlb := length_bs s
  go_enter Tryz.func24, Tryz.ntmps24
  go_wp2_with fail
  go_loopg [1, 7, 8, 9, 10] (muWire (bs s) ⟨a, a, 0, []⟩ + 1) (fun k p n r e c wr => ∃ x : St, p = .int .i64 x.at_ ∧ n = .string (mk (join x.labs)) ∧ r = .int .i64 x.row ∧ e = .int .i64 (nextI x.en) ∧ c = .int .i64 x.labs.length ∧ Below w.heap.size w wr ∧ x.labs.length ≤ 8 ∧ (∀ l ∈ x.labs, okL l = true) ∧ R = endWire (allWire (bs s) x) ∧ k = muWire (bs s) x + 1)
  case atStart => exact ⟨⟨a, a, 0, []⟩, rfl, rfl, rfl, rfl, rfl, Below.refl _ _, by simp, by simp, HR.out, rfl⟩
  case round =>
    obtain ⟨x, rfl, rfl, rfl, rfl, rfl, B, h8, hok, hR, hk⟩ := hrel
    have HK : Hid (gk = muWire (bs s) x + 1 ∧ R = endWire (allWire (bs s) x)) := ⟨hk, hR⟩
    have hjl := join_len x.labs hok
    have HO : Hid (∀ l ∈ x.labs, okL l = true) := hok
    have hns := size_mk (join x.labs)
    clear hR hk hok HR
    by_cases hl : x.at_ < s.size
    · obtain ⟨c, hc, hbt⟩ := bt_bs s x.at_ hl
      have hget := get_bt s x.at_ hl
      have hc255 : c.toNat < 256 := c.toNat_lt
      have hi1 : (x.at_ : Int) < (s.size : Int) := by omega
      by_cases hz : c.toNat = 0
      · have H1 : Hid (R = (join x.labs, (goOn x.en (x.at_ + 1) : Int), 0)) := by rw [HK.out.2, allWire_end (wstep_zero hc hz)]; rfl
        rw [hbt, hz] at hget
        clear hc hbt
        rcases nextI_neg x.en with ⟨h0, hn⟩ | ⟨h0, hn⟩
        · rw [hn]
          have HG : Hid ((goOn x.en (x.at_ + 1) : Int) = (x.at_ : Int) + 1) := by unfold Hid goOn; rw [if_pos h0]; omega
          clear h0 hn
          go_wp2
          go_ret3
          rw [H1.out, HG.out]
          exact ⟨rfl, B⟩
        · rw [hn]
          have HG : Hid ((goOn x.en (x.at_ + 1) : Int) = x.en) := by unfold Hid goOn; rw [if_neg h0]
          have hen : 0 ≤ (x.en : Int) := by omega
          clear h0 hn
          go_wp2
          go_ret3
          rw [H1.out, HG.out]
          exact ⟨rfl, B⟩
      · have g0 : ((c.toNat : Int) == 0) = false := by simp; omega
        rw [hbt] at hget
        by_cases h9 : c.toNat ≤ 8
        · have hle : (c.toNat : Int) ≤ 8 := by omega
          by_cases hshort : s.size < x.at_ + 1 + c.toNat
          · have H1 : Hid (R = ([], 0, 301)) := by rw [HK.out.2, allWire_err (wstep_short hc hz h9 (by omega))]; rfl
            generalize c.toNat = cn at *
            clear hc hbt
            go_wp2
            go_ret3
            rw [H1.out]
            exact ⟨rfl, B⟩
          · have hfit : x.at_ + 1 + c.toNat ≤ s.size := by omega
            have hx := extract_is s (x.at_ + 1) c.toNat
            have hnp := piece_len s (x.at_ + 1) c.toNat
            have Hlab := fun (h1 : okL (foldL (((bs s).drop (x.at_ + 1)).take c.toNat)) = true) (h2 : x.labs.length ≠ 8) => wstep_label (s := bs s) (x := x) hc hz h9 (by omega) h1 h2
            have Hform := fun h => wstep_form (s := bs s) (x := x) hc hz h9 (by omega) h
            generalize hraw : ((bs s).drop (x.at_ + 1)).take c.toNat = raw at *
            have HF : Hid (∀ w, Calls Tryz.prog 60 #[.string (s.extract (x.at_ + 1) (x.at_ + 1 + c.toNat))] w fun e w' => e = .returned (.string (mk (foldL raw))) ∧ Below w.heap.size w w') := by
              intro w; rw [hx]; exact rfold_c (mk raw) w (by rw [size_mk]; unfold maxLen; omega)
            have hfl : (foldL raw).length = raw.length := by simp [foldL]
            have HL : Hid (∀ w, Calls Tryz.prog 61 #[.string (mk (foldL raw))] w fun e w' => e = .returned (.bool (okL (foldL raw))) ∧ w' = w) := by
              intro w; exact labelMay_c (mk (foldL raw)) w (by rw [size_mk, hfl]; unfold maxLen; omega)
            have hfs := size_mk (foldL raw)
            generalize foldL raw = t at *
            have hl7 : x.labs.length = 8 ∨ x.labs.length < 8 := by omega
            cases hg : okL t with
            | false =>
              have H1 : Hid (R = ([], 0, 300)) := by rw [HK.out.2, allWire_err (Hform (.inl hg))]; rfl
              rw [hg] at HL
              generalize c.toNat = cn at *
              clear hc hbt hx hraw Hlab Hform hg
              go_wp2_with fail
              refine (HF.out _).mono ?_; rintro e w1 ⟨rfl, hb1⟩
              go_wp2_with fail
              refine (HL.out _).mono ?_; rintro e w2 ⟨rfl, rfl⟩
              replace B := bel_trans B hb1
              clear hb1
              go_wp2
              go_ret3
              rw [H1.out]
              exact ⟨rfl, B⟩
            | true =>
              rw [hg] at HL
              rcases hl7 with h7 | h7
              · have H1 : Hid (R = ([], 0, 300)) := by rw [HK.out.2, allWire_err (Hform (.inr h7))]; rfl
                generalize c.toNat = cn at *
                clear hc hbt hx hraw Hlab Hform hg
                go_wp2_with fail
                refine (HF.out _).mono ?_; rintro e w1 ⟨rfl, hb1⟩
                go_wp2_with fail
                refine (HL.out _).mono ?_; rintro e w2 ⟨rfl, rfl⟩
                replace B := bel_trans B hb1
                clear hb1
                go_wp2
                go_ret3
                rw [H1.out]
                exact ⟨rfl, B⟩
              · have Hst := Hlab hg (by omega)
                have H1 : Hid (R = endWire (allWire (bs s) { x with at_ := x.at_ + 1 + c.toNat, labs := x.labs ++ [t] }) ∧ muWire (bs s) { x with at_ := x.at_ + 1 + c.toNat, labs := x.labs ++ [t] } < muWire (bs s) x) := ⟨by rw [HK.out.2, allWire_on Hst], wstep_mu Hst⟩
                have Hok2 : Hid (∀ l ∈ x.labs ++ [t], okL l = true) := by
                  intro l hl
                  rcases List.mem_append.1 hl with hl | hl
                  · exact HO.out l hl
                  · simp at hl; subst hl; exact hg
                have Hjoin : Hid (join (x.labs ++ [t]) = if x.labs = [] then t else join x.labs ++ 46 :: t) := by
                  unfold Hid
                  by_cases hnil : x.labs = []
                  · rw [if_pos hnil, hnil]; rfl
                  · rw [if_neg hnil, join_snoc _ _ hnil]
                have Hnil : Hid (x.labs = [] → join x.labs = []) := by intro h; rw [h]; rfl
                have Hne : Hid (x.labs ≠ [] → join x.labs ≠ []) := fun h => join_ne h HO.out
                have H46 : Hid ((⟨#[46]⟩ : ByteArray) = mk [46]) := rfl
                generalize c.toNat = cn at *
                clear hc hbt hx hraw Hlab Hform hg Hst
                by_cases hnil : x.labs = []
                · have he := empty_mk_yes (Hnil.out hnil)
                  rw [if_pos hnil] at Hjoin
                  have Hj0 : Hid (join x.labs = []) := Hnil.out hnil
                  clear hnil Hnil Hne
                  go_wp2_with fail
                  refine (HF.out _).mono ?_; rintro e w1 ⟨rfl, hb1⟩
                  go_wp2_with fail
                  refine (HL.out _).mono ?_; rintro e w2 ⟨rfl, rfl⟩
                  replace B := bel_trans B hb1
                  clear hb1
                  go_wp2
                  go_roundg (muWire (bs s) { x with at_ := x.at_ + 1 + cn, labs := x.labs ++ [t] } + 1)
                  case measure => have := HK.out.1; have := H1.out.2; omega
                  case rel =>
                    refine ⟨{ x with at_ := x.at_ + 1 + cn, labs := x.labs ++ [t] }, by go_num, ?_, rfl, rfl, by simp, B, by simp; omega, Hok2.out, H1.out.1, rfl⟩
                    simp only
                    rw [Hjoin.out, Hj0.out, mk_append]; rfl
                · have he := empty_mk_no (Hne.out hnil)
                  rw [if_neg hnil] at Hjoin
                  clear hnil Hnil Hne
                  go_wp2_with fail
                  refine (HF.out _).mono ?_; rintro e w1 ⟨rfl, hb1⟩
                  go_wp2_with fail
                  refine (HL.out _).mono ?_; rintro e w2 ⟨rfl, rfl⟩
                  replace B := bel_trans B hb1
                  clear hb1
                  go_wp2
                  go_roundg (muWire (bs s) { x with at_ := x.at_ + 1 + cn, labs := x.labs ++ [t] } + 1)
                  case measure => have := HK.out.1; have := H1.out.2; omega
                  case rel =>
                    refine ⟨{ x with at_ := x.at_ + 1 + cn, labs := x.labs ++ [t] }, by go_num, ?_, rfl, rfl, by simp, B, by simp; omega, Hok2.out, H1.out.1, rfl⟩
                    simp only
                    rw [Hjoin.out, H46.out, mk_append, mk_append]; simp
        · have g9 : decide ((c.toNat : Int) ≤ 8) = false := by simp; omega
          by_cases hp : 192 ≤ c.toNat
          · have g192 : (192 : Int) ≤ (c.toNat : Int) := by omega
            by_cases hhalf : s.size < x.at_ + 2
            · have H1 : Hid (R = ([], 0, 301)) := by rw [HK.out.2, allWire_err (wstep_half hc hp (by omega))]; rfl
              generalize c.toNat = cn at *
              clear hc hbt
              go_wp2
              go_ret3
              rw [H1.out]
              exact ⟨rfl, B⟩
            · obtain ⟨d, hd, hbd⟩ := bt_bs s (x.at_ + 1) (by omega)
              have hd255 : d.toNat < 256 := d.toNat_lt
              have hget2 := get_bt s (x.at_ + 1) (by omega)
              rw [hbd] at hget2
              have hor := or_byte ((c.toNat : Int) - 192) (d.toNat : Int) (by omega) (by omega) (by omega) (by omega)
              have hor' : bits .or .i64 (((c.toNat : Int) - 192) * 256) (d.toNat : Int) = (((c.toNat - 192) * 256 + d.toNat : Nat) : Int) := by
                rw [show wrap64 (((c.toNat : Int) - 192) * 256) = ((c.toNat : Int) - 192) * 256 by unfold wrap64; omega, show wrap64 (d.toNat : Int) = (d.toNat : Int) by unfold wrap64; omega] at hor
                rw [hor]; omega
              rw [show ((c.toNat : Int) - 192) * 256 + (d.toNat : Int) = (((c.toNat - 192) * 256 + d.toNat : Nat) : Int) by omega] at hor
              have hi2 : (x.at_ : Int) + 1 < (s.size : Int) := by omega
              by_cases hrow : (c.toNat - 192) * 256 + d.toNat < x.row
              · have Hst := wstep_point hc hd hp hrow
                generalize (c.toNat - 192) * 256 + d.toNat = q at *
                have H1 : Hid (R = endWire (allWire (bs s) { x with at_ := q, row := q, en := goOn x.en (x.at_ + 2) }) ∧ muWire (bs s) { x with at_ := q, row := q, en := goOn x.en (x.at_ + 2) } < muWire (bs s) x) := ⟨by rw [HK.out.2, allWire_on Hst], wstep_mu Hst⟩
                have hrow' : (q : Int) < (x.row : Int) := by omega
                generalize c.toNat = cn at *
                generalize d.toNat = dn at *
                clear hc hbt hd hbd hrow Hst
                rcases nextI_neg x.en with ⟨h0, hn⟩ | ⟨h0, hn⟩
                · have HG : Hid (nextI (goOn x.en (x.at_ + 2)) = (x.at_ : Int) + 2) := by unfold Hid; rw [nextI_goOn _ _ (by omega), if_pos h0]; omega
                  rw [hn]
                  clear h0 hn
                  go_wp2
                  go_roundg (muWire (bs s) { x with at_ := q, row := q, en := goOn x.en (x.at_ + 2) } + 1)
                  case measure => have := HK.out.1; have := H1.out.2; omega
                  case rel => exact ⟨{ x with at_ := q, row := q, en := goOn x.en (x.at_ + 2) }, rfl, rfl, rfl, by simp only; rw [HG.out], rfl, B, h8, HO.out, H1.out.1, rfl⟩
                · have HG : Hid (nextI (goOn x.en (x.at_ + 2)) = x.en) := by unfold Hid; rw [nextI_goOn _ _ (by omega), if_neg h0, hn]
                  have hen : 0 ≤ (x.en : Int) := by omega
                  rw [hn]
                  clear h0 hn
                  go_wp2
                  go_roundg (muWire (bs s) { x with at_ := q, row := q, en := goOn x.en (x.at_ + 2) } + 1)
                  case measure => have := HK.out.1; have := H1.out.2; omega
                  case rel => exact ⟨{ x with at_ := q, row := q, en := goOn x.en (x.at_ + 2) }, rfl, rfl, rfl, by simp only; rw [HG.out], rfl, B, h8, HO.out, H1.out.1, rfl⟩
              · have H1 : Hid (R = ([], 0, 300)) := by rw [HK.out.2, allWire_err (wstep_far hc hd hp (by omega))]; rfl
                generalize (c.toNat - 192) * 256 + d.toNat = q at *
                have hrow' : (x.row : Int) ≤ (q : Int) := by omega
                generalize c.toNat = cn at *
                generalize d.toNat = dn at *
                clear hc hbt hd hbd hrow
                go_wp2
                go_ret3
                rw [H1.out]
                exact ⟨rfl, B⟩
          · have g192 : decide ((192 : Int) ≤ (c.toNat : Int)) = false := by simp; omega
            have H1 : Hid (R = ([], 0, 300)) := by rw [HK.out.2, allWire_err (wstep_none hc (by omega) (by omega))]; rfl
            generalize c.toNat = cn at *
            clear hc hbt
            go_wp2
            go_ret3
            rw [H1.out]
            exact ⟨rfl, B⟩
    · have H1 : Hid (R = ([], 0, 301)) := by rw [HK.out.2, allWire_err (wstep_past (by omega))]; rfl
      have hl' : (s.size : Int) ≤ (x.at_ : Int) := by omega
      go_wp2
      go_ret3
      rw [H1.out]
      exact ⟨rfl, B⟩

theorem rget_c (s : ByteArray) (a : Int) (w : World) (hs : s.size ≤ 1125899906842624) : Calls Tryz.prog 24 #[.string s, .int .i64 a] w fun e w' => e = told (getI (bs s) a) ∧ Below w.heap.size w w' := by
  by_cases h : a < 0
  · rw [getI, if_pos h]
    exact (rget_below s a w h).mono fun e w' ⟨h1, h2⟩ => ⟨h1, by rw [h2]; exact Below.refl _ _⟩
  · rw [getI, if_neg h]
    have := rget_from s a.toNat w hs
    rwa [show ((a.toNat : Nat) : Int) = a by omega] at this

/-! ### PutName -/

theorem rput_no1 (at_ : Int) (v : Value) (name : ByteArray) (w : World) (h : at_ < 0) :
    Calls Tryz.prog 47 #[.int .i64 at_, v, .string name] w fun e w' => e = .returned (.tuple #[.string ⟨#[]⟩, .slice none 0 0, .int .i64 300]) ∧ Below w.heap.size w w' := by
  go_enter Tryz.func47, Tryz.ntmps47
  go_wp2
  go_ret3
  exact ⟨rfl, Below.refl _ _⟩
theorem rput_no2 (at_ : Int) (v : Value) (name : ByteArray) (w : World) (h : 65535 < at_) :
    Calls Tryz.prog 47 #[.int .i64 at_, v, .string name] w fun e w' => e = .returned (.tuple #[.string ⟨#[]⟩, .slice none 0 0, .int .i64 300]) ∧ Below w.heap.size w w' := by
  have h0 : decide (at_ < 0) = false := by simp; omega
  go_enter Tryz.func47, Tryz.ntmps47
  go_wp2
  go_ret3
  exact ⟨rfl, Below.refl _ _⟩
theorem rput_no3 (at_ : Int) (v : Value) (name : ByteArray) (w : World) (h0 : 0 ≤ at_) (h : at_ ≤ 65535) (hs : name.size ≤ 1048576) (hm : mayL (bs name) = false) :
    Calls Tryz.prog 47 #[.int .i64 at_, v, .string name] w fun e w' => e = .returned (.tuple #[.string ⟨#[]⟩, .slice none 0 0, .int .i64 300]) ∧ Below w.heap.size w w' := by
  have h0 : decide (at_ < 0) = false := by simp; omega
  have h1 : decide (65535 < at_) = false := by simp; omega
  have HC : Hid (∀ w, _) := fun w => nameMay_c name w hs
  rw [hm] at HC
  clear hm
  go_enter Tryz.func47, Tryz.ntmps47
  go_wp2_with fail
  refine (HC.out _).mono ?_; rintro e w1 ⟨rfl, hb1⟩
  go_wp2
  go_ret3
  exact ⟨rfl, hb1⟩
theorem rput_no4 (at_ : Int) (a : Option Addr) (cap : Nat) (ks : List Kn) (name : ByteArray) (w : World) (h0 : 0 ≤ at_) (h : at_ ≤ 65535) (hs : name.size ≤ 1048576) (hm : mayL (bs name) = true) (hl : ks.length ≤ 1000000000) (hks : ∀ k ∈ ks, k.1.length ≤ 1048576) (hk : KnLies w a ks) (hall : ks.all knownL = false) :
    Calls Tryz.prog 47 #[.int .i64 at_, .slice a ks.length cap, .string name] w fun e w' => e = .returned (.tuple #[.string ⟨#[]⟩, .slice none 0 0, .int .i64 300]) ∧ Below w.heap.size w w' := by
  have h0 : decide (at_ < 0) = false := by simp; omega
  have h1 : decide (65535 < at_) = false := by simp; omega
  have HC : Hid (∀ w, _) := fun w => nameMay_c name w hs
  rw [hm] at HC
  have HD : Hid (∀ w', Below w.heap.size w w' → _) := fun w' hb => knownMay_c a cap ks w' hl hks (hk.below hb)
  rw [hall] at HD
  clear hm hall hk hks
  go_enter Tryz.func47, Tryz.ntmps47
  go_wp2_with fail
  refine (HC.out _).mono ?_; rintro e w1 ⟨rfl, hb1⟩
  go_wp2_with fail
  refine (HD.out _ hb1).mono ?_; rintro e w2 ⟨rfl, hb2⟩
  go_wp2
  go_ret3
  exact ⟨rfl, bel_trans hb1 hb2⟩

end Go.Proofs.YtdmooggmoihggaaGreatDoor
