/-
  Contract of the document's own answer of layer 6: GetOpts.
-/
import Derived.Test.YtegoaaamlfehpaaOptRef3
namespace Go.Proofs.Ytegoaaamlfehpaa
open Go.ChangeShapes Go.WideShapes Go.ChangeAt Go.RowKit Go.Pin Go.PlainAid

theorem nodup_len : ∀ (n : Nat) (l : List Int), l.Nodup → (∀ x ∈ l, 0 ≤ x ∧ x < n) → l.length ≤ n
  | 0, l, _, h => by
    cases l with
    | nil => simp
    | cons x r => have := h x (by simp); omega
  | n + 1, l, hn, h => by
    by_cases hm : (n : Int) ∈ l
    · have h1 := nodup_len n (l.erase (n : Int)) (hn.erase _) (fun x hx => by
        have hx' := (hn.mem_erase_iff).1 hx
        have := h x hx'.2
        have hne := hx'.1
        omega)
      rw [List.length_erase_of_mem hm] at h1
      omega
    · have h1 := nodup_len n l hn (fun x hx => by
        have := h x hx
        have : x ≠ n := fun e => hm (e ▸ hx)
        omega)
      omega
theorem code_len {os : List Opn} (h : CodeO os) : os.length ≤ 255 := by
  have := nodup_len 255 (os.map (·.1)) h.2 (fun x hx => by
    obtain ⟨o, ho, rfl⟩ := List.mem_map.1 hx
    have := h.1 o ho
    omega)
  simpa using this
theorem join_max {os : List Opn} {c : Int} {d : List UInt8} {n k : Nat} (h : ∀ o ∈ os, o.2.length ≤ n) (hd : d.length ≤ k) : ∀ o ∈ joinO os c d, o.2.length ≤ n + k := by
  intro o ho
  induction os with
  | nil => simp only [joinO, List.mem_singleton] at ho; subst ho; simp only; omega
  | cons x r ih =>
    unfold joinO at ho
    by_cases hx : x.1 = c
    · rw [if_pos hx] at ho
      rcases List.mem_cons.1 ho with rfl | ho
      · have := h x (by simp); simp only [List.length_append]; omega
      · have := h o (by simp [ho]); omega
    · rw [if_neg hx] at ho
      rcases List.mem_cons.1 ho with rfl | ho
      · have := h o (by simp); omega
      · exact ih (fun y hy => h y (by simp [hy])) ho
theorem join_ne_nil (os : List Opn) (c : Int) (d : List UInt8) : joinO os c d ≠ [] := by
  cases os with
  | nil => simp [joinO]
  | cons x r => unfold joinO; split <;> simp

set_option maxRecDepth 100000 in
theorem rGet_c (s : ByteArray) (w : World) (hs : s.size ≤ 140737488351232) :
    Calls Try.prog 38 #[.string s] w fun e w' => (match getO (bs s) [] with | some os => ∃ v, e = .returned (.tuple #[v, .int .i64 0]) ∧ Opts w' w.heap.size v os | none => e = .returned (.tuple #[.slice none 0 0, .int .i64 600])) ∧ Below w.heap.size w w' := by
  have hsz : (s.size : Int) ≤ 140737488351232 := by omega
  have HRD : Hid (_) := read_is (bs s)
  generalize getO (bs s) [] = G at *
  go_enter Try.func38, Try.ntmps38
  go_wp2_with fail
  go_loopg [4, 5] (s.size + 1) (fun k (ov av : Value) wr => ∃ (a : Nat) (acc : List Opn) (oa : Option Addr) (oc : Nat), av = .int .i64 a ∧ ov = .slice oa acc.length oc ∧ Hid (a ≤ s.size ∧ CodeO acc ∧ (∀ o ∈ acc, o.2.length ≤ a) ∧ getR (bs s) [] = getR ((bs s).drop a) acc) ∧ Hid (Opts wr w.heap.size (.slice oa acc.length oc) acc) ∧ Hid (acc = [] → oa = none) ∧ Hid (Below w.heap.size w wr) ∧ k = s.size - a + 1)
  case atStart => exact ⟨0, [], none, 0, rfl, rfl, ⟨Nat.zero_le _, code_nil, by simp, rfl⟩, World.ownsRow_nil _ _ _ _, fun _ => rfl, Below.refl _ _, rfl⟩
  case round =>
    obtain ⟨a, acc, oa, oc, rfl, rfl, hI, hO, hN, B, hk⟩ := hrel
    have Hk : Hid (_) := hk
    obtain ⟨hal, hcd, hmx, hG⟩ := hI.out
    have hacc : acc.length ≤ 255 := code_len hcd
    clear hk
    have hlb := length_bs s
    have HMY : Hid (∀ w', Below wr.heap.size wr w' → _) := fun w' hb => rMay_c oa oc acc w' (by omega) (by
      obtain ⟨a', c', e, hl⟩ := hO.out.lies
      simp only [Value.slice.injEq, true_and] at e
      rw [e.1]; exact hl.below hb)
    have HEND : getR ((bs s).drop a) acc = some acc → G = if mayO acc then some acc else none := fun e => by rw [HRD.out, hG, e]
    have hb := get_bt s
    by_cases hlt : a < s.size
    · obtain ⟨cb, hcb⟩ : ∃ cb, (bs s)[a]? = some cb := ⟨_, List.getElem?_eq_getElem (by omega)⟩
      have hdr : (bs s).drop a = cb :: (bs s).drop (a + 1) := by
        rw [List.drop_eq_getElem_cons (by omega)]
        rw [List.getElem?_eq_getElem (by omega)] at hcb
        simp only [Option.some.injEq] at hcb
        rw [hcb]
      rw [hdr] at hG HEND
      have hbt : bt s a = ((cb.toNat : Nat) : Int) := by
        unfold bt
        rw [dif_pos hlt]
        rw [List.getElem?_eq_getElem (by omega)] at hcb
        simp only [Option.some.injEq] at hcb
        rw [← hcb]
        rfl
      have hcl := cb.toNat_lt
      by_cases h255 : cb = 255
      · subst h255
        have HV : Hid (_) := HEND (getR_end _ _)
        have hbt' : bt s a = 255 := hbt
        clear hbt hI hG HEND hcd hmx hcb hdr hN
        go_wp2_with fail
        refine (HMY.out _ (Below.refl _ _)).mono ?_; rintro e w3 ⟨rfl, hb3⟩
        have B3 : Hid (Below w.heap.size w w3) := bel_trans B.out hb3
        have O3 : Hid (Opts w3 w.heap.size (.slice oa acc.length oc) acc) := hO.out.below hb3
        clear hb3
        cases hm : mayO acc with
        | true =>
          have HV2 := HV.out
          rw [hm] at HV2
          simp only [if_true] at HV2
          subst HV2
          go_wp2
          go_ret2
          exact ⟨⟨_, rfl, O3.out⟩, B3.out⟩
        | false =>
          have HV2 := HV.out
          rw [hm] at HV2
          simp only [Bool.false_eq_true, if_false] at HV2
          subst HV2
          go_wp2
          go_ret2
          exact ⟨rfl, B3.out⟩
      · by_cases h0 : cb = 0
        · subst h0
          rw [getR_pad] at hG
          have hbt' : bt s a = 0 := hbt
          have hI2 : Hid (a + 1 ≤ s.size ∧ CodeO acc ∧ (∀ o ∈ acc, o.2.length ≤ a + 1) ∧ getR (bs s) [] = getR ((bs s).drop (a + 1)) acc) := ⟨by omega, hcd, fun o ho => by have := hmx o ho; omega, hG⟩
          have Hk2 : Hid (s.size - (a + 1) + 1 < gk) := by show _ < _; rw [Hk.out]; omega
          clear hbt hI hG HEND hcd hmx hcb hdr HMY
          go_wp2_with fail
          go_roundg (s.size - (a + 1) + 1)
          case measure => exact Hk2.out
          case rel => exact ⟨a + 1, acc, oa, oc, by go_num, rfl, hI2, hO, hN, B, rfl⟩
        · have hn255 : cb.toNat ≠ 255 := fun e => h255 (UInt8.toNat_inj.1 (by simpa using e))
          have hn0 : cb.toNat ≠ 0 := fun e => h0 (UInt8.toNat_inj.1 (by simpa using e))
          by_cases hl1 : a + 1 < s.size
          · obtain ⟨nb, hnb⟩ : ∃ nb, (bs s)[a + 1]? = some nb := ⟨_, List.getElem?_eq_getElem (by omega)⟩
            have hdr2 : (bs s).drop (a + 1) = nb :: (bs s).drop (a + 2) := by
              rw [List.drop_eq_getElem_cons (by omega)]
              rw [List.getElem?_eq_getElem (by omega)] at hnb
              simp only [Option.some.injEq] at hnb
              rw [hnb]
            have hbt2 : bt s (a + 1) = ((nb.toNat : Nat) : Int) := by
              unfold bt
              rw [dif_pos hl1]
              rw [List.getElem?_eq_getElem (by omega)] at hnb
              simp only [Option.some.injEq] at hnb
              rw [← hnb]
              rfl
            have hnl := nb.toNat_lt
            rw [hdr2] at hG
            have hlen2 : ((bs s).drop (a + 2)).length = s.size - (a + 2) := by rw [List.length_drop]; omega
            by_cases hsh : ((bs s).drop (a + 2)).length < nb.toNat
            · have HV : Hid (G = none) := by
                show _ = _
                rw [HRD.out, hG, getR_short h0 h255 hsh]
              rw [hlen2] at hsh
              generalize cb.toNat = cn at *
              generalize nb.toNat = nn at *
              have hq1 : ((cn : Int) != 255) = true := by simp; omega
              have hq2 : ((cn : Int) == 0) = false := by simp; omega
              have hq3 : ¬ (s.size : Int) ≤ (a : Int) + 1 := by omega
              have hq4 : (s.size : Int) < (a : Int) + 2 + (nn : Int) := by omega
              have HV2 := HV.out
              subst HV2
              clear hI hG HEND hcd hmx hcb hdr HMY HRD hnb hdr2 hlen2
              go_wp2
              go_ret2
              exact ⟨rfl, B.out⟩
            · rw [getR_part h0 h255 hsh] at hG
              rw [hlen2] at hsh
              have hcc : (0 : Int) < (cb.toNat : Int) ∧ (cb.toNat : Int) < 255 := by omega
              have hex : bs (s.extract (a + 2) (a + 2 + nb.toNat)) = ((bs s).drop (a + 2)).take nb.toNat := bs_extract s (a + 2) nb.toNat
              have hdl : (((bs s).drop (a + 2)).take nb.toNat).length ≤ nb.toNat := by rw [List.length_take]; omega
              rw [List.drop_drop] at hG
              have hI2 : Hid (a + 2 + nb.toNat ≤ s.size ∧ CodeO (joinO acc cb.toNat (((bs s).drop (a + 2)).take nb.toNat)) ∧ (∀ o ∈ joinO acc cb.toNat (((bs s).drop (a + 2)).take nb.toNat), o.2.length ≤ a + 2 + nb.toNat) ∧ getR (bs s) [] = getR ((bs s).drop (a + 2 + nb.toNat)) (joinO acc cb.toNat (((bs s).drop (a + 2)).take nb.toNat))) :=
                ⟨by omega, join_code hcd hcc, fun o ho => by have := join_max hmx hdl o ho; omega, hG⟩
              have HJ : Hid (∀ w', Below wr.heap.size wr w' → _) := fun w' hb => rJoin_c oa oc acc (cb.toNat : Int) (s.extract (a + 2) (a + 2 + nb.toNat)) w' (by omega) (by simp; omega) (fun o ho => by have := hmx o ho; omega) (by
                obtain ⟨a', c', e, hl⟩ := hO.out.lies
                simp only [Value.slice.injEq, true_and] at e
                rw [e.1]
                rcases hl with rfl | ⟨x, hx, hl⟩
                · exact .inl ⟨rfl, by rw [← e.1]; exact hN.out rfl⟩
                · exact .inr ⟨x, hx, hl.below hb⟩)
              rw [hex] at HJ
              have HNE : Hid (joinO acc cb.toNat (((bs s).drop (a + 2)).take nb.toNat) ≠ []) := join_ne_nil _ _ _
              have Hk2 : Hid (s.size - (a + 2 + nb.toNat) + 1 < gk) := by show _ < _; rw [Hk.out]; omega
              generalize joinO acc cb.toNat (((bs s).drop (a + 2)).take nb.toNat) = acc2 at *
              generalize cb.toNat = cn at *
              generalize nb.toNat = nn at *
              have hq1 : ((cn : Int) != 255) = true := by simp; omega
              have hq2 : ((cn : Int) == 0) = false := by simp; omega
              have hq3 : ¬ (s.size : Int) ≤ (a : Int) + 1 := by omega
              have hq4 : ¬ (s.size : Int) < (a : Int) + 2 + (nn : Int) := by omega
              have hq5 : (a : Int) + 2 ≤ (a : Int) + 2 + (nn : Int) := by omega
              have hq6 : (a : Int) + 2 + (nn : Int) ≤ (s.size : Int) := by omega
              clear hI hG HEND hcd hmx hcb hdr HMY HRD hnb hdr2 hlen2 hex hdl hcc hN
              have wr1 : IntKind.i64.wrap ((a : Int) + 2) = (a : Int) + 2 := wrap_in _ (by omega) (by omega)
              have wr2 : IntKind.i64.wrap ((a : Int) + 2 + (nn : Int)) = (a : Int) + 2 + (nn : Int) := wrap_in _ (by omega) (by omega)
              have wr3 : IntKind.i64.wrap (cn : Int) = (cn : Int) := wrap_in _ (by omega) (by omega)
              have hai : (a : Int) < (s.size : Int) := by omega
              have hz1 : (0 : Int) ≤ (nn : Int) := by omega
              have hz2 : (0 : Int) ≤ (a : Int) + 2 := by omega
              have hz3 : (0 : Int) ≤ (a : Int) + 2 + (nn : Int) := by omega
              have ht1 : ((a : Int) + 2).toNat = a + 2 := by omega
              have ht2 : ((a : Int) + 2 + (nn : Int)).toNat = a + 2 + nn := by omega
              go_wp2_with fail
              have HJ2 := HJ.out wr.drew (below_drewN (Below.refl _ _) 1)
              go_region_held3 (fun _ => True) (first | exact trivial) (first | (go_at_call 56; refine HJ2.mono ?_; rintro e w3 ⟨⟨v3, rfl, hO3⟩, hb3⟩))
              have B3 : Hid (Below w.heap.size w w3) := bel_trans B.out (bel_trans (below_drewN (Below.refl _ _) 1) hb3)
              have hO3' : Opts w3 w.heap.size v3 acc2 := hO3.base (by have := B.out.size; exact this)
              obtain ⟨a3, c3, rfl, l3⟩ := hO3.lies
              have O3 : Hid (Opts w3 w.heap.size (.slice a3 acc2.length c3) acc2) := hO3'
              clear hb3 hO3 hO3' HJ HJ2 l3
              go_wp2
              go_roundg (s.size - (a + 2 + nn) + 1)
              case measure => exact Hk2.out
              case rel => exact ⟨a + 2 + nn, acc2, a3, c3, by go_num, rfl, hI2, O3, fun e => absurd e HNE.out, B3, rfl⟩
          · have HV : Hid (G = none) := by
              show _ = _
              rw [HRD.out, hG, List.drop_eq_nil_of_le (show (bs s).length ≤ a + 1 by omega), getR_one h0 h255]
            generalize cb.toNat = cn at *
            have hq1 : ((cn : Int) != 255) = true := by simp; omega
            have hq2 : ((cn : Int) == 0) = false := by simp; omega
            have hq3 : (s.size : Int) ≤ (a : Int) + 1 := by omega
            have HV2 := HV.out
            subst HV2
            clear hI hG HEND hcd hmx hcb hdr HMY HRD
            go_wp2
            go_ret2
            exact ⟨rfl, B.out⟩
    · obtain rfl : a = s.size := by omega
      have HV : Hid (_) := HEND (by rw [List.drop_eq_nil_of_le (by omega), getR_nil])
      clear hI hG HEND hcd hmx hN
      go_wp2_with fail
      refine (HMY.out _ (Below.refl _ _)).mono ?_; rintro e w3 ⟨rfl, hb3⟩
      have B3 : Hid (Below w.heap.size w w3) := bel_trans B.out hb3
      have O3 : Hid (Opts w3 w.heap.size (.slice oa acc.length oc) acc) := hO.out.below hb3
      clear hb3
      cases hm : mayO acc with
      | true =>
        have HV2 := HV.out
        rw [hm] at HV2
        simp only [if_true] at HV2
        subst HV2
        go_wp2
        go_ret2
        exact ⟨⟨_, rfl, O3.out⟩, B3.out⟩
      | false =>
        have HV2 := HV.out
        rw [hm] at HV2
        simp only [Bool.false_eq_true, if_false] at HV2
        subst HV2
        go_wp2
        go_ret2
        exact ⟨rfl, B3.out⟩
end Go.Proofs.Ytegoaaamlfehpaa
