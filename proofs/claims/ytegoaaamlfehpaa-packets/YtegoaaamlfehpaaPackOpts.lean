/-
  Contract of package packet's options: those behind, those of the two places.
-/
import Derived.Test.YtegoaaamlfehpaaPackJoin
import Derived.Test.YtegoaaamlfehpaaOptRead
namespace Go.Proofs.Ytegoaaamlfehpaa
open Go.ChangeShapes Go.WideShapes Go.ChangeAt Go.RowKit Go.Pin Go.PlainAid

theorem told_may (t : ByteArray) : MayO (toldO t) := by
  unfold toldO
  cases h : getO (bs t) [] with
  | none => simp [MayO]
  | some os =>
    rw [read_is] at h
    cases hg : getR (bs t) [] with
    | none => rw [hg] at h; simp at h
    | some o2 =>
      rw [hg] at h
      simp only at h
      split at h
      · rename_i hm
        cases h
        simpa [mayO] using hm
      · cases h
/-- How many bytes are left. -/
def restN (s : ByteArray) (x : Tk) : Nat := if x.f then 0 else (s.size - x.at_).toNat
theorem left_c (b : Nat) (s : ByteArray) (x : Tk) (w : World) (h : TkAt w b s x) (hs : s.size ≤ 1125899906842624) : Calls Try.prog 46 #[.pointer (some ⟨b, 0, none⟩)] w fun e w' => e = .returned (.int .i64 (restN s x)) ∧ Below w.heap.size w w' := by
  unfold restN
  cases hf : x.f with
  | true => exact (left_failed b s x w h hf).mono fun e w' ⟨h1, h2⟩ => ⟨h1, by rw [h2]; exact Below.refl _ _⟩
  | false =>
    have hr := h.rg hf
    have := left_ok b s x w h hf hs
    rw [if_neg (by simp), show (((s.size - x.at_).toNat : Nat) : Int) = s.size - x.at_ by omega]
    exact this
/-- All that is left. -/
def restT (s : ByteArray) (x : Tk) : ByteArray × Tk := textT s (restN s x) x
theorem rest_size (s : ByteArray) (x : Tk) : (restT s x).1.size ≤ s.size := by
  unfold restT textT
  split
  · exact Nat.zero_le _
  · split
    · simp only [ByteArray.size_extract]; omega
    · exact Nat.zero_le _
/-- Behind, and of the two places: which options; how far. -/
def optsT (s : ByteArray) (x : Tk) (boot file : ByteArray) : List Opn × Tk :=
  let a := toldO (restT s x).1
  let x2 := mustT (toldK (restT s x).1) (restT s x).2
  if mk (ovr a) = ⟨#[1]⟩ then ((joinP (a ++ toldO file)).getD [], mustT (joinP (a ++ toldO file)).isSome (mustT (toldK file) x2))
  else if mk (ovr a) = ⟨#[2]⟩ then ((joinP (a ++ toldO boot)).getD [], mustT (joinP (a ++ toldO boot)).isSome (mustT (toldK boot) x2))
  else if mk (ovr a) = ⟨#[3]⟩ then ((joinP (a ++ toldO file ++ toldO boot)).getD [], mustT (joinP (a ++ toldO file ++ toldO boot)).isSome (mustT (toldK boot) (mustT (toldK file) x2)))
  else (a, x2)
theorem rows_new (w : World) (cs : Array Value) (t : TypeId) (rs : List RowV) (h : cs = (rs.map rowV).toArray) (hr : ∀ r ∈ rs, RowLies w r) : RowsAt (w.alloc (.cells cs t)) ⟨w.heap.size, 0, none⟩ rs := by
  subst h
  intro j r hj
  refine ⟨?_, (hr r (List.mem_of_getElem? hj)).below ((Below.refl _ _).alloc (Nat.le_refl _) _)⟩
  rw [addr_add, Nat.zero_add]
  exact new_cell w _ _ _ _ (by rw [List.getElem?_toArray, List.getElem?_map, hj]; rfl)
theorem joined_2 (b : Nat) (s : ByteArray) (x : Tk) (a1 a2 : Option Addr) (c1 c2 : Nat) (k1 k2 : List Opn) (w : World) (m1 : MayO k1) (m2 : MayO k2) (r1 : RowLies w (a1, c1, k1)) (r2 : RowLies w (a2, c2, k2)) (h : TkAt w b s x) :
    Calls Try.prog 69 #[.pointer (some ⟨b, 0, none⟩), .slice (some ⟨w.heap.size, 0, none⟩) 2 2] (w.alloc (.cells #[.slice a1 k1.length c1, .slice a2 k2.length c2] 23)) fun e w' => (∃ v, e = .returned v ∧ Opts w' w.heap.size v ((joinP (k1 ++ k2)).getD [])) ∧ TkAt w' b s (mustT (joinP (k1 ++ k2)).isSome x) ∧ Turn b w w' := by
  have hb : Below w.heap.size w (w.alloc (.cells #[.slice a1 k1.length c1, .slice a2 k2.length c2] 23)) := (Below.refl _ _).alloc (Nat.le_refl _) _
  have hc : catO [(a1, c1, k1), (a2, c2, k2)] = k1 ++ k2 := by simp [catO]
  have := joined_c b s x ⟨w.heap.size, 0, none⟩ 2 [(a1, c1, k1), (a2, c2, k2)] _ (by simp) (by intro r hr; simp at hr; rcases hr with rfl | rfl; exact m1.1; exact m2.1) (by rw [hc]; intro o ho; rcases List.mem_append.1 ho with ho | ho; exact m1.2.1 o ho; exact m2.2.1 o ho) (rows_new w _ 23 [(a1, c1, k1), (a2, c2, k2)] rfl (by intro r hr; simp at hr; rcases hr with rfl | rfl; exact r1; exact r2)) (h.below hb h.lt)
  rw [hc] at this
  exact this.mono fun e w' ⟨⟨v, h1, h2⟩, h3, h4⟩ => ⟨⟨v, h1, h2.base hb.size⟩, h3, (Turn.of_below hb h.lt).trans h4⟩
theorem joined_3 (b : Nat) (s : ByteArray) (x : Tk) (a1 a2 a3 : Option Addr) (c1 c2 c3 : Nat) (k1 k2 k3 : List Opn) (w : World) (m1 : MayO k1) (m2 : MayO k2) (m3 : MayO k3) (r1 : RowLies w (a1, c1, k1)) (r2 : RowLies w (a2, c2, k2)) (r3 : RowLies w (a3, c3, k3)) (h : TkAt w b s x) :
    Calls Try.prog 69 #[.pointer (some ⟨b, 0, none⟩), .slice (some ⟨w.heap.size, 0, none⟩) 3 3] (w.alloc (.cells #[.slice a1 k1.length c1, .slice a2 k2.length c2, .slice a3 k3.length c3] 23)) fun e w' => (∃ v, e = .returned v ∧ Opts w' w.heap.size v ((joinP (k1 ++ k2 ++ k3)).getD [])) ∧ TkAt w' b s (mustT (joinP (k1 ++ k2 ++ k3)).isSome x) ∧ Turn b w w' := by
  have hb : Below w.heap.size w (w.alloc (.cells #[.slice a1 k1.length c1, .slice a2 k2.length c2, .slice a3 k3.length c3] 23)) := (Below.refl _ _).alloc (Nat.le_refl _) _
  have hc : catO [(a1, c1, k1), (a2, c2, k2), (a3, c3, k3)] = k1 ++ k2 ++ k3 := by simp [catO]
  have := joined_c b s x ⟨w.heap.size, 0, none⟩ 3 [(a1, c1, k1), (a2, c2, k2), (a3, c3, k3)] _ (by simp) (by intro r hr; simp at hr; rcases hr with rfl | rfl | rfl; exact m1.1; exact m2.1; exact m3.1) (by rw [hc]; intro o ho; rcases List.mem_append.1 ho with ho | ho; (rcases List.mem_append.1 ho with ho | ho; exact m1.2.1 o ho; exact m2.2.1 o ho); exact m3.2.1 o ho) (rows_new w _ 23 [(a1, c1, k1), (a2, c2, k2), (a3, c3, k3)] rfl (by intro r hr; simp at hr; rcases hr with rfl | rfl | rfl; exact r1; exact r2; exact r3)) (h.below hb h.lt)
  rw [hc] at this
  exact this.mono fun e w' ⟨⟨v, h1, h2⟩, h3, h4⟩ => ⟨⟨v, h1, h2.base hb.size⟩, h3, (Turn.of_below hb h.lt).trans h4⟩
theorem RowLies.lies {w : World} {a : Option Addr} {c : Nat} {ks : List Opn} (h : RowLies w (a, c, ks)) : OpLies w a ks := by
  rcases h with ⟨_, _, h⟩ | ⟨x, h1, h2⟩
  · exact .inl h
  · exact .inr ⟨x, h1, h2⟩
theorem Opts.rowlies {w : World} {base n c : Nat} {a : Option Addr} {ks : List Opn} (h : Opts w base (.slice a n c) ks) : RowLies w (a, c, ks) := by
  obtain ⟨a', c', e, hl⟩ := h.row
  simp only [rowV, Value.slice.injEq] at e
  rw [e.1, e.2.2]; exact hl
set_option maxRecDepth 100000 in
set_option maxHeartbeats 4000000 in
theorem options_c (b : Nat) (s : ByteArray) (x : Tk) (boot file : ByteArray) (w : World) (hs : s.size ≤ 281474976710656) (h1 : boot.size ≤ 65535) (h2 : file.size ≤ 65535) (h : TkAt w b s x) :
    Calls Try.prog 54 #[.pointer (some ⟨b, 0, none⟩), .string boot, .string file] w fun e w' => (∃ v, e = .returned v ∧ Opts w' w.heap.size v (optsT s x boot file).1) ∧ TkAt w' b s (optsT s x boot file).2 ∧ Turn b w w' := by
  have HL : Hid (∀ w, TkAt w b s x → _) := fun w h => left_c b s x w h (by omega)
  have hrn : restN s x ≤ s.size := by
    unfold restN
    cases hf : x.f with
    | true => simp
    | false => have := h.rg hf; rw [if_neg (by simp)]; omega
  have HX : Hid (∀ w, TkAt w b s x → _) := fun w h => text_c b s x (restN s x) w (by omega) (by omega) h
  have hsz := rest_size s x
  have HT : Hid (∀ (t : ByteArray) (y : Tk) (w : World), t.size ≤ 1125899906842624 → TkAt w b s y → _) := fun t y w ht h => told_c b s y t w ht h
  have HT1 : Hid (∀ w, TkAt w b s (restT s x).2 → _) := fun w h => told_c b s (restT s x).2 (restT s x).1 w (by omega) h
  have HTf : Hid (∀ (y : Tk) (w : World), TkAt w b s y → _) := fun y w h => told_c b s y file w (by omega) h
  have HTb : Hid (∀ (y : Tk) (w : World), TkAt w b s y → _) := fun y w h => told_c b s y boot w (by omega) h
  obtain ⟨R, hR⟩ : ∃ R, R = optsT s x boot file := ⟨_, rfl⟩
  have HR : Hid (R = optsT s x boot file) := hR
  rw [← hR]
  unfold optsT at HR
  simp only at HR
  clear hR
  have mA := told_may (restT s x).1
  have mF := told_may file
  have mB := told_may boot
  have HF : Hid (∀ (a : Option Addr) (c : Nat) (w : World), OpLies w a (toldO (restT s x).1) → _) := fun a c w h => oFind_c a c (toldO (restT s x).1) 52 w (by have := mA.1; omega) h
  have e52 : mk (findA (toldO (restT s x).1) 52).1 = mk (ovr (toldO (restT s x).1)) := rfl
  rw [e52] at HF
  change Hid (∀ w, TkAt w b s x → Calls Try.prog _ _ w fun e w' => e = .returned (.string (restT s x).1) ∧ TkAt w' b s (restT s x).2 ∧ Turn b w w') at HX
  generalize restT s x = RT at *
  obtain ⟨rt, x1⟩ := RT
  simp only at HR mA HF HT1 HX hsz
  generalize restN s x = rn at *
  generalize toldO rt = A at *
  generalize toldK rt = kA at *
  generalize toldO file = F at *
  generalize toldK file = kF at *
  generalize toldO boot = Bo at *
  generalize toldK boot = kB at *
  generalize mk (ovr A) = D at *
  have lt := h.lt
  have H : Hid (_) := h
  clear h hrn hsz e52 HT
  go_enter Try.func54, Try.ntmps54
  go_wp2_with fail
  have HL1 : Hid (Calls Try.prog 46 #[.pointer (some ⟨b, 0, none⟩)] w.drew fun e w' => e = .returned (.int .i64 rn) ∧ Below w.heap.size w w') := (HL.out _ (H.out.below (below_drewN (Below.refl _ _) 1) lt)).mono fun e w' ⟨h1, h2⟩ => ⟨h1, bel_trans (below_drewN (Below.refl _ _) 1) h2⟩
  go_region_held3 (fun _ => True) (first | exact trivial) (first
    | (go_at_call 46; refine HL1.out.mono ?_; rintro e w1 ⟨rfl, hb1⟩)
    | (go_at_call 29; refine (HX.out _ (H.out.below hb1 lt)).mono ?_; rintro e w2 ⟨rfl, hT2, hU2⟩)
    | (go_at_call 68; refine (HT1.out _ hT2).mono ?_; rintro e w3 ⟨⟨v3, rfl, hO3⟩, hT3, hU3⟩))
  obtain ⟨a3, c3, rfl, r3⟩ := hO3.row
  simp only [rowV] at hO3
  have sz2 : w.heap.size ≤ w2.heap.size := Nat.le_trans hb1.size hU2.bel.size
  have O3 : Hid (Opts w3 w2.heap.size (.slice a3 A.length c3) A) := hO3
  have U3 : Hid (Turn b w w3) := (Turn.of_below hb1 lt).trans (hU2.trans hU3)
  have T3 : Hid (TkAt w3 b s (mustT kA x1)) := hT3
  have L3 : Hid (OpLies w3 a3 A) := r3.lies
  simp only [rowV]
  generalize mustT kA x1 = x2 at *
  clear hO3 hT3 hU3 hT2 hU2 hb1 r3 HL1 HT1 HX HL H
  go_wp2_with fail
  refine (HF.out _ c3 _ L3.out).mono ?_; rintro e w4 ⟨rfl, hb4⟩
  have lt3 : b < w2.heap.size := by omega
  have O4 : Hid (Opts w4 w2.heap.size (.slice a3 A.length c3) A) := O3.out.below hb4
  have U4 : Hid (Turn b w w4) := U3.out.trans (Turn.of_below hb4 T3.out.lt)
  have T4 : Hid (TkAt w4 b s x2) := T3.out.below hb4 T3.out.lt
  clear hb4 O3 U3 T3 L3 HF
  by_cases d1 : D = ⟨#[1]⟩
  · subst d1
    have hR := HR.out
    rw [if_pos rfl] at hR
    go_wp2_with fail
    refine (HTf.out _ _ T4.out).mono ?_; rintro e w5 ⟨⟨v5, rfl, hO5⟩, hT5, hU5⟩
    obtain ⟨a5, c5, rfl, r5⟩ := hO5.row
    have HJ := joined_2 b s _ a3 a5 c3 c5 A F w5 mA mF (O4.out.turn3 lt3 hU5).rowlies r5 hT5
    have U5 : Hid (Turn b w w5) := U4.out.trans hU5
    clear hO5 r5 hT5 hU5 O4 T4 U4
    simp only [rowV]
    go_wp2_with fail
    refine HJ.mono ?_; rintro e w6 ⟨⟨v6, rfl, hO6⟩, hT6, hU6⟩
    have K6 : Hid (Opts w6 w.heap.size v6 R.1 ∧ TkAt w6 b s R.2 ∧ Turn b w w6) := by
      show _ ∧ _ ∧ _
      rw [hR]
      exact ⟨hO6.base U5.out.bel.size, hT6, U5.out.trans hU6⟩
    clear hO6 hT6 hU6 HJ hR
    go_wp2
    go_ret
    exact ⟨⟨_, rfl, K6.out.1⟩, K6.out.2.1, K6.out.2.2⟩
  by_cases d2 : D = ⟨#[2]⟩
  · subst d2
    have hR := HR.out
    rw [if_neg (by decide), if_pos rfl] at hR
    go_wp2_with fail
    refine (HTb.out _ _ T4.out).mono ?_; rintro e w5 ⟨⟨v5, rfl, hO5⟩, hT5, hU5⟩
    obtain ⟨a5, c5, rfl, r5⟩ := hO5.row
    have HJ := joined_2 b s _ a3 a5 c3 c5 A Bo w5 mA mB (O4.out.turn3 lt3 hU5).rowlies r5 hT5
    have U5 : Hid (Turn b w w5) := U4.out.trans hU5
    clear hO5 r5 hT5 hU5 O4 T4 U4
    simp only [rowV]
    go_wp2_with fail
    refine HJ.mono ?_; rintro e w6 ⟨⟨v6, rfl, hO6⟩, hT6, hU6⟩
    have K6 : Hid (Opts w6 w.heap.size v6 R.1 ∧ TkAt w6 b s R.2 ∧ Turn b w w6) := by
      show _ ∧ _ ∧ _
      rw [hR]
      exact ⟨hO6.base U5.out.bel.size, hT6, U5.out.trans hU6⟩
    clear hO6 hT6 hU6 HJ hR
    go_wp2
    go_ret
    exact ⟨⟨_, rfl, K6.out.1⟩, K6.out.2.1, K6.out.2.2⟩
  by_cases d3 : D = ⟨#[3]⟩
  · subst d3
    have hR := HR.out
    rw [if_neg (by decide), if_neg (by decide), if_pos rfl] at hR
    go_wp2_with fail
    refine (HTf.out _ _ T4.out).mono ?_; rintro e w5 ⟨⟨v5, rfl, hO5⟩, hT5, hU5⟩
    obtain ⟨a5, c5, rfl, _⟩ := hO5.row
    simp only [rowV] at hO5
    simp only [rowV]
    have O5 : Hid (Opts w5 w2.heap.size (.slice a3 A.length c3) A) := O4.out.turn3 lt3 hU5
    have P5 : Hid (Opts w5 w4.heap.size (.slice a5 F.length c5) F) := hO5
    have T5 : Hid (_) := hT5
    have U5 : Hid (Turn b w w5) := U4.out.trans hU5
    have lt4 : b < w4.heap.size := T4.out.lt
    clear hO5 hT5 hU5 O4 T4 U4
    go_wp2_with fail
    refine (HTb.out _ _ T5.out).mono ?_; rintro e w6 ⟨⟨v6, rfl, hO6⟩, hT6, hU6⟩
    obtain ⟨a6, c6, rfl, r6⟩ := hO6.row
    have HJ := joined_3 b s _ a3 a5 a6 c3 c5 c6 A F Bo w6 mA mF mB (O5.out.turn3 lt3 hU6).rowlies (P5.out.turn3 lt4 hU6).rowlies r6 hT6
    have U6 : Hid (Turn b w w6) := U5.out.trans hU6
    clear hO6 r6 hT6 hU6 O5 P5 T5 U5
    simp only [rowV]
    go_wp2_with fail
    refine HJ.mono ?_; rintro e w7 ⟨⟨v7, rfl, hO7⟩, hT7, hU7⟩
    have K7 : Hid (Opts w7 w.heap.size v7 R.1 ∧ TkAt w7 b s R.2 ∧ Turn b w w7) := by
      show _ ∧ _ ∧ _
      rw [hR]
      exact ⟨hO7.base U6.out.bel.size, hT7, U6.out.trans hU7⟩
    clear hO7 hT7 hU7 HJ hR
    go_wp2
    go_ret
    exact ⟨⟨_, rfl, K7.out.1⟩, K7.out.2.1, K7.out.2.2⟩
  have n1 := eq_no d1
  have n2 := eq_no d2
  have n3 := eq_no d3
  have hR : R = (A, x2) := by rw [HR.out, if_neg d1, if_neg d2, if_neg d3]
  have K4 : Hid (Opts w4 w.heap.size (.slice a3 A.length c3) R.1 ∧ TkAt w4 b s R.2 ∧ Turn b w w4) := by
    show _ ∧ _ ∧ _
    rw [hR]
    exact ⟨O4.out.base sz2, T4.out, U4.out⟩
  clear hR O4 T4 U4
  have q1 : (D.toList == [1]) = false := by simpa using n1
  have q2 : (D.toList == [2]) = false := by simpa using n2
  have q3 : (D.toList == [3]) = false := by simpa using n3
  clear n1 n2 n3 d1 d2 d3
  go_wp2
  go_ret
  exact ⟨⟨_, rfl, K4.out.1⟩, K4.out.2.1, K4.out.2.2⟩
end Go.Proofs.Ytegoaaamlfehpaa
