/-
  Contracts of the references' staticMay, and of ConfMay where the configuration's head may not be, at texts of at most 1048576 letters.
-/
import Derived.Test.YtedbihckdbpebaaConfOwn
import Derived.Test.YtedbihckdbpebaaRrRef
import Derived.Deep.QuietTactic
import Derived.BigQuiet
import Derived.Deep.RegionHeld3
import Derived.Deep.DeepCutAuto
import Derived.Deep.CutRange
namespace Go.Proofs.Ytedbihckdbpebaa
open Go.ChangeShapes Go.WideShapes Go.ChangeAt Go.RowKit Go.Pin Go.PlainAid

/-! ### plain -/
/-- The first j do, each there once. -/
def oft {α : Type} (P : α → Prop) (xs : List α) (j : Nat) : Prop := ∀ k n, k < j → xs[k]? = some n → P n ∧ ∀ i m, i < k → xs[i]? = some m → m ≠ n
theorem oft_zero {α : Type} (P : α → Prop) (xs : List α) : oft P xs 0 := fun k n hk => by omega
theorem oft_step {α : Type} {P : α → Prop} {xs : List α} {j : Nat} {n : α} (h : oft P xs j) (hx : xs[j]? = some n) (hp : P n) (hn : ∀ i m, i < j → xs[i]? = some m → m ≠ n) : oft P xs (j + 1) := fun k m hk hm => by
  by_cases e : k = j
  · subst e
    rw [hx] at hm
    obtain rfl := Option.some.inj hm
    exact ⟨hp, hn⟩
  · exact h k m (by omega) hm
theorem oft_all {α : Type} {P : α → Prop} {xs : List α} (h : oft P xs xs.length) : (∀ x ∈ xs, P x) ∧ xs.Nodup := by
  refine ⟨fun x hx => ?_, ?_⟩
  · obtain ⟨k, hk, rfl⟩ := List.mem_iff_getElem.1 hx
    exact (h k _ hk (List.getElem?_eq_getElem hk)).1
  · unfold List.Nodup
    rw [List.pairwise_iff_getElem]
    intro i k hi hk hik
    exact (h k _ hk (List.getElem?_eq_getElem hk)).2 i _ hik (List.getElem?_eq_getElem hi)
theorem twice {α : Type} {xs : List α} {i k : Nat} {n : α} (hik : i < k) (h1 : xs[i]? = some n) (h2 : xs[k]? = some n) : ¬ xs.Nodup := fun h => by
  unfold List.Nodup at h
  rw [List.pairwise_iff_getElem] at h
  obtain ⟨hi, e1⟩ := List.getElem?_eq_some_iff.1 h1
  obtain ⟨hk, e2⟩ := List.getElem?_eq_some_iff.1 h2
  exact h i k hi hk hik (e1.trans e2.symm)
theorem zoneB_iff (z : ByteArray) : zoneB z = true ↔ z.size ≠ 0 ∧ mayL (bs z) = true ∧ (labsL (bs z)).length ≤ 4 := by
  unfold zoneB
  rw [betw_iff]
  have hb : bs z = [] ↔ z.size = 0 := by rw [← length_bs]; exact List.length_eq_zero_iff.symm
  unfold labsL
  by_cases h0 : bs z = []
  · simp [h0, hb.1 h0]
  · have h0' : z.size ≠ 0 := fun e => h0 (hb.2 e)
    rw [if_neg h0]
    by_cases hm : mayL (bs z) = true
    · rw [if_pos hm]
      have := List.length_pos_iff.2 (split_ne (bs z))
      constructor
      · rintro ⟨_, h2⟩; exact ⟨h0', hm, by omega⟩
      · rintro ⟨_, _, h2⟩; exact ⟨by omega, by omega⟩
    · rw [if_neg hm]
      simp [hm]
def headB (c : Cf) : Bool := rangeB c.fi c.la && decide (c.ex.length ≤ 8) && decide (c.rs.length ≤ 4) && betw 1 c.ti 1048576 && zoneB c.zo && decide (c.st.length ≤ 8)
theorem headB_iff (c : Cf) : headB c = true ↔ (2 ≤ c.fi ∧ c.fi ≤ c.la ∧ c.la ≤ 254 ∧ c.la - c.fi < 8) ∧ c.ex.length ≤ 8 ∧ c.rs.length ≤ 4 ∧ (1 ≤ c.ti ∧ c.ti ≤ 1048576) ∧ (c.zo.size ≠ 0 ∧ mayL (bs c.zo) = true ∧ (labsL (bs c.zo)).length ≤ 4) ∧ c.st.length ≤ 8 := by
  simp only [headB, Bool.and_eq_true, decide_eq_true_eq, rangeB_iff, betw_iff, zoneB_iff, and_assoc]
theorem may_head {c : Cf} (h : mayC c = true) : headB c = true := by
  obtain ⟨h1, h2, h3, h4, h5, h6⟩ := (mayC_iff c).1 h
  have := may_sizes h
  simp [headB, h1, h4, h5, this]
theorem may_parts {c : Cf} (h : headB c = true) (hE : hostsB c.fi c.la c.ex = true) (hH : hostsB c.fi c.la (hostsV c.rs) = true) (hC : clsB (clientsV c.rs) = true) (hS : c.st.all (statB c.zo) = true) : mayC c = true := by
  simp only [headB, Bool.and_eq_true, decide_eq_true_eq] at h
  obtain ⟨⟨⟨⟨⟨h1, h2⟩, h3⟩, h4⟩, h5⟩, h6⟩ := h
  simp [mayC, exB, rsB, stB, h1, h2, h3, h4, h5, h6, hE, hH, hC, hS]
theorem may_ex {c : Cf} (h : mayC c = true) : (∀ n ∈ c.ex, c.fi ≤ n ∧ n ≤ c.la) ∧ c.ex.Nodup := by
  obtain ⟨_, h2, _⟩ := (mayC_iff c).1 h
  simp only [exB, hostsB, onceB, Bool.and_eq_true, decide_eq_true_eq, List.all_eq_true] at h2
  exact ⟨fun n hn => (betw_iff _ _ _).1 (h2.2.1 n hn), h2.2.2⟩
theorem may_rs {c : Cf} (h : mayC c = true) : ((∀ r ∈ c.rs, c.fi ≤ r.h ∧ r.h ≤ c.la) ∧ (c.rs.map (·.h)).Nodup) ∧ (∀ r ∈ c.rs, clB (bs r.c) = true) ∧ (c.rs.map fun r => bs r.c).Nodup := by
  obtain ⟨_, _, h2, _⟩ := (mayC_iff c).1 h
  simp only [rsB, hostsB, clsB, onceB, Bool.and_eq_true, decide_eq_true_eq, List.all_eq_true, hostsV, clientsV, List.mem_map, forall_exists_index, and_imp, forall_apply_eq_imp_iff₂] at h2
  exact ⟨⟨fun r hr => (betw_iff _ _ _).1 (h2.2.1.1 r hr), of_decide_eq_true h2.2.1.2⟩, fun r hr => h2.2.2.1 r hr, of_decide_eq_true h2.2.2.2⟩
theorem may_st {c : Cf} (h : mayC c = true) : ∀ r ∈ c.st, statB c.zo r = true := by
  obtain ⟨_, _, _, _, _, h2⟩ := (mayC_iff c).1 h
  simp only [stB, Bool.and_eq_true, decide_eq_true_eq, List.all_eq_true] at h2
  exact h2.2
/-- A reservation that may be. -/
def rsvP (c : Cf) (r : Rsv) : Prop := (c.fi ≤ r.h ∧ r.h ≤ c.la) ∧ clB (bs r.c) = true
def rsvNe (r s : Rsv) : Prop := r.h ≠ s.h ∧ r.c ≠ s.c
/-- The first j may be, no two of one host or one client. -/
def ofr (c : Cf) (j : Nat) : Prop := ∀ k n, k < j → c.rs[k]? = some n → rsvP c n ∧ ∀ i m, i < k → c.rs[i]? = some m → rsvNe m n
theorem ofr_step {c : Cf} {j : Nat} {n : Rsv} (h : ofr c j) (hx : c.rs[j]? = some n) (hp : rsvP c n) (hn : ∀ i m, i < j → c.rs[i]? = some m → rsvNe m n) : ofr c (j + 1) := fun k m hk hm => by
  by_cases e : k = j
  · subst e
    rw [hx] at hm
    obtain rfl := Option.some.inj hm
    exact ⟨hp, hn⟩
  · exact h k m (by omega) hm
theorem ofr_all {c : Cf} (h : ofr c c.rs.length) : hostsB c.fi c.la (hostsV c.rs) = true ∧ clsB (clientsV c.rs) = true := by
  have h1 : oft (fun n => c.fi ≤ n ∧ n ≤ c.la) (hostsV c.rs) (hostsV c.rs).length := by
    intro k n hk hn
    simp only [hostsV, List.length_map] at hk
    simp only [hostsV, List.getElem?_map, Option.map_eq_some_iff] at hn
    obtain ⟨r, hr, rfl⟩ := hn
    obtain ⟨⟨h2, _⟩, h4⟩ := h k r hk hr
    refine ⟨h2, fun i m hi hm => ?_⟩
    simp only [hostsV, List.getElem?_map, Option.map_eq_some_iff] at hm
    obtain ⟨s, hs, rfl⟩ := hm
    exact (h4 i s hi hs).1
  have h2 : oft (fun s => clB s = true) (clientsV c.rs) (clientsV c.rs).length := by
    intro k n hk hn
    simp only [clientsV, List.length_map] at hk
    simp only [clientsV, List.getElem?_map, Option.map_eq_some_iff] at hn
    obtain ⟨r, hr, rfl⟩ := hn
    obtain ⟨⟨_, h3⟩, h4⟩ := h k r hk hr
    refine ⟨h3, fun i m hi hm => ?_⟩
    simp only [clientsV, List.getElem?_map, Option.map_eq_some_iff] at hm
    obtain ⟨s, hs, rfl⟩ := hm
    exact fun e => (h4 i s hi hs).2 (bs_inj e)
  obtain ⟨a1, a2⟩ := oft_all h1
  obtain ⟨b1, b2⟩ := oft_all h2
  constructor
  · simp only [hostsB, onceB, Bool.and_eq_true, decide_eq_true_eq, List.all_eq_true]
    exact ⟨fun x hx => (betw_iff _ _ _).2 (a1 x hx), a2⟩
  · simp only [clsB, onceB, Bool.and_eq_true, decide_eq_true_eq, List.all_eq_true]
    exact ⟨b1, b2⟩

/-! ### staticMay -/
set_option maxHeartbeats 400000 in
theorem rStatic_no (r : Rec) (z : ByteArray) (w : World) (hn : r.n.size ≤ 1048576) (ht : r.tg.size ≤ 1048576) (h1 : r.ty ≠ 1) (h5 : r.ty ≠ 5) (h16 : r.ty ≠ 16) :
    Calls Try.prog 38 #[rv r, .string z] w fun e w' => e = .returned (.bool false) ∧ Below w.heap.size w w' := by
  have HM : Hid (∀ w, _) := fun w => refMay_c r w hn ht
  have HR : Hid (∀ t, _) := fun t => RecAt.new w r t
  have e1 : (r.ty == 1) = false := by simpa using h1
  have e5 : (r.ty == 5) = false := by simpa using h5
  have e16 : (r.ty == 16) = false := by simpa using h16
  generalize mayR r = k2 at *
  clear hn ht h1 h5 h16
  obtain ⟨n, ty, ttl, ad, tg, tx, se⟩ := r
  simp only [rv] at HM HR e1 e5 e16 ⊢
  go_enter Try.func38, Try.ntmps38
  have A0 : Hid (Below w.heap.size w (w.alloc (.cells #[.string n, .int .i64 ty, .int .i64 ttl, .int .i64 ad, .string tg, .string tx, .int .i64 se] 49))) := (Below.refl _ _).alloc (Nat.le_refl _) _
  go_wp2_with fail
  refine (HM.out _).mono ?_; rintro e w2 ⟨rfl, hb2⟩
  have hR2 := (HR.out 49).below hb2 (by simp)
  have B2 : Hid (Below w.heap.size w w2) := bel_trans A0.out hb2
  obtain ⟨c0, c1, c2, c3, c4, c5, c6, fz, hlt⟩ := hR2
  simp only at c0 c1 c2 c3 c4 c5 c6
  clear hb2 HR HM A0 fz c2 c3 c4 c5 c6
  cases k2
  · go_wp2
    go_ret
    exact ⟨rfl, B2.out⟩
  · go_wp2
    go_ret
    exact ⟨rfl, B2.out⟩
set_option maxHeartbeats 400000 in
theorem rStatic_yes (r : Rec) (z : ByteArray) (w : World) (hn : r.n.size ≤ 1048576) (ht : r.tg.size ≤ 1048576) (hz : z.size ≤ 1048576) (hty : r.ty = 1 ∨ r.ty = 5 ∨ r.ty = 16) :
    Calls Try.prog 38 #[rv r, .string z] w fun e w' => e = .returned (.bool (statB z r)) ∧ Below w.heap.size w w' := by
  have HM : Hid (∀ w, _) := fun w => refMay_c r w hn ht
  have HU : Hid (∀ w, _) := fun w => runder_c r.n z w hn hz
  have HR : Hid (∀ t, _) := fun t => RecAt.new w r t
  have hv : Hid (statB z r = (mayR r && !(r.n.toList == z.toList) && underL (bs r.n) (bs z))) := by
    show _ = _
    have : standT r.ty = true := by rcases hty with h | h | h <;> rw [h] <;> decide
    simp only [statB, this, Bool.true_and]
  generalize statB z r = V at *
  generalize mayR r = k2 at *
  generalize underL (bs r.n) (bs z) = k4 at *
  clear hn hz ht
  obtain ⟨n, ty, ttl, ad, tg, tx, se⟩ := r
  simp only [rv] at HM HU HR hv hty ⊢
  go_enter Try.func38, Try.ntmps38
  have A0 : Hid (Below w.heap.size w (w.alloc (.cells #[.string n, .int .i64 ty, .int .i64 ttl, .int .i64 ad, .string tg, .string tx, .int .i64 se] 49))) := (Below.refl _ _).alloc (Nat.le_refl _) _
  go_wp2_with fail
  refine (HM.out _).mono ?_; rintro e w2 ⟨rfl, hb2⟩
  have hR2 := (HR.out 49).below hb2 (by simp)
  have B2 : Hid (Below w.heap.size w w2) := bel_trans A0.out hb2
  obtain ⟨c0, c1, c2, c3, c4, c5, c6, fz, hlt⟩ := hR2
  simp only at c0 c1 c2 c3 c4 c5 c6
  clear hb2 HR HM A0 fz c2 c3 c4 c5 c6
  cases k2
  · go_wp2
    go_ret
    exact ⟨ret_bool (by simp [hv.out]), B2.out⟩
  cases k3 : (n.toList == z.toList) with
  | true =>
    have Hv : Hid (V = false) := by show _ = _; rw [hv.out, k3]; rfl
    rcases hty with rfl | rfl | rfl
    all_goals
      go_wp2
      go_ret
      exact ⟨ret_bool (by simp [Hv.out]), B2.out⟩
  | false =>
    have Hv : Hid (V = k4) := by show _ = _; rw [hv.out, k3]; simp
    rcases hty with rfl | rfl | rfl
    all_goals
      go_wp2_with fail
      refine (HU.out _).mono ?_; rintro e w3 ⟨rfl, hb3⟩
      go_wp2
      go_ret
      exact ⟨ret_bool (by simp [Hv.out]), bel_trans B2.out hb3⟩
theorem rStatic_c (r : Rec) (z : ByteArray) (w : World) (hn : r.n.size ≤ 1048576) (ht : r.tg.size ≤ 1048576) (hz : z.size ≤ 1048576) :
    Calls Try.prog 38 #[rv r, .string z] w fun e w' => e = .returned (.bool (statB z r)) ∧ Below w.heap.size w w' := by
  by_cases h : r.ty = 1 ∨ r.ty = 5 ∨ r.ty = 16
  · exact rStatic_yes r z w hn ht hz h
  · have hv : statB z r = false := by
      have : standT r.ty = false := by simp only [standT, Bool.or_eq_false_iff, decide_eq_false_iff_not]; omega
      simp [statB, this]
    rw [hv]
    exact rStatic_no r z w hn ht (by omega) (by omega) (by omega)

/-! ### ConfMay -/
set_option maxRecDepth 100000 in
set_option maxHeartbeats 16000000 in
theorem rHead_no (c : Cf) (p : CPl) (w : World) (hz : c.zo.size ≤ 1048576) (h : headB c = false) :
    Calls Try.prog 16 #[cv c p] w fun e w' => e = .returned (.bool false) ∧ Below w.heap.size w w' := by
  have HN : Hid (∀ w, _) := fun w => nameMay_c c.zo w hz
  have HL : Hid (∀ w, _) := fun w => rlabels_c c.zo w hz
  have HH : Hid (¬ _) := fun hh => by rw [(headB_iff c).2 hh] at h; cases h
  have A0 : Hid (Below w.heap.size w (w.alloc (.cells (cellsC c p) 26))) := (Below.refl _ _).alloc (Nat.le_refl _) _
  have BX : Hid (BoxC (w.alloc (.cells (cellsC c p) 26)) w.heap.size c p) := BoxC.new w c p
  have hcell : Hid (∀ (w' : World), BoxC w' w.heap.size c p → _) := fun w' hh => hh.all
  have hbel : Hid (∀ w' w'', BoxC w' w.heap.size c p → Below w'.heap.size w' w'' → BoxC w'' w.heap.size c p) := fun w' w'' h1 h2 => h1.below h2
  obtain ⟨mz, hmz⟩ : ∃ b, mayL (bs c.zo) = b := ⟨_, rfl⟩
  obtain ⟨ls, hls⟩ : ∃ b, labsL (bs c.zo) = b := ⟨_, rfl⟩
  have e0 : (c.zo.toList.isEmpty = true ∧ c.zo.size = 0) ∨ (c.zo.toList.isEmpty = false ∧ c.zo.size ≠ 0) := by
    by_cases e : c.zo.size = 0
    · exact .inl ⟨empty_yes e, e⟩
    · exact .inr ⟨empty_no e, e⟩
  rw [hmz] at HN HH
  rw [hls] at HL HH
  clear h hz hmz hls
  simp only [cv, cellsC] at *
  go_enter Try.func16, Try.ntmps16
  obtain ⟨w0, hw0⟩ : ∃ w0, w.alloc (.cells #[.int .i64 c.fi, .int .i64 c.la, .slice p.ea c.ex.length p.ec, .slice p.ra c.rs.length p.rc, .int .i64 c.ti, .string c.zo, .slice p.sa c.st.length p.sc] 26) = w0 := ⟨_, rfl⟩
  rw [hw0] at *
  clear hw0
  obtain ⟨c0, c1, c2, c3, c4, c5, c6⟩ := hcell.out _ BX.out
  by_cases ga1 : c.fi < 2
  · have da1 : decide (c.fi < 2) = true := by simpa using ga1
    go_wp2
    go_ret
    exact ⟨rfl, A0.out⟩
  have da1 : decide (c.fi < 2) = false := by simpa using ga1
  by_cases ga2 : 254 < c.la
  · have da2 : decide (254 < c.la) = true := by simpa using ga2
    go_wp2
    go_ret
    exact ⟨rfl, A0.out⟩
  have da2 : decide (254 < c.la) = false := by simpa using ga2
  by_cases ga3 : c.la < c.fi
  · have da3 : decide (c.la < c.fi) = true := by simpa using ga3
    go_wp2
    go_ret
    exact ⟨rfl, A0.out⟩
  have da3 : decide (c.la < c.fi) = false := by simpa using ga3
  by_cases ga4 : 8 ≤ c.la - c.fi
  · have da4 : decide (8 ≤ c.la - c.fi) = true := by simpa using ga4
    go_wp2
    go_ret
    exact ⟨rfl, A0.out⟩
  have da4 : decide (8 ≤ c.la - c.fi) = false := by simpa using ga4
  by_cases ga5 : 8 < (c.ex.length : Int)
  · have da5 : decide (8 < (c.ex.length : Int)) = true := by simpa using ga5
    go_wp2
    go_ret
    exact ⟨rfl, A0.out⟩
  have da5 : decide (8 < (c.ex.length : Int)) = false := by simpa using ga5
  by_cases ga6 : 4 < (c.rs.length : Int)
  · have da6 : decide (4 < (c.rs.length : Int)) = true := by simpa using ga6
    go_wp2
    go_ret
    exact ⟨rfl, A0.out⟩
  have da6 : decide (4 < (c.rs.length : Int)) = false := by simpa using ga6
  by_cases ga7 : c.ti < 1
  · have da7 : decide (c.ti < 1) = true := by simpa using ga7
    go_wp2
    go_ret
    exact ⟨rfl, A0.out⟩
  have da7 : decide (c.ti < 1) = false := by simpa using ga7
  by_cases ga8 : 1048576 < c.ti
  · have da8 : decide (1048576 < c.ti) = true := by simpa using ga8
    go_wp2
    go_ret
    exact ⟨rfl, A0.out⟩
  have da8 : decide (1048576 < c.ti) = false := by simpa using ga8
  rcases e0 with ⟨e0, g0⟩ | ⟨e0, g0⟩
  · go_wp2
    go_ret
    exact ⟨rfl, A0.out⟩
  go_wp2_with fail
  refine (HN.out _).mono ?_; rintro e w2 ⟨rfl, hb⟩
  have X2 : Hid (BoxC w2 w.heap.size c p) := hbel.out _ _ BX.out hb
  have B2 : Hid (Below w.heap.size w w2) := bel_trans A0.out hb
  clear c0 c1 c2 c3 c4 c5 c6 hb BX A0 HN
  obtain ⟨c0, c1, c2, c3, c4, c5, c6⟩ := hcell.out _ X2.out
  cases mz
  · go_wp2
    go_ret
    exact ⟨rfl, B2.out⟩
  go_wp2_with fail
  refine (HL.out _).mono ?_; rintro e w3 ⟨⟨v, rfl, hT⟩, hb⟩
  obtain ⟨a, cap, rfl⟩ := hT.form
  have X3 : Hid (BoxC w3 w.heap.size c p) := hbel.out _ _ X2.out hb
  have B3 : Hid (Below w.heap.size w w3) := bel_trans B2.out hb
  clear c0 c1 c2 c3 c4 c5 c6 hb hT X2 B2 HL
  obtain ⟨c0, c1, c2, c3, c4, c5, c6⟩ := hcell.out _ X3.out
  by_cases g9 : 4 < (ls.length : Int)
  · go_wp2
    go_ret
    exact ⟨rfl, B3.out⟩
  have a9 : decide (4 < (ls.length : Int)) = false := by simpa using g9
  by_cases g10 : 8 < (c.st.length : Int)
  · go_wp2
    go_ret
    exact ⟨rfl, B3.out⟩
  exfalso
  refine HH.out ⟨⟨?_, ?_, ?_, ?_⟩, ?_, ?_, ⟨?_, ?_⟩, ⟨g0, by first | rfl | trivial, ?_⟩, ?_⟩ <;> omega

end Go.Proofs.Ytedbihckdbpebaa
