/-
  Contracts of package conf's Usable, Owner and Reserved, at every configuration.
-/
import Derived.Test.YtedbihckdbpebaaConfRes
import Derived.Test.YtedbihckdbpebaaShelf2
import Derived.BigQuiet
import Derived.Deep.DeepCutAuto
import Derived.Deep.CutRange
namespace Go.Proofs.Ytedbihckdbpebaa
open Go.ChangeShapes Go.WideShapes Go.ChangeAt Go.RowKit Go.Pin Go.PlainAid

theorem may_sizes {c : Cf} (h : mayC c = true) : c.ex.length ≤ 8 ∧ c.rs.length ≤ 4 ∧ c.st.length ≤ 8 := by
  obtain ⟨_, h1, h2, _, _, h3⟩ := (mayC_iff c).1 h
  simp only [exB, rsB, stB, Bool.and_eq_true, decide_eq_true_eq] at h1 h2 h3
  exact ⟨h1.1, h2.1, h3.1⟩
/-- Where the first is that is asked for. -/
def Found (rs : List Rsv) (q : Rsv → Bool) (i : Int) : Prop := (i = -1 ∧ rs.find? q = none) ∨ ∃ (j : Nat) (r : Rsv), i = j ∧ rs[j]? = some r ∧ rs.find? q = some r
theorem found_at {rs : List Rsv} {q : Rsv → Bool} {j : Nat} (hj : j < rs.length) (h1 : ∀ k, (hk : k < rs.length) → k < j → q rs[k] = false) (h2 : q rs[j] = true) : Found rs q j :=
  .inr ⟨j, rs[j], rfl, List.getElem?_eq_getElem hj, List.find?_eq_some_iff_getElem.2 ⟨h2, j, hj, rfl, fun k hk => by rw [h1 k (by omega) hk]; rfl⟩⟩
theorem found_no {rs : List Rsv} {q : Rsv → Bool} (h : ∀ k, (hk : k < rs.length) → q rs[k] = false) : Found rs q (-1) :=
  .inl ⟨rfl, List.find?_eq_none.2 fun x hx => by
    obtain ⟨k, hk, rfl⟩ := List.mem_iff_getElem.1 hx
    rw [h k hk]; simp⟩
theorem findV_none (a : Option Addr) (cap : Nat) (f : Value) (w : World) :
    Calls Try.prog 43 #[.slice a 0 cap, f] w fun e w' => e = .returned (.int .i64 (-1)) ∧ w' = w := by
  go_enter Try.func43, Try.ntmps43
  go_wp2
  go_rounds 1
  go_ret
  exact ⟨rfl, rfl⟩

set_option maxHeartbeats 400000 in
theorem findH_c (a : Option Addr) (cap : Nat) (rs : List Rsv) (w : World) (cp : Addr) (q : Rsv → Bool) (hl : rs.length ≤ 1000000) (h : RsvsLie w a rs)
    (hf : ∀ r, ∀ wr, Below w.heap.size w wr → Calls Try.prog 26 #[qv r, .pointer (some cp)] wr fun e w' => e = .returned (.bool (q r)) ∧ Below wr.heap.size wr w') :
    Calls Try.prog 43 #[.slice a rs.length cap, .func (.func 26) #[] #[.pointer (some cp)]] w fun e w' => (∃ i : Int, e = .returned (.int .i64 i) ∧ Found rs q i) ∧ Below w.heap.size w w' := by
  rcases h with rfl | ⟨x, rfl, h⟩
  · exact (findV_none a cap _ w).mono fun e w' ⟨h1, h2⟩ => ⟨⟨-1, h1, .inl ⟨rfl, rfl⟩⟩, by rw [h2]; exact Below.refl _ _⟩
  have H : Hid (∀ j, (hj : j < rs.length) → RsvFrom w (x.add (j * 2)) rs[j]) := fun j hj => h j _ (List.getElem?_eq_getElem hj)
  have HF : Hid (∀ r, ∀ wr, Below w.heap.size w wr → _) := hf
  have Hyes : Hid (∀ j, (hj : j < rs.length) → (∀ k, (hk : k < rs.length) → k < j → q rs[k] = false) → q rs[j] = true → Found rs q j) := fun j hj h1 h2 => found_at hj h1 h2
  have Hno : Hid ((∀ k, (hk : k < rs.length) → q rs[k] = false) → Found rs q (-1)) := found_no
  clear h hf
  go_enter Try.func43, Try.ntmps43
  go_wp2
  go_loopw [8] (fun i wr => ∃ j : Nat, j ≤ rs.length ∧ i = .int .i64 j ∧ Hid (∀ k, (hk : k < rs.length) → k < j → q rs[k] = false) ∧ Below w.heap.size w wr) (fun i _ => rs.length - (intOf i).toNat)
  case atStart => exact ⟨0, Nat.zero_le _, rfl, fun k hk hk0 => by omega, Below.refl _ _⟩
  case round =>
    obtain ⟨j, hj, rfl, hall, B⟩ := hrel
    by_cases hlt : j < rs.length
    · have hc := (H.out j hlt).below B
      have hcall := HF.out rs[j] wr B
      have HC : Hid (∀ _ : Unit, _) := fun _ => hcall
      have HY : Hid (q rs[j] = true → Found rs q j) := fun h => Hyes.out j hlt (fun k hk hk1 => hall.out k hk hk1) h
      have hall' : Hid (q rs[j] = false → ∀ k, (hk : k < rs.length) → k < j + 1 → q rs[k] = false) := fun hk k hkl hk1 => by
        by_cases e : k = j
        · subst e; exact hk
        · exact hall.out k hkl (by omega)
      clear hall hcall
      generalize rs[j] = r at *
      obtain ⟨h0, h1⟩ := hc
      generalize q r = qr at HC HY hall' ⊢
      obtain ⟨rc, rh⟩ := r
      simp only [qv] at HC h0 h1
      cases qr with
      | true =>
        have HV : Hid (Found rs q j) := HY.out rfl
        clear hall' HY
        go_wp2_with fail
        refine (HC.out ()).mono ?_; rintro e w1 ⟨rfl, hb1⟩
        replace B := B.trans (hb1.mono B.size)
        clear h0 h1 hb1
        go_wp2
        go_ret
        exact ⟨⟨j, rfl, HV.out⟩, B⟩
      | false =>
        have Hall : Hid (∀ k, (hk : k < rs.length) → k < j + 1 → q rs[k] = false) := hall'.out rfl
        clear hall' HY
        go_wp2_with fail
        refine (HC.out ()).mono ?_; rintro e w1 ⟨rfl, hb1⟩
        replace B := B.trans (hb1.mono B.size)
        clear h0 h1 hb1
        go_wp2
        go_roundw
        case rel => exact ⟨j + 1, by omega, by go_num, Hall, B⟩
        case measure => simp [intOf]; omega
    · obtain rfl : j = rs.length := by omega
      have HV : Hid (Found rs q (-1)) := Hno.out fun k hk => hall.out k hk hk
      go_wp2
      go_ret
      exact ⟨⟨-1, rfl, HV.out⟩, B⟩

set_option maxHeartbeats 1000000 in
theorem reserveH_c (c : Cf) (p : CPl) (w : World) (cp : Addr) (q : Rsv → Bool) (hL : CfLies w c p) (hF : CfFits c)
    (hf : ∀ r, ∀ wr, Below w.heap.size w wr → Calls Try.prog 26 #[qv r, .pointer (some cp)] wr fun e w' => e = .returned (.bool (q r)) ∧ Below wr.heap.size wr w') :
    Calls Try.prog 25 #[cv c p, .func (.func 26) #[] #[.pointer (some cp)]] w fun e w' => e = .returned (.tuple #[qv (resC c q).1, .bool (resC c q).2]) ∧ Below w.heap.size w w' := by
  have HM : Hid (∀ w', Below w.heap.size w w' → _) := fun w' hb => cMay_c c p w' (hL.below hb) hF
  have HI : Hid (mayC c = true → ∀ w', Below w.heap.size w w' → _) := fun hm w' hb => findH_c p.ra p.rc c.rs w' cp q (by have := may_sizes hm; omega) (hL.r.below hb) (fun r wr hbr => hf r wr (hb.trans (hbr.mono hb.size)))
  have HA : Hid (∀ j r, c.rs[j]? = some r → ∀ w', Below w.heap.size w w' → ∃ x, p.ra = some x ∧ RsvFrom w' (x.add (j * 2)) r) := fun j r hj w' hb => by
    rcases hL.r.below hb with h | ⟨x, h1, h2⟩
    · rw [h] at hj; simp at hj
    · exact ⟨x, h1, h2 j r hj⟩
  have hno : Hid (mayC c = false → resC c q = (zeroV, false)) := fun hm => by simp [resC, hm]
  have hyes : Hid (mayC c = true → ∀ i, Found c.rs q i → (i = -1 ∧ resC c q = (zeroV, false)) ∨ ∃ (j : Nat) (r : Rsv), i = j ∧ c.rs[j]? = some r ∧ resC c q = (r, true)) := fun hm i hi => by
    rcases hi with ⟨h1, h2⟩ | ⟨j, r, h1, h2, h3⟩
    · exact .inl ⟨h1, by simp [resC, hm, h2]⟩
    · exact .inr ⟨j, r, h1, h2, by simp [resC, hm, h3]⟩
  obtain ⟨w0, hw0⟩ : ∃ w0, (w.alloc (.cells (cellsC c p) 26)).alloc (.cells #[.string ⟨#[]⟩, .int .i64 0] 47) = w0 := ⟨_, rfl⟩
  have X0 : Hid (BoxC w0 w.heap.size c p) := by
    show BoxC _ _ _ _
    rw [← hw0]; exact (BoxC.new w c p).below ((Below.refl _ _).alloc (Nat.le_refl _) _)
  have B0 : Hid (Below w.heap.size w w0) := by
    show Below _ _ _
    rw [← hw0]; exact ((Below.refl _ _).alloc (Nat.le_refl _) _).alloc (by simp) _
  have R0 : Hid (w0.cell? ⟨w.heap.size + 1, 0, none⟩ = some (.string ⟨#[]⟩) ∧ w0.cell? ⟨w.heap.size + 1, 1, none⟩ = some (.int .i64 0) ∧ w0.frozen? ⟨w.heap.size + 1, 0, none⟩ = false ∧ w0.frozen? ⟨w.heap.size + 1, 1, none⟩ = false) := by
    have e : w.heap.size + 1 = (w.alloc (.cells (cellsC c p) 26)).heap.size := by simp
    show _ ∧ _
    rw [← hw0, e]
    exact ⟨new_cell _ _ _ 0 _ rfl, new_cell _ _ _ 1 _ rfl, new_frozen _ _ _ 0, new_frozen _ _ _ 1⟩
  have S0 : Hid (w.heap.size + 1 < w0.heap.size) := by show _ < _; rw [← hw0]; simp
  have hcell : Hid (∀ (w' : World), BoxC w' w.heap.size c p → _) := fun w' hh => hh.all
  have hbel : Hid (∀ w' w'', BoxC w' w.heap.size c p → Below w'.heap.size w' w'' → BoxC w'' w.heap.size c p) := fun w' w'' h1 h2 => h1.below h2
  generalize resC c q = R at *
  generalize mayC c = m at *
  clear hL hF hf
  simp only [cv, cellsC] at *
  have Hw0 : Hid (_ = w0) := hw0
  clear hw0
  go_enter Try.func25, Try.ntmps25
  go_upto_region 1 with fail
  rw [Hw0.out]
  clear Hw0
  obtain ⟨c0, c1, c2, c3, c4, c5, c6⟩ := hcell.out _ X0.out
  go_wp2_with fail
  refine (HM.out _ B0.out).mono ?_; rintro e w1 ⟨rfl, hb⟩
  have X1 : Hid (BoxC w1 w.heap.size c p) := hbel.out _ _ X0.out hb
  have B1 : Hid (Below w.heap.size w w1) := bel_trans B0.out hb
  obtain ⟨z0, z1, y0, y1⟩ := R0.out
  have hs := S0.out
  have z0 := (hb.cell hs).trans z0
  have z1 := (hb.cell (p := ⟨w.heap.size + 1, 1, none⟩) hs).trans z1
  have y0 := (hb.frozen hs).trans y0
  have y1 := (hb.frozen (p := ⟨w.heap.size + 1, 1, none⟩) hs).trans y1
  have S1 : Hid (w.heap.size + 1 < w1.heap.size) := by have := hb.size; show _ < _; omega
  clear c0 c1 c2 c3 c4 c5 c6 hb X0 B0 R0 S0 hs HM
  have fin : Hid (∀ (w' : World) (u v : Value), Below w.heap.size w w' → Below w.heap.size w ((w'.setCell ⟨w.heap.size + 1, 0, none⟩ u).setCell ⟨w.heap.size + 1, 1, none⟩ v)) := fun w' u v h => (h.setCell (by simp) _).setCell (by simp) _
  have fget : Hid (∀ (w' : World) (u v u0 v0 : Value), w'.cell? ⟨w.heap.size + 1, 0, none⟩ = some u0 → w'.cell? ⟨w.heap.size + 1, 1, none⟩ = some v0 → ((w'.setCell ⟨w.heap.size + 1, 0, none⟩ u).setCell ⟨w.heap.size + 1, 1, none⟩ v).cell? ⟨w.heap.size + 1, 0, none⟩ = some u ∧ ((w'.setCell ⟨w.heap.size + 1, 0, none⟩ u).setCell ⟨w.heap.size + 1, 1, none⟩ v).cell? ⟨w.heap.size + 1, 1, none⟩ = some v) := fun w' u v u0 v0 h0 h1 => by
    have e : (w'.setCell ⟨w.heap.size + 1, 0, none⟩ u).cell? ⟨w.heap.size + 1, 1, none⟩ = some v0 := by rw [World.cell?_setCell_other _ _ _ _ (by intro e; injection e with _ e; omega)]; exact h1
    exact ⟨by rw [World.cell?_setCell_other _ _ _ _ (by intro e; injection e with _ e; omega)]; exact World.cell?_setCell_same _ _ _ h0, World.cell?_setCell_same _ _ _ e⟩
  have done : Hid (∀ (w' : World) (r : Rsv) (b : Bool), Below w.heap.size w w' → w'.cell? ⟨w.heap.size + 1, 0, none⟩ = some (.string ⟨#[]⟩) → w'.cell? ⟨w.heap.size + 1, 1, none⟩ = some (.int .i64 0) → ∀ (t : Array Value), t[4]? = some (.pointer (some ⟨w.heap.size + 1, 0, none⟩)) → t[5]? = some (.bool b) →
      bodyPost Try.prog Try.f25 (fun e w' => e = .returned (.tuple #[qv r, .bool b]) ∧ Below w.heap.size w w') Exit.ret { tmps := t, defers := [] } ((w'.setCell ⟨w.heap.size + 1, 0, none⟩ (.string r.c)).setCell ⟨w.heap.size + 1, 1, none⟩ (.int .i64 r.h))) := fun w' r b hB h0 h1 t h4 h5 => by
    obtain ⟨g0, g1⟩ := fget.out w' (.string r.c) (.int .i64 r.h) _ _ h0 h1
    refine bodyPost_ret (v := .tuple #[qv r, .bool b]) ?_ rfl ⟨rfl, fin.out w' _ _ hB⟩
    simp [results, Try.results25, go_sem, h4, h5, g0, g1, qv]
  clear fin fget
  cases m with
  | false =>
    have hR := hno.out rfl
    subst hR
    clear HI HA hno hyes hcell hbel X1
    go_wp2
    exact done.out w1 zeroV false B1.out z0 z1 _ rfl rfl
  | true =>
    have HIc : Hid (∀ w', Below w.heap.size w w' → _) := HI.out rfl
    have Hy : Hid (∀ i, Found c.rs q i → _) := hyes.out rfl
    obtain ⟨c0, c1, c2, c3, c4, c5, c6⟩ := hcell.out _ X1.out
    clear HI hno hyes
    go_wp2_with fail
    refine (HIc.out _ B1.out).mono ?_; rintro e w2 ⟨⟨i, rfl, hi⟩, hb⟩
    have X2 : Hid (BoxC w2 w.heap.size c p) := hbel.out _ _ X1.out hb
    have B2 : Hid (Below w.heap.size w w2) := bel_trans B1.out hb
    have hs := S1.out
    have z0 := (hb.cell hs).trans z0
    have z1 := (hb.cell (p := ⟨w.heap.size + 1, 1, none⟩) hs).trans z1
    have y0 := (hb.frozen hs).trans y0
    have y1 := (hb.frozen (p := ⟨w.heap.size + 1, 1, none⟩) hs).trans y1
    clear c0 c1 c2 c3 c4 c5 c6 hb B1 X1 hs S1 HIc
    rcases Hy.out i hi with ⟨rfl, hR⟩ | ⟨j, ⟨rc, rh⟩, rfl, hj, hR⟩
    · subst hR
      clear HA Hy hi hcell hbel X2
      go_wp2
      exact done.out w2 zeroV false B2.out z0 z1 _ rfl rfl
    · subst hR
      obtain ⟨x, hx, h0, h1⟩ := HA.out j _ hj w2 B2.out
      have hjl := (List.getElem?_eq_some_iff.1 hj).1
      simp only at h0 h1
      obtain ⟨c0, c1, c2, c3, c4, c5, c6⟩ := hcell.out _ X2.out
      rw [hx] at c3
      have hn : decide ((j : Int) < 0) = false := by simp
      have hjl' : (j : Int) < (c.rs.length : Int) := by omega
      clear HA Hy hi hcell hbel X2 hj hx
      go_wp2
      exact done.out w2 ⟨rc, rh⟩ true B2.out z0 z1 _ rfl rfl

set_option maxHeartbeats 400000 in
theorem findC_c (a : Option Addr) (cap : Nat) (rs : List Rsv) (w : World) (cp : Addr) (q : Rsv → Bool) (hl : rs.length ≤ 1000000) (h : RsvsLie w a rs)
    (hf : ∀ r, ∀ wr, Below w.heap.size w wr → Calls Try.prog 28 #[qv r, .pointer (some cp)] wr fun e w' => e = .returned (.bool (q r)) ∧ Below wr.heap.size wr w') :
    Calls Try.prog 43 #[.slice a rs.length cap, .func (.func 28) #[] #[.pointer (some cp)]] w fun e w' => (∃ i : Int, e = .returned (.int .i64 i) ∧ Found rs q i) ∧ Below w.heap.size w w' := by
  rcases h with rfl | ⟨x, rfl, h⟩
  · exact (findV_none a cap _ w).mono fun e w' ⟨h1, h2⟩ => ⟨⟨-1, h1, .inl ⟨rfl, rfl⟩⟩, by rw [h2]; exact Below.refl _ _⟩
  have H : Hid (∀ j, (hj : j < rs.length) → RsvFrom w (x.add (j * 2)) rs[j]) := fun j hj => h j _ (List.getElem?_eq_getElem hj)
  have HF : Hid (∀ r, ∀ wr, Below w.heap.size w wr → _) := hf
  have Hyes : Hid (∀ j, (hj : j < rs.length) → (∀ k, (hk : k < rs.length) → k < j → q rs[k] = false) → q rs[j] = true → Found rs q j) := fun j hj h1 h2 => found_at hj h1 h2
  have Hno : Hid ((∀ k, (hk : k < rs.length) → q rs[k] = false) → Found rs q (-1)) := found_no
  clear h hf
  go_enter Try.func43, Try.ntmps43
  go_wp2
  go_loopw [8] (fun i wr => ∃ j : Nat, j ≤ rs.length ∧ i = .int .i64 j ∧ Hid (∀ k, (hk : k < rs.length) → k < j → q rs[k] = false) ∧ Below w.heap.size w wr) (fun i _ => rs.length - (intOf i).toNat)
  case atStart => exact ⟨0, Nat.zero_le _, rfl, fun k hk hk0 => by omega, Below.refl _ _⟩
  case round =>
    obtain ⟨j, hj, rfl, hall, B⟩ := hrel
    by_cases hlt : j < rs.length
    · have hc := (H.out j hlt).below B
      have hcall := HF.out rs[j] wr B
      have HC : Hid (∀ _ : Unit, _) := fun _ => hcall
      have HY : Hid (q rs[j] = true → Found rs q j) := fun h => Hyes.out j hlt (fun k hk hk1 => hall.out k hk hk1) h
      have hall' : Hid (q rs[j] = false → ∀ k, (hk : k < rs.length) → k < j + 1 → q rs[k] = false) := fun hk k hkl hk1 => by
        by_cases e : k = j
        · subst e; exact hk
        · exact hall.out k hkl (by omega)
      clear hall hcall
      generalize rs[j] = r at *
      obtain ⟨h0, h1⟩ := hc
      generalize q r = qr at HC HY hall' ⊢
      obtain ⟨rc, rh⟩ := r
      simp only [qv] at HC h0 h1
      cases qr with
      | true =>
        have HV : Hid (Found rs q j) := HY.out rfl
        clear hall' HY
        go_wp2_with fail
        refine (HC.out ()).mono ?_; rintro e w1 ⟨rfl, hb1⟩
        replace B := B.trans (hb1.mono B.size)
        clear h0 h1 hb1
        go_wp2
        go_ret
        exact ⟨⟨j, rfl, HV.out⟩, B⟩
      | false =>
        have Hall : Hid (∀ k, (hk : k < rs.length) → k < j + 1 → q rs[k] = false) := hall'.out rfl
        clear hall' HY
        go_wp2_with fail
        refine (HC.out ()).mono ?_; rintro e w1 ⟨rfl, hb1⟩
        replace B := B.trans (hb1.mono B.size)
        clear h0 h1 hb1
        go_wp2
        go_roundw
        case rel => exact ⟨j + 1, by omega, by go_num, Hall, B⟩
        case measure => simp [intOf]; omega
    · obtain rfl : j = rs.length := by omega
      have HV : Hid (Found rs q (-1)) := Hno.out fun k hk => hall.out k hk hk
      go_wp2
      go_ret
      exact ⟨⟨-1, rfl, HV.out⟩, B⟩

set_option maxHeartbeats 1000000 in
theorem reserveC_c (c : Cf) (p : CPl) (w : World) (cp : Addr) (q : Rsv → Bool) (hL : CfLies w c p) (hF : CfFits c)
    (hf : ∀ r, ∀ wr, Below w.heap.size w wr → Calls Try.prog 28 #[qv r, .pointer (some cp)] wr fun e w' => e = .returned (.bool (q r)) ∧ Below wr.heap.size wr w') :
    Calls Try.prog 25 #[cv c p, .func (.func 28) #[] #[.pointer (some cp)]] w fun e w' => e = .returned (.tuple #[qv (resC c q).1, .bool (resC c q).2]) ∧ Below w.heap.size w w' := by
  have HM : Hid (∀ w', Below w.heap.size w w' → _) := fun w' hb => cMay_c c p w' (hL.below hb) hF
  have HI : Hid (mayC c = true → ∀ w', Below w.heap.size w w' → _) := fun hm w' hb => findC_c p.ra p.rc c.rs w' cp q (by have := may_sizes hm; omega) (hL.r.below hb) (fun r wr hbr => hf r wr (hb.trans (hbr.mono hb.size)))
  have HA : Hid (∀ j r, c.rs[j]? = some r → ∀ w', Below w.heap.size w w' → ∃ x, p.ra = some x ∧ RsvFrom w' (x.add (j * 2)) r) := fun j r hj w' hb => by
    rcases hL.r.below hb with h | ⟨x, h1, h2⟩
    · rw [h] at hj; simp at hj
    · exact ⟨x, h1, h2 j r hj⟩
  have hno : Hid (mayC c = false → resC c q = (zeroV, false)) := fun hm => by simp [resC, hm]
  have hyes : Hid (mayC c = true → ∀ i, Found c.rs q i → (i = -1 ∧ resC c q = (zeroV, false)) ∨ ∃ (j : Nat) (r : Rsv), i = j ∧ c.rs[j]? = some r ∧ resC c q = (r, true)) := fun hm i hi => by
    rcases hi with ⟨h1, h2⟩ | ⟨j, r, h1, h2, h3⟩
    · exact .inl ⟨h1, by simp [resC, hm, h2]⟩
    · exact .inr ⟨j, r, h1, h2, by simp [resC, hm, h3]⟩
  obtain ⟨w0, hw0⟩ : ∃ w0, (w.alloc (.cells (cellsC c p) 26)).alloc (.cells #[.string ⟨#[]⟩, .int .i64 0] 47) = w0 := ⟨_, rfl⟩
  have X0 : Hid (BoxC w0 w.heap.size c p) := by
    show BoxC _ _ _ _
    rw [← hw0]; exact (BoxC.new w c p).below ((Below.refl _ _).alloc (Nat.le_refl _) _)
  have B0 : Hid (Below w.heap.size w w0) := by
    show Below _ _ _
    rw [← hw0]; exact ((Below.refl _ _).alloc (Nat.le_refl _) _).alloc (by simp) _
  have R0 : Hid (w0.cell? ⟨w.heap.size + 1, 0, none⟩ = some (.string ⟨#[]⟩) ∧ w0.cell? ⟨w.heap.size + 1, 1, none⟩ = some (.int .i64 0) ∧ w0.frozen? ⟨w.heap.size + 1, 0, none⟩ = false ∧ w0.frozen? ⟨w.heap.size + 1, 1, none⟩ = false) := by
    have e : w.heap.size + 1 = (w.alloc (.cells (cellsC c p) 26)).heap.size := by simp
    show _ ∧ _
    rw [← hw0, e]
    exact ⟨new_cell _ _ _ 0 _ rfl, new_cell _ _ _ 1 _ rfl, new_frozen _ _ _ 0, new_frozen _ _ _ 1⟩
  have S0 : Hid (w.heap.size + 1 < w0.heap.size) := by show _ < _; rw [← hw0]; simp
  have hcell : Hid (∀ (w' : World), BoxC w' w.heap.size c p → _) := fun w' hh => hh.all
  have hbel : Hid (∀ w' w'', BoxC w' w.heap.size c p → Below w'.heap.size w' w'' → BoxC w'' w.heap.size c p) := fun w' w'' h1 h2 => h1.below h2
  generalize resC c q = R at *
  generalize mayC c = m at *
  clear hL hF hf
  simp only [cv, cellsC] at *
  have Hw0 : Hid (_ = w0) := hw0
  clear hw0
  go_enter Try.func25, Try.ntmps25
  go_upto_region 1 with fail
  rw [Hw0.out]
  clear Hw0
  obtain ⟨c0, c1, c2, c3, c4, c5, c6⟩ := hcell.out _ X0.out
  go_wp2_with fail
  refine (HM.out _ B0.out).mono ?_; rintro e w1 ⟨rfl, hb⟩
  have X1 : Hid (BoxC w1 w.heap.size c p) := hbel.out _ _ X0.out hb
  have B1 : Hid (Below w.heap.size w w1) := bel_trans B0.out hb
  obtain ⟨z0, z1, y0, y1⟩ := R0.out
  have hs := S0.out
  have z0 := (hb.cell hs).trans z0
  have z1 := (hb.cell (p := ⟨w.heap.size + 1, 1, none⟩) hs).trans z1
  have y0 := (hb.frozen hs).trans y0
  have y1 := (hb.frozen (p := ⟨w.heap.size + 1, 1, none⟩) hs).trans y1
  have S1 : Hid (w.heap.size + 1 < w1.heap.size) := by have := hb.size; show _ < _; omega
  clear c0 c1 c2 c3 c4 c5 c6 hb X0 B0 R0 S0 hs HM
  have fin : Hid (∀ (w' : World) (u v : Value), Below w.heap.size w w' → Below w.heap.size w ((w'.setCell ⟨w.heap.size + 1, 0, none⟩ u).setCell ⟨w.heap.size + 1, 1, none⟩ v)) := fun w' u v h => (h.setCell (by simp) _).setCell (by simp) _
  have fget : Hid (∀ (w' : World) (u v u0 v0 : Value), w'.cell? ⟨w.heap.size + 1, 0, none⟩ = some u0 → w'.cell? ⟨w.heap.size + 1, 1, none⟩ = some v0 → ((w'.setCell ⟨w.heap.size + 1, 0, none⟩ u).setCell ⟨w.heap.size + 1, 1, none⟩ v).cell? ⟨w.heap.size + 1, 0, none⟩ = some u ∧ ((w'.setCell ⟨w.heap.size + 1, 0, none⟩ u).setCell ⟨w.heap.size + 1, 1, none⟩ v).cell? ⟨w.heap.size + 1, 1, none⟩ = some v) := fun w' u v u0 v0 h0 h1 => by
    have e : (w'.setCell ⟨w.heap.size + 1, 0, none⟩ u).cell? ⟨w.heap.size + 1, 1, none⟩ = some v0 := by rw [World.cell?_setCell_other _ _ _ _ (by intro e; injection e with _ e; omega)]; exact h1
    exact ⟨by rw [World.cell?_setCell_other _ _ _ _ (by intro e; injection e with _ e; omega)]; exact World.cell?_setCell_same _ _ _ h0, World.cell?_setCell_same _ _ _ e⟩
  have done : Hid (∀ (w' : World) (r : Rsv) (b : Bool), Below w.heap.size w w' → w'.cell? ⟨w.heap.size + 1, 0, none⟩ = some (.string ⟨#[]⟩) → w'.cell? ⟨w.heap.size + 1, 1, none⟩ = some (.int .i64 0) → ∀ (t : Array Value), t[4]? = some (.pointer (some ⟨w.heap.size + 1, 0, none⟩)) → t[5]? = some (.bool b) →
      bodyPost Try.prog Try.f25 (fun e w' => e = .returned (.tuple #[qv r, .bool b]) ∧ Below w.heap.size w w') Exit.ret { tmps := t, defers := [] } ((w'.setCell ⟨w.heap.size + 1, 0, none⟩ (.string r.c)).setCell ⟨w.heap.size + 1, 1, none⟩ (.int .i64 r.h))) := fun w' r b hB h0 h1 t h4 h5 => by
    obtain ⟨g0, g1⟩ := fget.out w' (.string r.c) (.int .i64 r.h) _ _ h0 h1
    refine bodyPost_ret (v := .tuple #[qv r, .bool b]) ?_ rfl ⟨rfl, fin.out w' _ _ hB⟩
    simp [results, Try.results25, go_sem, h4, h5, g0, g1, qv]
  clear fin fget
  cases m with
  | false =>
    have hR := hno.out rfl
    subst hR
    clear HI HA hno hyes hcell hbel X1
    go_wp2
    exact done.out w1 zeroV false B1.out z0 z1 _ rfl rfl
  | true =>
    have HIc : Hid (∀ w', Below w.heap.size w w' → _) := HI.out rfl
    have Hy : Hid (∀ i, Found c.rs q i → _) := hyes.out rfl
    obtain ⟨c0, c1, c2, c3, c4, c5, c6⟩ := hcell.out _ X1.out
    clear HI hno hyes
    go_wp2_with fail
    refine (HIc.out _ B1.out).mono ?_; rintro e w2 ⟨⟨i, rfl, hi⟩, hb⟩
    have X2 : Hid (BoxC w2 w.heap.size c p) := hbel.out _ _ X1.out hb
    have B2 : Hid (Below w.heap.size w w2) := bel_trans B1.out hb
    have hs := S1.out
    have z0 := (hb.cell hs).trans z0
    have z1 := (hb.cell (p := ⟨w.heap.size + 1, 1, none⟩) hs).trans z1
    have y0 := (hb.frozen hs).trans y0
    have y1 := (hb.frozen (p := ⟨w.heap.size + 1, 1, none⟩) hs).trans y1
    clear c0 c1 c2 c3 c4 c5 c6 hb B1 X1 hs S1 HIc
    rcases Hy.out i hi with ⟨rfl, hR⟩ | ⟨j, ⟨rc, rh⟩, rfl, hj, hR⟩
    · subst hR
      clear HA Hy hi hcell hbel X2
      go_wp2
      exact done.out w2 zeroV false B2.out z0 z1 _ rfl rfl
    · subst hR
      obtain ⟨x, hx, h0, h1⟩ := HA.out j _ hj w2 B2.out
      have hjl := (List.getElem?_eq_some_iff.1 hj).1
      simp only at h0 h1
      obtain ⟨c0, c1, c2, c3, c4, c5, c6⟩ := hcell.out _ X2.out
      rw [hx] at c3
      have hn : decide ((j : Int) < 0) = false := by simp
      have hjl' : (j : Int) < (c.rs.length : Int) := by omega
      clear HA Hy hi hcell hbel X2 hj hx
      go_wp2
      exact done.out w2 ⟨rc, rh⟩ true B2.out z0 z1 _ rfl rfl

theorem isHost_c (h : Int) (bh : Nat) (r : Rsv) (w : World) (hc : w.cell? ⟨bh, 0, none⟩ = some (.int .i64 h)) :
    Calls Try.prog 26 #[qv r, .pointer (some ⟨bh, 0, none⟩)] w fun e w' => e = .returned (.bool (byHost h r)) ∧ Below w.heap.size w w' := by
  have hv : byHost h r = (r.h == h) := rfl
  rw [hv]
  have A0 : Hid (Below w.heap.size w (w.alloc (.cells #[.string r.c, .int .i64 r.h] 47))) := (Below.refl _ _).alloc (Nat.le_refl _) _
  have hc := (A0.out.cell (World.block_lt_of_cell? w _ hc)).trans hc
  clear hv
  simp only [qv]
  go_enter Try.func26, Try.ntmps26
  go_wp2
  go_ret
  exact ⟨rfl, A0.out⟩
theorem isClient_c (s : ByteArray) (bh : Nat) (r : Rsv) (w : World) (hc : w.cell? ⟨bh, 0, none⟩ = some (.string s)) :
    Calls Try.prog 28 #[qv r, .pointer (some ⟨bh, 0, none⟩)] w fun e w' => e = .returned (.bool (byClient s r)) ∧ Below w.heap.size w w' := by
  have hv : byClient s r = (r.c.toList == s.toList) := rfl
  rw [hv]
  have A0 : Hid (Below w.heap.size w (w.alloc (.cells #[.string r.c, .int .i64 r.h] 47))) := (Below.refl _ _).alloc (Nat.le_refl _) _
  have hc := (A0.out.cell (World.block_lt_of_cell? w _ hc)).trans hc
  clear hv
  simp only [qv]
  go_enter Try.func28, Try.ntmps28
  go_wp2
  go_ret
  exact ⟨rfl, A0.out⟩

end Go.Proofs.Ytedbihckdbpebaa
