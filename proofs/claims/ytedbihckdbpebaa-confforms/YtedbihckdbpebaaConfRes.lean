/-
  Contract of package conf's reservedMay, at every configuration.
-/
import Derived.Test.YtedbihckdbpebaaConfMay
import Derived.Laws.OwnMore
namespace Go.Proofs.Ytedbihckdbpebaa
open Go.ChangeShapes Go.WideShapes Go.ChangeAt Go.RowKit Go.Pin Go.PlainAid

theorem Try.cInfoInt : (Try.prog.info? 3).map (fun i => (i.zero, i.size, i.bytes)) = some (some (.int .i64 0), 1, 8) := by kernel_rfl
theorem Try.cIntNoStr : (3 : TypeId) ≠ 9 := by decide
theorem Try.cStrNoInt : (9 : TypeId) ≠ 3 := by decide
/-- Numbers, made by the call. -/
def Nums (w : World) (base : Nat) (v : Value) (xs : List Int) : Prop := w.ownsRow base 3 1 v xs.length (xs.map (Value.int .i64))
theorem Nums.lies {w : World} {base : Nat} {a : Option Addr} {cap : Nat} {xs : List Int} (h : Nums w base (.slice a xs.length cap) xs) : NumsLie w a xs := by
  by_cases h0 : xs = []
  · exact .inl h0
  · obtain ⟨g, rfl, _, hc⟩ := row_cell h (by cases xs with | nil => exact absurd rfl h0 | cons _ _ => simp)
    refine .inr ⟨_, rfl, fun j n hj => ?_⟩
    have hl := (List.getElem?_eq_some_iff.1 hj).1
    have := hc j (by omega)
    rw [List.getElem?_map, hj] at this
    rw [show (⟨g, 0, none⟩ : Addr).add j = ⟨g, j, none⟩ by unfold Addr.add; split <;> simp_all]
    exact this
theorem Texts.strs {w : World} {base : Nat} {a : Option Addr} {cap : Nat} {xs : List (List UInt8)} (h : Texts w base (.slice a xs.length cap) xs) : StrsLie w a xs := by
  by_cases h0 : xs = []
  · exact .inl h0
  · obtain ⟨g, rfl, _, hc⟩ := row_cell h (by cases xs with | nil => exact absurd rfl h0 | cons _ _ => simp)
    refine .inr ⟨_, rfl, fun j n hj => ?_⟩
    have hl := (List.getElem?_eq_some_iff.1 hj).1
    have := hc j (by omega)
    rw [List.getElem?_map, hj] at this
    rw [show (⟨g, 0, none⟩ : Addr).add j = ⟨g, j, none⟩ by unfold Addr.add; split <;> simp_all]
    exact this
theorem nums_snoc {w : World} {base : Nat} {v : Value} {xs : List Int} {x : Int} (h : w.ownsRow base 3 1 v (xs.length + 1) ((xs.map (Value.int .i64)) ++ [.int .i64 x])) : Nums w base v (xs ++ [x]) := by
  unfold Nums
  rw [List.length_append, List.map_append]
  exact h

set_option maxHeartbeats 1000000 in
theorem reserved_from (c : Cf) (p : CPl) (x : Addr) (w : World) (h4 : c.rs.length ≤ 4) (hr : rangeB c.fi c.la = true) (ha : p.ra = some x) (h : ∀ j r, c.rs[j]? = some r → RsvFrom w (x.add (j * 2)) r) :
    Calls Try.prog 32 #[cv c p] w fun e w' => e = .returned (.bool (hostsB c.fi c.la (hostsV c.rs) && clsB (clientsV c.rs))) ∧ Below w.heap.size w w' := by
  have H : Hid (∀ j, (hj : j < c.rs.length) → RsvFrom w (x.add (j * 2)) c.rs[j]) := fun j hj => h j _ (List.getElem?_eq_getElem hj)
  have Htk : Hid (∀ j, (hj : j < c.rs.length) → hostsV (c.rs.take (j + 1)) = hostsV (c.rs.take j) ++ [c.rs[j].h] ∧ clientsV (c.rs.take (j + 1)) = clientsV (c.rs.take j) ++ [bs c.rs[j].c] ∧ (hostsV (c.rs.take j)).length = j ∧ (clientsV (c.rs.take j)).length = j) := fun j hj => by
    have e : c.rs.take (j + 1) = c.rs.take j ++ [c.rs[j]] := by rw [List.take_add_one, List.getElem?_eq_getElem hj]; rfl
    rw [e]
    refine ⟨by unfold hostsV; rw [List.map_append]; rfl, by unfold clientsV; rw [List.map_append]; rfl, ?_, ?_⟩
    · simp [hostsV]; omega
    · simp [clientsV]; omega
  have HH : Hid (∀ (w' : World) (b : Nat) (a : Option Addr) (cap : Nat), Nums w' b (.slice a (hostsV c.rs).length cap) (hostsV c.rs) → _) := fun w' b a cap hN => hostsMay_c c p a cap (hostsV c.rs) w' (by simp [hostsV]; omega) hr hN.lies
  have HC : Hid (∀ (w' : World) (b : Nat) (a : Option Addr) (cap : Nat), Texts w' b (.slice a (clientsV c.rs).length cap) (clientsV c.rs) → _) := fun w' b a cap hT => clientsMay_c a cap (clientsV c.rs) w' (by simp [clientsV]; omega) hT.strs
  have Hlen : Hid ((hostsV c.rs).length = c.rs.length ∧ (clientsV c.rs).length = c.rs.length ∧ c.rs.take c.rs.length = c.rs) := ⟨by simp [hostsV], by simp [clientsV], List.take_length⟩
  have BX : Hid (BoxC (w.alloc (.cells (cellsC c p) 26)) w.heap.size c p) := BoxC.new w c p
  have A0 : Hid (Below w.heap.size w (w.alloc (.cells (cellsC c p) 26))) := (Below.refl _ _).alloc (Nat.le_refl _) _
  have hcell : Hid (∀ (w' : World), BoxC w' w.heap.size c p → _) := fun w' hh => hh.all
  have hsz : Hid (w.heap.size + 1 ≤ (w.alloc (.cells (cellsC c p) 26)).heap.size) := by show _ ≤ _; simp
  obtain ⟨i0, hi0, hz0, hz1, hz2⟩ := info_parts Try.cInfoInt
  obtain ⟨i1, hi1, hy0, hy1, hy2⟩ := info_parts Try.infoStr
  generalize hostsB c.fi c.la (hostsV c.rs) = k1 at *
  generalize clsB (clientsV c.rs) = k2 at *
  clear h hr
  simp only [cv, cellsC] at *
  rw [ha] at *
  go_enter Try.func32, Try.ntmps32
  obtain ⟨w0, hw0⟩ : ∃ w0, w.alloc (.cells #[.int .i64 c.fi, .int .i64 c.la, .slice p.ea c.ex.length p.ec, .slice (some x) c.rs.length p.rc, .int .i64 c.ti, .string c.zo, .slice p.sa c.st.length p.sc] 26) = w0 := ⟨_, rfl⟩
  rw [hw0] at *
  obtain ⟨c0, c1, c2, c3, c4, c5, c6⟩ := hcell.out _ BX.out
  clear hw0
  have h4' : (c.rs.length : Int) ≤ 4 := by omega
  go_wp2
  go_loopw [3, 4, 14] (fun v3 v4 i wr => ∃ j : Nat, j ≤ c.rs.length ∧ i = .int .i64 j ∧ Hid (Nums wr (w.heap.size + 1) v3 (hostsV (c.rs.take j))) ∧ Hid (Texts wr (w.heap.size + 1) v4 (clientsV (c.rs.take j))) ∧ Hid (BoxC wr w.heap.size c p) ∧ Below w.heap.size w wr ∧ Hid (w.heap.size + 1 ≤ wr.heap.size)) (fun _ _ i _ => c.rs.length - (intOf i).toNat)
  case atStart => exact ⟨0, Nat.zero_le _, rfl, World.ownsRow_nil _ _ _ _, World.ownsRow_nil _ _ _ _, BX.out, A0.out, hsz.out⟩
  case round =>
    clear c0 c1 c2 c3 c4 c5 c6
    obtain ⟨j, hj, rfl, hN, hT, hX, B, hS⟩ := hrel
    by_cases hlt : j < c.rs.length
    · have hf := (H.out j hlt).below B
      obtain ⟨tk1, tk2, tk3, tk4⟩ := Htk.out j hlt
      have Tk1 : Hid (_ = _) := tk1
      have Tk2 : Hid (_ = _) := tk2
      generalize c.rs[j] = r at *
      obtain ⟨rc, rh⟩ := r
      obtain ⟨h0, h1⟩ := hf
      simp only at h0 h1 Tk1 Tk2
      have hlt' : (j : Int) < (c.rs.length : Int) := by omega
      have hN' := hN.out
      have hT' := hT.out
      unfold Nums at hN'
      unfold Texts at hT'
      rw [tk3] at hN'
      rw [tk4] at hT'
      obtain ⟨a3, cap3, rfl⟩ := row_form hN'
      obtain ⟨a4, cap4, rfl⟩ := row_form hT'
      have ON : Hid (_) := hN'
      have OT : Hid (_) := hT'
      clear tk1 tk2 hN' hT' hN hT
      clear tk3 tk4
      have HA : Hid (Below wr.heap.size wr (wr.alloc (.cells #[.string rc, .int .i64 rh] 47))) := (Below.refl _ _).alloc (Nat.le_refl _) _
      go_wp2_with (first
        | (at_builtin; refine wpList_append_own _ rfl _ _ 22 rfl (w.heap.size + 1) 3 i0 (.int .i64 0) 1 8 Try.underlying22 hi0 hz0 hz1 hz2 rfl (by decide) _ j _ rfl (World.ownsRow.alloc (World.ownsRow.alloc ON.out _) _) ⟨wr.heap.size + 1, 0, none⟩ 1 1 [.int .i64 rh] rfl rfl ?c1 ?c2 ?c3 ?c4 ?c5 ?_)
        | fail)
      case c1 =>
        intro q u hq
        match q, hq with
        | 0, hq => simp at hq; subst hq; simp [Addr.add]
      case c2 => intro u hu; simp at hu; subst hu; rfl
      case c3 => unfold maxLen; omega
      case c4 => omega
      case c5 => have := hS.out; simp; omega
      intro v2 w2 hown2 hgrow2 _
      obtain ⟨a5, cap5, rfl⟩ := row_form hown2
      have L3 := World.ownsRow.lt ON.out
      have hs := hS.out
      have b0 : w2.heap[w.heap.size]? = wr.heap[w.heap.size]? := (hgrow2.block _ (by simp; omega) (fun e => by have := (L3 _ e.symm).1; omega)).trans (((Below.refl wr.heap.size wr).alloc (Nat.le_refl _) _ |>.alloc (by simp) _).block _ (by omega))
      have X2 : Hid (BoxC w2 w.heap.size c p) := hX.out.keep b0
      have bR : w2.heap[wr.heap.size]? = ((wr.alloc (.cells #[.string rc, .int .i64 rh] 47)).alloc (.cells #[.int .i64 rh] 3)).heap[wr.heap.size]? := hgrow2.block _ (by simp; omega) (fun e => by have := (L3 _ e.symm).2; omega)
      have cR : w2.cell? ⟨wr.heap.size, 0, none⟩ = some (.string rc) := (World.cell?_of_block (a := ⟨wr.heap.size, 0, none⟩) bR).trans ((((Below.refl (wr.heap.size + 1) _).alloc (by simp) _).cell (p := ⟨wr.heap.size, 0, none⟩) (by simp)).trans (new_cell wr _ _ 0 _ rfl))
      have T2 : Hid (w2.ownsRow (w.heap.size + 1) 9 1 (.slice a4 j cap4) j _) := World.ownsRow.kept (World.ownsRow.alloc (World.ownsRow.alloc OT.out _) _) hgrow2 (owns_apart OT.out ON.out Try.cStrNoInt)
      have B2 : Hid (Below w.heap.size w w2) := ((B.alloc B.size _).alloc (by have := B.size; simp; omega) _).grown hgrow2 (by have := B.size; simp; omega) (fun k hk => by have := (L3 k hk).1; omega)
      have hs2 : Hid (w.heap.size + 1 ≤ w2.heap.size) := by have := hgrow2.size; simp at this; show _ ≤ _; omega
      have N2 : Hid (_) := hown2
      have hsr : wr.heap.size < w2.heap.size := by have := hgrow2.size; simp at this; omega
      have Hsr : Hid (wr.heap.size < w2.heap.size) := hsr
      clear hown2 hgrow2 L3 b0 bR hX B ON OT HA hs hsr h0 h1 hS
      go_wp2_with (first
        | (at_builtin; refine wpList_append_own _ rfl _ _ 58 rfl (w.heap.size + 1) 9 i1 (.string ByteArray.empty) 1 16 Try.underlying58 hi1 hy0 hy1 hy2 rfl (by decide) _ j _ rfl (World.ownsRow.alloc T2.out _) ⟨w2.heap.size, 0, none⟩ 1 1 [.string rc] rfl rfl ?c1 ?c2 ?c3 ?c4 ?c5 ?_)
        | fail)
      case c1 =>
        intro q u hq
        match q, hq with
        | 0, hq => simp at hq; subst hq; simp [Addr.add]
      case c2 => intro u hu; simp at hu; subst hu; rfl
      case c3 => unfold maxLen; omega
      case c4 => omega
      case c5 => have := hs2.out; simp; omega
      intro v3 w3 hown3 hgrow3 _
      obtain ⟨a6, cap6, rfl⟩ := row_form hown3
      have L4 := World.ownsRow.lt T2.out
      have hs := hs2.out
      have b0 : w3.heap[w.heap.size]? = w2.heap[w.heap.size]? := (hgrow3.block _ (by simp; omega) (fun e => by have := (L4 _ e.symm).1; omega)).trans (((Below.refl w2.heap.size w2).alloc (Nat.le_refl _) _).block _ (by omega))
      have X3 : Hid (BoxC w3 w.heap.size c p) := X2.out.keep b0
      have N3 : w3.ownsRow (w.heap.size + 1) 3 1 (.slice a5 (j + 1) cap5) (j + 1) _ := World.ownsRow.kept (World.ownsRow.alloc N2.out _) hgrow3 (owns_apart N2.out T2.out Try.cIntNoStr)
      have N4 : Hid (Nums w3 (w.heap.size + 1) (.slice a5 (j + 1) cap5) (hostsV (c.rs.take (j + 1)))) := by
        show w3.ownsRow _ _ _ _ _ _
        rw [Tk1.out, List.length_append, List.map_append, (Htk.out j hlt).2.2.1]
        exact N3
      have T4 : Hid (Texts w3 (w.heap.size + 1) (.slice a6 (j + 1) cap6) (clientsV (c.rs.take (j + 1)))) := by
        show w3.ownsRow _ _ _ _ _ _
        rw [Tk2.out, List.length_append, List.map_append, (Htk.out j hlt).2.2.2]
        have e : ([bs rc].map fun l => Value.string (mk l)) = [.string rc] := by simp [mk_bs]
        rw [e]
        exact hown3
      have B3 : Hid (Below w.heap.size w w3) := (B2.out.alloc (by omega) _).grown hgrow3 (by simp; omega) (fun k hk => by have := (L4 k hk).1; omega)
      have hs3 : Hid (w.heap.size + 1 ≤ w3.heap.size) := by have := hgrow3.size; simp at this; show _ ≤ _; omega
      clear hown3 hgrow3 L4 b0 N3 N2 T2 B2 X2 hs hs2 cR
      go_wp2
      go_roundw
      case rel => exact ⟨j + 1, by omega, by go_num, N4.out, T4.out, X3.out, B3.out, hs3.out⟩
      case measure => simp [intOf]; omega
    · obtain rfl : j = c.rs.length := by omega
      obtain ⟨l1, l2, l3⟩ := Hlen.out
      have hN' := hN.out
      have hT' := hT.out
      rw [l3] at hN' hT'
      obtain ⟨a3, cap3, rfl⟩ := row_form hN'
      obtain ⟨a4, cap4, rfl⟩ := row_form hT'
      have hh := HH.out wr _ a3 cap3 hN'
      have HHc : Hid (∀ _ : Unit, _) := fun _ => hh
      have HCc : Hid (∀ w', Below wr.heap.size wr w' → _) := fun w' hb => HC.out w' _ a4 cap4 (hT'.below hb)
      have HB : Hid (Below w.heap.size w wr) := B
      obtain ⟨c0, c1, c2, c3, c4, c5, c6⟩ := hcell.out _ hX.out
      clear hN' hT' hN hT hh l1 l2 l3 B
      go_wp2_with fail
      refine (HHc.out ()).mono ?_; rintro e w1 ⟨rfl, hb1⟩
      have B1 : Hid (Below wr.heap.size wr w1) := hb1
      clear hb1
      cases k1
      · go_wp2
        go_ret
        exact ⟨rfl, HB.out.trans (B1.out.mono HB.out.size)⟩
      go_wp2_with fail
      refine (HCc.out _ B1.out).mono ?_; rintro e w2 ⟨rfl, hb2⟩
      go_wp2
      go_ret
      exact ⟨ret_bool (by simp), (HB.out.trans (B1.out.mono HB.out.size)).trans (hb2.mono (by have := B1.out.size; have := HB.out.size; omega))⟩

set_option maxHeartbeats 400000 in
theorem reserved_nil (c : Cf) (p : CPl) (w : World) (hn : c.rs = []) (hr : rangeB c.fi c.la = true) (ha : p.ra = none) :
    Calls Try.prog 32 #[cv c p] w fun e w' => e = .returned (.bool true) ∧ Below w.heap.size w w' := by
  have BX : Hid (BoxC (w.alloc (.cells (cellsC c p) 26)) w.heap.size c p) := BoxC.new w c p
  have A0 : Hid (Below w.heap.size w (w.alloc (.cells (cellsC c p) 26))) := (Below.refl _ _).alloc (Nat.le_refl _) _
  have HH : Hid (∀ w', _) := fun w' => hostsMay_c c p none 0 [] w' (by simp) hr (.inl rfl)
  have HC : Hid (∀ w', _) := fun w' => clientsMay_c none 0 [] w' (by simp) (.inl rfl)
  have hcell : Hid (∀ (w' : World), BoxC w' w.heap.size c p → _) := fun w' hh => hh.all
  have k1 : hostsB c.fi c.la [] = true := rfl
  have k2 : clsB [] = true := rfl
  rw [k1] at HH
  rw [k2] at HC
  have hl : c.rs.length = 0 := by rw [hn]; rfl
  clear hr hn k1 k2
  simp only [cv, cellsC, hl, ha, List.length_nil] at *
  clear hl ha
  go_enter Try.func32, Try.ntmps32
  go_wp2
  go_loopw [3, 4, 14] (fun v3 v4 i wr => v3 = .slice none 0 0 ∧ v4 = .slice none 0 0 ∧ i = .int .i64 0 ∧ Hid (BoxC wr w.heap.size c p) ∧ Hid (Below w.heap.size w wr)) (fun _ _ _ _ => 0)
  case atStart => exact ⟨rfl, rfl, rfl, BX.out, A0.out⟩
  case round =>
    obtain ⟨rfl, rfl, rfl, hX, hB⟩ := hrel
    obtain ⟨c0, c1, c2, c3, c4, c5, c6⟩ := hcell.out _ hX.out
    clear BX A0 hX
    go_wp2_with fail
    refine (HH.out _).mono ?_; rintro e w1 ⟨rfl, hb1⟩
    have B1 : Hid (Below w.heap.size w w1) := hB.out.trans (hb1.mono hB.out.size)
    clear hb1 c0 c1 c2 c3 c4 c5 c6
    go_wp2_with fail
    refine (HC.out _).mono ?_; rintro e w2 ⟨rfl, hb2⟩
    go_wp2
    go_ret
    exact ⟨rfl, bel_trans B1.out hb2⟩
set_option maxHeartbeats 400000 in
theorem reserved_long (c : Cf) (p : CPl) (w : World) (h4 : 4 < c.rs.length) :
    Calls Try.prog 32 #[cv c p] w fun e w' => e = .returned (.bool false) ∧ Below w.heap.size w w' := by
  have A0 : Hid (Below w.heap.size w (w.alloc (.cells (cellsC c p) 26))) := (Below.refl _ _).alloc (Nat.le_refl _) _
  have hd : decide (4 < (c.rs.length : Int)) = true := by simp; omega
  simp only [cv, cellsC] at *
  clear h4
  go_enter Try.func32, Try.ntmps32
  go_wp2
  go_ret
  exact ⟨rfl, A0.out⟩
theorem reservedMay_c (c : Cf) (p : CPl) (w : World) (hr : rangeB c.fi c.la = true) (h : RsvsLie w p.ra c.rs) :
    Calls Try.prog 32 #[cv c p] w fun e w' => e = .returned (.bool (rsB c)) ∧ Below w.heap.size w w' := by
  by_cases h4 : c.rs.length ≤ 4
  · have hv : rsB c = (hostsB c.fi c.la (hostsV c.rs) && clsB (clientsV c.rs)) := by simp [rsB, h4]
    rw [hv]
    rcases h with h | ⟨x, ha, h⟩
    · cases ha : p.ra with
      | none =>
        have := reserved_nil c p w h hr ha
        rw [h]
        exact this
      | some x => exact reserved_from c p x w h4 hr ha (fun j r hj => by rw [h] at hj; simp at hj)
    · exact reserved_from c p x w h4 hr ha h
  · have hv : rsB c = false := by simp [rsB, h4]
    rw [hv]
    exact reserved_long c p w (by omega)

set_option maxHeartbeats 1000000 in
theorem cMay_c (c : Cf) (p : CPl) (w : World) (hL : CfLies w c p) (hF : CfFits c) :
    Calls Try.prog 15 #[cv c p] w fun e w' => e = .returned (.bool (mayC c)) ∧ Below w.heap.size w w' := by
  have HR : Hid (∀ w, _) := fun w => rangeMay_c c.fi c.la w
  have HE : Hid (rangeB c.fi c.la = true → ∀ w', Below w.heap.size w w' → _) := fun hr w' hb => excludedMay_c c p w' hr (hL.e.below hb)
  have HV : Hid (rangeB c.fi c.la = true → ∀ w', Below w.heap.size w w' → _) := fun hr w' hb => reservedMay_c c p w' hr (hL.r.below hb)
  have HT : Hid (∀ w, _) := fun w => cWithin_c 1 c.ti 1048576 w
  have HZ : Hid (∀ w, _) := fun w => zoneMay_c c.zo w hF.z
  have HS : Hid (∀ w', Below w.heap.size w w' → _) := fun w' hb => staticMay_c c p w' (hL.s.below hb) hF.s hF.z
  have hv : Hid (mayC c = (rangeB c.fi c.la && exB c && rsB c && betw 1 c.ti 1048576 && zoneB c.zo && stB c)) := rfl
  have BX : Hid (BoxC (w.alloc (.cells (cellsC c p) 26)) w.heap.size c p) := BoxC.new w c p
  have A0 : Hid (Below w.heap.size w (w.alloc (.cells (cellsC c p) 26))) := (Below.refl _ _).alloc (Nat.le_refl _) _
  have hcell : Hid (∀ (w' : World), BoxC w' w.heap.size c p → _) := fun w' hh => hh.all
  have hbel : Hid (∀ w' w'', BoxC w' w.heap.size c p → Below w'.heap.size w' w'' → BoxC w'' w.heap.size c p) := fun w' w'' h1 h2 => h1.below h2
  generalize mayC c = V at *
  generalize rangeB c.fi c.la = v1 at *
  generalize exB c = v2 at *
  generalize rsB c = v3 at *
  generalize betw 1 c.ti 1048576 = v4 at *
  generalize zoneB c.zo = v5 at *
  generalize stB c = v6 at *
  clear hL hF
  simp only [cv, cellsC] at *
  go_enter Try.func15, Try.ntmps15
  obtain ⟨w0, hw0⟩ : ∃ w0, w.alloc (.cells #[.int .i64 c.fi, .int .i64 c.la, .slice p.ea c.ex.length p.ec, .slice p.ra c.rs.length p.rc, .int .i64 c.ti, .string c.zo, .slice p.sa c.st.length p.sc] 26) = w0 := ⟨_, rfl⟩
  rw [hw0] at *
  clear hw0
  obtain ⟨c0, c1, c2, c3, c4, c5, c6⟩ := hcell.out _ BX.out
  go_wp2_with fail
  refine (HR.out _).mono ?_; rintro e w1 ⟨rfl, rfl⟩
  cases v1
  · go_wp2
    go_ret
    exact ⟨ret_bool (by simp [hv.out]), A0.out⟩
  go_wp2_with fail
  refine (HE.out trivial _ A0.out).mono ?_; rintro e w2 ⟨rfl, hb⟩
  have X2 : Hid (BoxC w2 w.heap.size c p) := hbel.out _ _ BX.out hb
  have B2 : Hid (Below w.heap.size w w2) := bel_trans A0.out hb
  clear c0 c1 c2 c3 c4 c5 c6 hb BX A0
  obtain ⟨c0, c1, c2, c3, c4, c5, c6⟩ := hcell.out _ X2.out
  cases v2
  · go_wp2
    go_ret
    exact ⟨ret_bool (by simp [hv.out]), B2.out⟩
  go_wp2_with fail
  refine (HV.out trivial _ B2.out).mono ?_; rintro e w3 ⟨rfl, hb⟩
  have X3 : Hid (BoxC w3 w.heap.size c p) := hbel.out _ _ X2.out hb
  have B3 : Hid (Below w.heap.size w w3) := bel_trans B2.out hb
  clear c0 c1 c2 c3 c4 c5 c6 hb X2 B2
  obtain ⟨c0, c1, c2, c3, c4, c5, c6⟩ := hcell.out _ X3.out
  cases v3
  · go_wp2
    go_ret
    exact ⟨ret_bool (by simp [hv.out]), B3.out⟩
  go_wp2_with fail
  refine (HT.out _).mono ?_; rintro e w4 ⟨rfl, rfl⟩
  cases v4
  · go_wp2
    go_ret
    exact ⟨ret_bool (by simp [hv.out]), B3.out⟩
  go_wp2_with fail
  refine (HZ.out _).mono ?_; rintro e w5 ⟨rfl, hb⟩
  have X5 : Hid (BoxC w5 w.heap.size c p) := hbel.out _ _ X3.out hb
  have B5 : Hid (Below w.heap.size w w5) := bel_trans B3.out hb
  clear c0 c1 c2 c3 c4 c5 c6 hb X3 B3
  obtain ⟨c0, c1, c2, c3, c4, c5, c6⟩ := hcell.out _ X5.out
  cases v5
  · go_wp2
    go_ret
    exact ⟨ret_bool (by simp [hv.out]), B5.out⟩
  go_wp2_with fail
  refine (HS.out _ B5.out).mono ?_; rintro e w6 ⟨rfl, hb⟩
  go_wp2
  go_ret
  exact ⟨ret_bool (by simp [hv.out]), bel_trans B5.out hb⟩

end Go.Proofs.Ytedbihckdbpebaa
