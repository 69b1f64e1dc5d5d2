/-
  Proved here: pinfoldlaw11.ConfRows answers true for every configuration, number and text (the row of what is excluded, or reserved, turns nothing) (P11.1).
  Conditions: none but the row's own.
-/
import Derived.Test.YtedbihckdbpebaaAwake11
import Derived.Test.YtedbihckdbpebaaConfOpen
import Derived.OpenShut
import Derived.ShutString
import Derived.ChangeOld
import Derived.SizedLaws
import Derived.Carry
import Derived.RegionTactic
import Derived.Deep.RegionHeld3
import Derived.Deep.QuietTactic
import Derived.BigQuiet
import Derived.Deep.DeepCutAuto
import Derived.Deep.CutRange
namespace Go.Proofs.Ytedbihckdbpebaa.confRows
open Go.ChangeShapes Go.WideShapes Go.ChangeAt Go.RowKit Go.Pin Go.PlainAid Go.ChangeMaps

/-- A row, its first j turned round. -/
def half {α : Type} (xs : List α) (j : Nat) : List α := xs.reverse.take j ++ xs.drop j
theorem half_len {α : Type} (xs : List α) (j : Nat) (h : j ≤ xs.length) : (half xs j).length = xs.length := by simp [half]; omega
theorem half_zero {α : Type} (xs : List α) : half xs 0 = xs := by simp [half]
theorem half_all {α : Type} (xs : List α) : half xs xs.length = xs.reverse := by
  unfold half
  rw [List.take_of_length_le (by simp), List.drop_length, List.append_nil]
theorem half_step {α : Type} (xs : List α) (j k : Nat) (hk : k + 1 + j = xs.length) (x : α) (hx : xs[k]? = some x) : (half xs j).set j x = half xs (j + 1) := by
  have hr : xs.reverse[j]? = some x := by rw [List.getElem?_reverse (by omega), ← hx]; congr 1; omega
  unfold half
  have hl : (xs.reverse.take j).length = j := by simp; omega
  rw [List.set_append_right _ _ (by omega), hl, Nat.sub_self]
  obtain ⟨y, hy⟩ : ∃ y, xs.drop j = y :: xs.drop (j + 1) := ⟨_, List.drop_eq_getElem_cons (by omega)⟩
  rw [hy, List.set_cons_zero, List.take_add_one, hr]
  simp
theorem cellsV_set {l : List Rsv} {j : Nat} {r : Rsv} (hj : j < l.length) : ((l.flatMap cellsV).set (j * 2) (.string r.c)).set (j * 2 + 1) (.int .i64 r.h) = (l.set j r).flatMap cellsV := by
  induction l generalizing j with
  | nil => simp at hj
  | cons a l ih =>
    have e1 : (a :: l).flatMap cellsV = .string a.c :: .int .i64 a.h :: l.flatMap cellsV := rfl
    cases j with
    | zero => rfl
    | succ j =>
      have := ih (j := j) (by simp at hj; omega)
      have e2 : ((a :: l).set (j + 1) r).flatMap cellsV = .string a.c :: .int .i64 a.h :: (l.set j r).flatMap cellsV := rfl
      rw [e1, e2, ← this, show (j + 1) * 2 = j * 2 + 1 + 1 by omega, show (j * 2 + 1 + 1) + 1 = (j * 2 + 1) + 1 + 1 by omega]
      rfl
/-- The copy on the way: its two rows, the third list. -/
structure Way3 (w : World) (base b d : Nat) (c : Cf) (p q : CPl) (E : List Int) (V : List Rsv) : Prop where
  e : Nums w base (.slice q.ea c.ex.length q.ec) E
  r : Rsvs w base (.slice q.ra c.rs.length q.rc) V
  s : Recs w base (.slice q.sa c.st.length q.sc) c.st
  x : BoxC w b c p
  y : BoxC w d c q
  le : E.length = c.ex.length
  lr : V.length = c.rs.length
  en : ∀ k, (Value.slice q.ea c.ex.length q.ec).ownBlock = some k → k ≠ d
  rn : ∀ k, (Value.slice q.ra c.rs.length q.rc).ownBlock = some k → k ≠ d
  bb : b < base
theorem Try.intNoRsv : (3 : TypeId) ≠ 47 := by decide
theorem Try.intNoRR : (3 : TypeId) ≠ 49 := by decide
theorem Try.rsvNoRR : (47 : TypeId) ≠ 49 := by decide
theorem Try.rsvNoInt : (47 : TypeId) ≠ 3 := by decide
theorem Try.rrNoInt : (49 : TypeId) ≠ 3 := by decide
theorem Try.rrNoRsv : (49 : TypeId) ≠ 47 := by decide
theorem other_block {w : World} {b1 b2 : Nat} {e1 e2 : TypeId} {s1 s2 : Nat} {v1 : Value} {g n1 n2 cap : Nat} {xs1 xs2 : List Value} (h1 : w.ownsRow b1 e1 s1 v1 n1 xs1) (h2 : w.ownsRow b2 e2 s2 (.slice (some ⟨g, 0, none⟩) n2 cap) n2 xs2) (hne : e1 ≠ e2) : v1.ownBlock ≠ some g := by
  rcases owns_apart h1 h2 hne with h | h
  · rw [h]; simp
  · exact h
theorem Way3.setE {w : World} {base b d : Nat} {c : Cf} {p q : CPl} {E : List Int} {V : List Rsv} (h : Way3 w base b d c p q E V) {g : Nat} (hg : q.ea = some ⟨g, 0, none⟩) (j : Nat) (x : Int) : Way3 (w.setCell ⟨g, j, none⟩ (.int .i64 x)) base b d c p q (E.set j x) V := by
  obtain ⟨he, hr, hs, hx, hy, le, lr, en, rn, bb⟩ := h
  have he' := he
  unfold Nums at he'
  rw [hg, le] at he'
  have hgb : base ≤ g ∧ g < w.heap.size := World.ownsRow.lt he' g rfl
  refine ⟨?_, ownsRow_setCell_other hr (other_block hr he' Try.rsvNoInt) _, ownsRow_setCell_other hs (other_block hs he' Try.rrNoInt) _, hx.far (by omega), hy.far (fun e => en g (by rw [hg]; rfl) e.symm), by simpa using le, lr, en, rn, bb⟩
  unfold Nums
  rw [List.length_set, le, hg, List.map_set]
  exact (World.ownsRow.stored he' j _).1
theorem Way3.setR {w : World} {base b d : Nat} {c : Cf} {p q : CPl} {E : List Int} {V : List Rsv} (h : Way3 w base b d c p q E V) {g : Nat} (hg : q.ra = some ⟨g, 0, none⟩) {j : Nat} (hj : j < c.rs.length) (x : Rsv) : Way3 ((w.setCell ⟨g, j * 2, none⟩ (.string x.c)).setCell ⟨g, j * 2 + 1, none⟩ (.int .i64 x.h)) base b d c p q E (V.set j x) := by
  obtain ⟨he, hr, hs, hx, hy, le, lr, en, rn, bb⟩ := h
  have hr' := hr
  unfold Rsvs at hr'
  rw [hg, lr] at hr'
  have hgb : base ≤ g ∧ g < w.heap.size := World.ownsRow.lt hr' g rfl
  have hd : d ≠ g := fun e => rn g (by rw [hg]; rfl) e.symm
  refine ⟨ownsRow_setCell_other (ownsRow_setCell_other he (other_block he hr' Try.intNoRsv) _) (by simp only; exact other_block he hr' Try.intNoRsv) _, ?_, ownsRow_setCell_other (ownsRow_setCell_other hs (other_block hs hr' Try.rrNoRsv) _) (by simp only; exact other_block hs hr' Try.rrNoRsv) _, (hx.far (by omega)).far (by omega), (hy.far hd).far hd, le, by simpa using lr, en, rn, bb⟩
  unfold Rsvs
  rw [List.length_set, lr, hg, ← cellsV_set (by omega)]
  exact (World.ownsRow.stored (World.ownsRow.stored hr' (j * 2) _).1 (j * 2 + 1) _).1

theorem turned_fits {c : Cf} (h : CfFits c) : CfFits (turnedC c) := ⟨h.z, fun r hr => h.r r (by simpa [turnedC] using hr), h.s, by simpa [turnedC] using h.el, by simpa [turnedC] using h.rl, h.sl⟩
theorem Way3.turned {w : World} {base b d : Nat} {c : Cf} {p q : CPl} (h : Way3 w base b d c p q c.ex.reverse (half c.rs c.rs.length)) : CfLies w (turnedC c) q := by
  have he := h.e
  have hr := h.r
  rw [half_all] at hr
  refine ⟨?_, ?_, h.s.lie⟩
  · have : Nums w base (.slice q.ea c.ex.reverse.length q.ec) c.ex.reverse := by rw [List.length_reverse]; exact he
    exact this.lies
  · have : Rsvs w base (.slice q.ra c.rs.reverse.length q.rc) c.rs.reverse := by rw [List.length_reverse]; exact hr
    exact this.lies
theorem Way3.drew {w : World} {base b d : Nat} {c : Cf} {p q : CPl} {E : List Int} {V : List Rsv} (h : Way3 w base b d c p q E V) : Way3 w.drew base b d c p q E V := ⟨h.e, h.r, h.s, h.x, h.y, h.le, h.lr, h.en, h.rn, h.bb⟩
set_option maxRecDepth 100000 in
set_option maxHeartbeats 4000000 in
theorem walk (c : Cf) (p : CPl) (h : Int) (s : ByteArray) (w : World) (hL : CfLies w c p) (hF : CfFits c) (hR : CfReach c) (_w1 : (Lit.int .i64 h).wf = true) (_w2 : s.size ≤ 140737488351232) :
    Calls Try.prog 7 #[cv c p, .int .i64 h, .string s] w fun e w' => e = .returned (.bool true) ∧ Below w.heap.size w w' := by
  clear _w1 _w2
  have HC : Hid (∀ w', Below w.heap.size w w' → _) := fun w' hb => copyCf_c c p w' (hL.below hb) hR.1 hR.2.1 hR.2.2
  have HXe : Hid (∀ k n, c.ex[k]? = some n → ∀ w', Below w.heap.size w w' → ∃ x, p.ea = some x ∧ w'.cell? (x.add k) = some (.int .i64 n)) := fun k n hk w' hb => by
    rcases hL.e.below hb with h | ⟨x, h1, h2⟩
    · rw [h] at hk; simp at hk
    · exact ⟨x, h1, h2 k n hk⟩
  have HXr : Hid (∀ k r, c.rs[k]? = some r → ∀ w', Below w.heap.size w w' → ∃ x, p.ra = some x ∧ RsvFrom w' (x.add (k * 2)) r) := fun k n hk w' hb => by
    rcases hL.r.below hb with h | ⟨x, h1, h2⟩
    · rw [h] at hk; simp at hk
    · exact ⟨x, h1, h2 k n hk⟩
  obtain ⟨oS, oB, ho⟩ : ∃ s b, ownerC c h = (s, b) := ⟨_, _, rfl⟩
  obtain ⟨vI, vB, hv⟩ : ∃ i b, reservedC c s = (i, b) := ⟨_, _, rfl⟩
  obtain ⟨mB, hm⟩ : ∃ b, mayC c = b := ⟨_, rfl⟩
  obtain ⟨uB, hu⟩ : ∃ b, usableC c h = b := ⟨_, rfl⟩
  have HO1 : Hid (∀ w', Below w.heap.size w w' → _) := fun w' hb => owner_is c p h oS oB w' (hL.below hb) hF ho
  have HV1 : Hid (∀ w', Below w.heap.size w w' → _) := fun w' hb => reserved_is c p s vI vB w' (hL.below hb) hF hv
  have HM1 : Hid (∀ w', Below w.heap.size w w' → _) := fun w' hb => cMay_is c p mB w' (hL.below hb) hF hm
  have HU1 : Hid (∀ w', Below w.heap.size w w' → _) := fun w' hb => usable_is c p h uB w' (hL.below hb) hF hu
  have HO2 : Hid (∀ (w' : World) (q : CPl), CfLies w' (turnedC c) q → _) := fun w' q hl => owner_is (turnedC c) q h oS oB w' hl (turned_fits hF) ((turned_owner c h).trans ho)
  have HV2 : Hid (∀ (w' : World) (q : CPl), CfLies w' (turnedC c) q → _) := fun w' q hl => reserved_is (turnedC c) q s vI vB w' hl (turned_fits hF) ((turned_reserved c s).trans hv)
  have HM2 : Hid (∀ (w' : World) (q : CPl), CfLies w' (turnedC c) q → _) := fun w' q hl => cMay_is (turnedC c) q mB w' hl (turned_fits hF) ((turned_may c).trans hm)
  have HU2 : Hid (∀ (w' : World) (q : CPl), CfLies w' (turnedC c) q → _) := fun w' q hl => usable_is (turnedC c) q h uB w' hl (turned_fits hF) ((turned_usable c h).trans hu)
  clear ho hv hm hu
  have BX : Hid (BoxC (w.alloc (.cells (cellsC c p) 26)) w.heap.size c p) := BoxC.new w c p
  have B0 : Hid (Below w.heap.size w (w.alloc (.cells (cellsC c p) 26))) := (Below.refl w.heap.size w).alloc (Nat.le_refl _) _
  have hcell : Hid (∀ (w' : World) (b : Nat) (q : CPl), BoxC w' b c q → _) := fun w' b q h => h.all
  have hnew : Hid (∀ (w : World) (p : CPl), _) := fun w p => BoxC.new w c p
  have hel : c.ex.length ≤ 140737488351232 := by have := hR.1; omega
  have hrl : c.rs.length ≤ 140737488351232 := by have := hR.2.1; omega
  clear hL hF hR
  simp only [cv, cellsC] at *
  simp only [turnedC, List.length_reverse] at HO2 HV2 HM2 HU2
  go_enter Try.func7, Try.ntmps7
  go_wp2_with fail
  refine (awake11_yes _).mono ?_; rintro e w1 ⟨rfl, hb⟩
  have B1 : Hid (Below w.heap.size w w1) := bel_trans B0.out hb
  have X1 : Hid (BoxC w1 w.heap.size c p) := BX.out.below hb
  obtain ⟨c0, c1, c2, c3, c4, c5, c6⟩ := hcell.out _ _ _ X1.out
  clear hb B0 BX
  go_wp2_with fail
  refine (HC.out _ B1.out).mono ?_; rintro e w2 ⟨⟨q, rfl, hR⟩, hb⟩
  have hX := hnew.out w2 q
  obtain ⟨w3, hw3⟩ : ∃ w3, w2.alloc (.cells #[.int .i64 c.fi, .int .i64 c.la, .slice q.ea c.ex.length q.ec, .slice q.ra c.rs.length q.rc, .int .i64 c.ti, .string c.zo, .slice q.sa c.st.length q.sc] 26) = w3 := ⟨_, rfl⟩
  rw [hw3] at hX
  have h2 : Below w2.heap.size w2 w3 := by rw [← hw3]; exact (Below.refl _ _).alloc (Nat.le_refl _) _
  have W3 : Hid (Way3 w3 w1.heap.size w.heap.size w2.heap.size c p q (half c.ex 0) (half c.rs 0)) := by
    show Way3 _ _ _ _ _ _ _ _ _
    rw [half_zero, half_zero]
    exact ⟨row_below hR.e h2, row_below hR.r h2, row_below hR.s h2, (X1.out.below hb).below h2, hX, rfl, rfl, fun k hk => by have := (World.ownsRow.lt hR.e k hk).2; omega, fun k hk => by have := (World.ownsRow.lt hR.r k hk).2; omega, X1.out.lt⟩
  have B3 : Hid (Below w.heap.size w w3) := bel_trans (bel_trans B1.out hb) h2
  have hbase : Hid (w.heap.size ≤ w1.heap.size) := B1.out.size
  clear hX hR hb h2 X1 B1 c0 c1 c2 c3 c4 c5 c6 HC hnew
  go_upto_region 4 with fail
  clear hw3
  generalize w1.heap.size = base at *
  generalize w2.heap.size = d at *
  go_wp2
  go_loopw [8] (fun i wr => ∃ j : Nat, j ≤ c.ex.length ∧ i = .int .i64 j ∧ Hid (Way3 wr base w.heap.size d c p q (half c.ex j) (half c.rs 0)) ∧ Hid (Below w.heap.size w wr)) (fun i _ => c.ex.length - (intOf i).toNat)
  case atStart => exact ⟨0, Nat.zero_le _, rfl, W3.out, B3.out⟩
  case round =>
    clear W3 B3
    obtain ⟨j, hj, rfl, W, B⟩ := hrel
    obtain ⟨c0, c1, c2, c3, c4, c5, c6⟩ := hcell.out _ _ _ W.out.x
    by_cases hlt : j < c.ex.length
    · obtain ⟨d0, d1, d2, d3, d4, d5, d6⟩ := hcell.out _ _ _ W.out.y
      obtain ⟨k, hk⟩ : ∃ k, k + 1 + j = c.ex.length := ⟨c.ex.length - 1 - j, by omega⟩
      obtain ⟨n, hn⟩ : ∃ n, c.ex[k]? = some n := ⟨_, List.getElem?_eq_getElem (by omega)⟩
      obtain ⟨x, hx, hc⟩ := HXe.out k n hn wr B.out
      have hE := W.out.e
      unfold Nums at hE
      rw [W.out.le] at hE
      obtain ⟨g, hg, _, hcs⟩ := row_cell hE (by omega)
      rw [hg] at hE d2
      rw [hx] at c2
      have hfz := World.ownsRow.frozenAt hE j
      obtain ⟨u, hu⟩ : ∃ u, (half c.ex j)[j]? = some u := ⟨_, List.getElem?_eq_getElem (by have := W.out.le; omega)⟩
      have hdc : wr.cell? ⟨g, j, none⟩ = some (.int .i64 u) := by rw [hcs j (by omega), List.getElem?_map, hu]; rfl
      have hi1 : (c.ex.length : Int) - 1 - (j : Int) = (k : Int) := by omega
      have hkl : (k : Int) < (c.ex.length : Int) := by omega
      have hjl : (j : Int) < (c.ex.length : Int) := by omega
      have W' : Hid (Way3 (wr.setCell ⟨g, j, none⟩ (.int .i64 n)) base w.heap.size d c p q (half c.ex (j + 1)) (half c.rs 0)) := by
        have := W.out.setE hg j n
        rwa [half_step c.ex j k hk n hn] at this
      have hgb := (World.ownsRow.lt hE g rfl).1
      have B' : Hid (Below w.heap.size w (wr.setCell ⟨g, j, none⟩ (.int .i64 n))) := B.out.setCell (by have := hbase.out; simp only; omega) _
      clear hE hcs hu hn hg W B
      have W'' : Hid (Way3 (wr.setCell ⟨g, j, none⟩ (.int .i64 n)).drew base w.heap.size d c p q (half c.ex (j + 1)) (half c.rs 0)) := W'.out.drew
      have B'' : Hid (Below w.heap.size w (wr.setCell ⟨g, j, none⟩ (.int .i64 n)).drew) := B'.out.drew
      clear W' B'
      go_wp2
      go_region
      go_wp2
      go_roundw
      case rel => exact ⟨j + 1, by omega, by go_num, W''.out, B''.out⟩
      case measure => simp [intOf]; omega
    · obtain rfl : j = c.ex.length := by omega
      clear hlt hj
      go_wp2
      go_loopw [9] (fun i wq => ∃ j : Nat, j ≤ c.rs.length ∧ i = .int .i64 j ∧ Hid (Way3 wq base w.heap.size d c p q c.ex.reverse (half c.rs j)) ∧ Hid (Below w.heap.size w wq)) (fun i _ => c.rs.length - (intOf i).toNat)
      case atStart => exact ⟨0, Nat.zero_le _, rfl, by have := W.out; rwa [half_all] at this, B.out⟩
      case round =>
        clear W B c0 c1 c2 c3 c4 c5 c6
        obtain ⟨j, hj, rfl, W, B⟩ := hrel
        rename World => wq
        obtain ⟨c0, c1, c2, c3, c4, c5, c6⟩ := hcell.out _ _ _ W.out.x
        by_cases hlt : j < c.rs.length
        · obtain ⟨d0, d1, d2, d3, d4, d5, d6⟩ := hcell.out _ _ _ W.out.y
          obtain ⟨k, hk⟩ : ∃ k, k + 1 + j = c.rs.length := ⟨c.rs.length - 1 - j, by omega⟩
          obtain ⟨⟨nc, nh⟩, hn⟩ : ∃ n, c.rs[k]? = some n := ⟨_, List.getElem?_eq_getElem (by omega)⟩
          obtain ⟨x, hx, hc⟩ := HXr.out k _ hn wq B.out
          obtain ⟨hc0, hc1⟩ := hc
          have hV := W.out.r
          unfold Rsvs at hV
          rw [W.out.lr] at hV
          obtain ⟨g, hg, _, hcs⟩ := row_cell hV (by omega)
          rw [hg] at hV d3
          rw [hx] at c3
          have hf0 := World.ownsRow.frozenAt hV (j * 2)
          have hf1 := World.ownsRow.frozenAt hV (j * 2 + 1)
          obtain ⟨⟨uc, uh⟩, hu⟩ : ∃ u, (half c.rs j)[j]? = some u := ⟨_, List.getElem?_eq_getElem (by have := W.out.lr; omega)⟩
          have hd0 : wq.cell? ⟨g, j * 2, none⟩ = some (.string uc) := (hcs (j * 2) (by omega)).trans (flatV_at _ j _ 0 hu (by omega))
          have hd1 : wq.cell? ⟨g, j * 2 + 1, none⟩ = some (.int .i64 uh) := (hcs (j * 2 + 1) (by omega)).trans (flatV_at _ j _ 1 hu (by omega))
          have hi1 : (c.rs.length : Int) - 1 - (j : Int) = (k : Int) := by omega
          have hkl : (k : Int) < (c.rs.length : Int) := by omega
          have hjl : (j : Int) < (c.rs.length : Int) := by omega
          have W' : Hid (Way3 ((wq.setCell ⟨g, j * 2, none⟩ (.string nc)).setCell ⟨g, j * 2 + 1, none⟩ (.int .i64 nh)).drew base w.heap.size d c p q c.ex.reverse (half c.rs (j + 1))) := by
            have := W.out.setR hg hlt ⟨nc, nh⟩
            rw [half_step c.rs j k hk _ hn] at this
            exact this.drew
          have hgb := (World.ownsRow.lt hV g rfl).1
          have B' : Hid (Below w.heap.size w ((wq.setCell ⟨g, j * 2, none⟩ (.string nc)).setCell ⟨g, j * 2 + 1, none⟩ (.int .i64 nh)).drew) := ((B.out.setCell (by have := hbase.out; simp only; omega) _).setCell (by have := hbase.out; simp only; omega) _).drew
          clear hV hcs hu hn hg W B
          simp only at hc0 hc1
          go_wp2
          go_region
          go_wp2
          go_roundw
          case rel => exact ⟨j + 1, by omega, by go_num, W'.out, B'.out⟩
          case measure => simp [intOf]; omega
        · obtain rfl : j = c.rs.length := by omega
          clear hlt hj
          have L2 : Hid (CfLies wq (turnedC c) q) := W.out.turned
          have X : Hid (BoxC wq w.heap.size c p) := W.out.x
          have Y : Hid (BoxC wq d c q) := W.out.y
          clear W HXe HXr
          go_wp2_with fail
          refine (HO1.out _ B.out).mono ?_; rintro e y1 ⟨rfl, hb⟩
          have C1 : Hid (Below wq.heap.size wq y1) := hb
          clear hb c0 c1 c2 c3 c4 c5 c6 HO1
          obtain ⟨d0, d1, d2, d3, d4, d5, d6⟩ := hcell.out _ _ _ (Y.out.below C1.out)
          go_wp2_with fail
          refine (HO2.out _ q (L2.out.below C1.out)).mono ?_; rintro e y2 ⟨rfl, hb⟩
          have C2 : Hid (Below wq.heap.size wq y2) := bel_trans C1.out hb
          clear hb d0 d1 d2 d3 d4 d5 d6 HO2 C1
          obtain ⟨c0, c1, c2, c3, c4, c5, c6⟩ := hcell.out _ _ _ (X.out.below C2.out)
          go_wp2_with fail
          refine (HV1.out _ (bel_trans B.out C2.out)).mono ?_; rintro e y3 ⟨rfl, hb⟩
          have C3 : Hid (Below wq.heap.size wq y3) := bel_trans C2.out hb
          clear hb c0 c1 c2 c3 c4 c5 c6 HV1 C2
          obtain ⟨d0, d1, d2, d3, d4, d5, d6⟩ := hcell.out _ _ _ (Y.out.below C3.out)
          go_wp2_with fail
          refine (HV2.out _ q (L2.out.below C3.out)).mono ?_; rintro e y4 ⟨rfl, hb⟩
          have C4 : Hid (Below wq.heap.size wq y4) := bel_trans C3.out hb
          clear hb d0 d1 d2 d3 d4 d5 d6 HV2 C3
          go_wp2_with fail
          have HS : Hid (∀ w', Below wq.heap.size wq w' → (w'.cell? ⟨w.heap.size, 0, none⟩ = some (.int .i64 c.fi) ∧ w'.cell? ⟨w.heap.size, 1, none⟩ = some (.int .i64 c.la) ∧ w'.cell? ⟨w.heap.size, 2, none⟩ = some (.slice p.ea c.ex.length p.ec) ∧ w'.cell? ⟨w.heap.size, 3, none⟩ = some (.slice p.ra c.rs.length p.rc) ∧ w'.cell? ⟨w.heap.size, 4, none⟩ = some (.int .i64 c.ti) ∧ w'.cell? ⟨w.heap.size, 5, none⟩ = some (.string c.zo) ∧ w'.cell? ⟨w.heap.size, 6, none⟩ = some (.slice p.sa c.st.length p.sc)) ∧ (w'.cell? ⟨d, 0, none⟩ = some (.int .i64 c.fi) ∧ w'.cell? ⟨d, 1, none⟩ = some (.int .i64 c.la) ∧ w'.cell? ⟨d, 2, none⟩ = some (.slice q.ea c.ex.length q.ec) ∧ w'.cell? ⟨d, 3, none⟩ = some (.slice q.ra c.rs.length q.rc) ∧ w'.cell? ⟨d, 4, none⟩ = some (.int .i64 c.ti) ∧ w'.cell? ⟨d, 5, none⟩ = some (.string c.zo) ∧ w'.cell? ⟨d, 6, none⟩ = some (.slice q.sa c.st.length q.sc)) ∧ Below wq.heap.size wq w') := fun w' hb => ⟨(X.out.below hb).all, (Y.out.below hb).all, hb⟩
          have HMk : Hid (∀ (P : CPl) (w' : World), (P = p ∨ P = q) → Below wq.heap.size wq w' → Calls Try.prog 15 #[.agg #[.int .i64 c.fi, .int .i64 c.la, .slice P.ea c.ex.length P.ec, .slice P.ra c.rs.length P.rc, .int .i64 c.ti, .string c.zo, .slice P.sa c.st.length P.sc]] w' fun e w'' => e = .returned (.bool mB) ∧ Below w'.heap.size w' w'') := fun P w' hP hb => by
            rcases hP with rfl | rfl
            · exact HM1.out w' (bel_trans B.out hb)
            · exact HM2.out w' _ (L2.out.below hb)
          have HUk : Hid (∀ (P : CPl) (w' : World), (P = p ∨ P = q) → Below wq.heap.size wq w' → Calls Try.prog 17 #[.agg #[.int .i64 c.fi, .int .i64 c.la, .slice P.ea c.ex.length P.ec, .slice P.ra c.rs.length P.rc, .int .i64 c.ti, .string c.zo, .slice P.sa c.st.length P.sc], .int .i64 h] w' fun e w'' => e = .returned (.bool uB) ∧ Below w'.heap.size w' w'') := fun P w' hP hb => by
            rcases hP with rfl | rfl
            · exact HU1.out w' (bel_trans B.out hb)
            · exact HU2.out w' _ (L2.out.below hb)
          have C4d : Hid (Below wq.heap.size wq y4.drew) := C4.out.drew
          clear HM1 HM2 HU1 HU2 C4
          go_region_held3 (fun w' => (w'.cell? ⟨w.heap.size, 0, none⟩ = some (.int .i64 c.fi) ∧ w'.cell? ⟨w.heap.size, 1, none⟩ = some (.int .i64 c.la) ∧ w'.cell? ⟨w.heap.size, 2, none⟩ = some (.slice p.ea c.ex.length p.ec) ∧ w'.cell? ⟨w.heap.size, 3, none⟩ = some (.slice p.ra c.rs.length p.rc) ∧ w'.cell? ⟨w.heap.size, 4, none⟩ = some (.int .i64 c.ti) ∧ w'.cell? ⟨w.heap.size, 5, none⟩ = some (.string c.zo) ∧ w'.cell? ⟨w.heap.size, 6, none⟩ = some (.slice p.sa c.st.length p.sc)) ∧ (w'.cell? ⟨d, 0, none⟩ = some (.int .i64 c.fi) ∧ w'.cell? ⟨d, 1, none⟩ = some (.int .i64 c.la) ∧ w'.cell? ⟨d, 2, none⟩ = some (.slice q.ea c.ex.length q.ec) ∧ w'.cell? ⟨d, 3, none⟩ = some (.slice q.ra c.rs.length q.rc) ∧ w'.cell? ⟨d, 4, none⟩ = some (.int .i64 c.ti) ∧ w'.cell? ⟨d, 5, none⟩ = some (.string c.zo) ∧ w'.cell? ⟨d, 6, none⟩ = some (.slice q.sa c.st.length q.sc)) ∧ Below wq.heap.size wq w')
            (first | exact HS.out _ C4d.out | exact HS.out _ sB)
            (first
              | (go_at_call 19; have sB := (‹_ ∧ _ ∧ Below wq.heap.size wq _›).2.2; refine (num_any _ _).mono ?_; rintro e wN ⟨rfl, rfl⟩)
              | (go_at_call 15; have tB := (‹_ ∧ _ ∧ Below wq.heap.size wq _›).2.2; refine (HMk.out _ _ ?_ tB).mono ?_; (first | exact .inl rfl | exact .inr rfl); rintro e wN ⟨rfl, hbN⟩; have sB := bel_trans tB hbN; clear tB hbN)
              | (go_at_call 17; have tB := (‹_ ∧ _ ∧ Below wq.heap.size wq _›).2.2; refine (HUk.out _ _ ?_ tB).mono ?_; (first | exact .inl rfl | exact .inr rfl); rintro e wN ⟨rfl, hbN⟩; have sB := bel_trans tB hbN; clear tB hbN))
          all_goals
            have sF := (‹_ ∧ _ ∧ Below wq.heap.size wq _›).2.2
            go_wp2
            go_ret
            exact ⟨rfl, bel_trans B.out sF⟩

theorem own : ownKnob Try.prog.godebug = none := by kernel_rfl
theorem laidOut : laidOutB Try.prog = true := by kernel_rfl

/-! ### The row's step -/
set_option maxRecDepth 100000 in
theorem lifted (os : Os) (started : os.Started) (H : Type) (enc : TypeId × Value → H) :
    ReturnsInHanded {} Try.checked os 7 .any (Rows.confRowsSpec.pre6 enc Try.prog Try.f7 Rows.confRowsRow.domain false) (Rows.confRowsSpec.post enc Try.prog Try.f7 false true false false) := by
  refine returnsInHanded_of_change_sized (C := Try.checked) own started (by kernel_rfl) Try.func7
    (ChangeSpec.witness6 (enc := enc) (C := Try.checked) false ⟨#[], #[.agg #[.int .i64 0, .int .i64 0, .slice none 0 0, .slice none 0 0, .int .i64 0, .string ByteArray.empty, .slice none 0 0], .int .i64 0, .string ByteArray.empty], []⟩ 8 (by kernel_rfl) (by kernel_rfl) (by kernel_rfl) (by kernel_rfl)) ?_
  intro W base args ds gs before hval0 hW _ hsz0 _
  have hval : ∀ (j : Nat) t v, Try.f7.params[j]? = some t → args[j]? = some v → Value.okWide Try.prog W .any base t v := hval0
  have hsz : (DataW.weightsEach Try.prog (Try.f7.params.toList ++ Rows.confRowsSpec.plain.varTypes Try.prog) (ds ++ gs)).all (· ≤ reachBytes) = true := hsz0
  have hW' := hW
  obtain ⟨p, q, hA0, hV, rfl, _, _⟩ := hW
  have hA : DataW.TrodAll enc Try.prog W 0 (fun _ => true) true Try.f7.params.toList args.toList ds p := hA0
  rw [Try.params7] at hA hval hsz
  obtain ⟨v0, vs0, d0, ds0, p0, q0, hargs, rfl, rfl, h0, r0⟩ := trodAll_cons hA
  obtain ⟨v1, vs1, d1, ds1, p1, q1, rfl, rfl, rfl, h1, r1⟩ := trodAll_cons r0
  obtain ⟨v2, vs2, d2, ds2, p2, q2, rfl, rfl, rfl, h2, r2⟩ := trodAll_cons r1
  obtain ⟨rfl, rfl, rfl⟩ := trodAll_nil r2
  obtain rfl : args = #[v0, v1, v2] := by cases args; simp_all
  obtain ⟨rfl, rfl⟩ := trodVars_none hV
  have k0 := h0
  have lt0 : ∀ x ∈ p0, x.block < W.heap.size := by obtain ⟨m, hm⟩ := k0; exact DataW.trod_lt m _ _ _ hm
  obtain ⟨a0, A0, rfl, w0, f0, u0, g0⟩ := open_cf (hval 0 26 v0 rfl rfl) h0
  have b0 : CfReach a0 := u0 (fun n hn => by have := List.all_eq_true.1 hsz n (DataW.weights_mem_each (j := 0) (t := 26) (d := d0) rfl rfl n hn); simpa using this)
  obtain ⟨a1, rfl, rfl, rfl, w1⟩ := open_int Try.underlying3 (hval 1 3 v1 rfl rfl) h1
  obtain ⟨a2, rfl, rfl, rfl, w2⟩ := open_string Try.underlying9 (hval 2 9 v2 rfl rfl) h2
  have s2 : a2.size ≤ 140737488351232 := by have := sized_string hsz (j := 2) (t := 9) rfl rfl; simpa [reachBytes] using this
  clear hA0 hval0 hsz0
  refine (walk a0 A0 a1 a2 W w0 f0 b0 w1 s2).mono fun e W' ⟨he, bel⟩ => ?_
  subst he
  exact ⟨_, rfl, _, _, _, [], _, [], hW', trodAll_mk1 (shut_bool Try.underlying4 _), (trodAll_cons_mk (Below.trod laidOut (by kernel_rfl) (of_decide_eq_true (by kernel_rfl)) k0 bel lt0) (trodAll_cons_mk (shut_int Try.underlying3 w1) (trodAll_cons_mk (shut_string Try.underlying9 w2) trodAll_mk0))), rfl, bel.frame _, fun h => by cases h⟩

theorem over : Rows.confRowsRow.holds Try.pinned (OpenSpec.ofChange Rows.confRowsSpec) :=
  OpenClaim.holds_of_wide 7 Try.f7 rfl rfl rfl rfl rfl rfl rfl ⟨rfl, rfl, rfl, rfl, rfl⟩ rfl rfl rfl rfl rfl (by kernel_rfl) Try.func7 (by kernel_rfl)
    (of_decide_eq_true (by kernel_rfl)) (by unfold Func.isWrapper; first | (rw [if_pos (by decide +kernel)]; kernel_rfl) | (rw [if_neg (by decide +kernel)]; exact ⟨rfl, rfl⟩))
    (fun os started H enc _ => lifted os started H enc)

/-- The given statement. -/
theorem proved : Rows.ConfRowsSaid := over

end Go.Proofs.Ytedbihckdbpebaa.confRows
namespace Go.Proofs.Ytedbihckdbpebaa
theorem confRows_proved : Rows.ConfRowsSaid := confRows.proved
#print axioms confRows_proved
end Go.Proofs.Ytedbihckdbpebaa
