/-
  Contract of the laws' CopyConfig, at every configuration.
-/
import Derived.Test.YtedbihckdbpebaaConfRes
import Derived.Laws.OwnMore
import Derived.BigQuiet
import Derived.Deep.RegionHeld3
import Derived.Deep.DeepCutAuto
import Derived.Deep.CutRange
namespace Go.Proofs.Ytedbihckdbpebaa
open Go.ChangeShapes Go.WideShapes Go.ChangeAt Go.RowKit Go.Pin Go.PlainAid

theorem Try.infoRsv : (Try.prog.info? 47).map (fun i => (i.zero, i.size, i.bytes)) = some (some (.agg #[.string ByteArray.empty, .int .i64 0]), 2, 24) := by kernel_rfl
/-- Reservations, made by the call. -/
def Rsvs (w : World) (base : Nat) (v : Value) (rs : List Rsv) : Prop := w.ownsRow base 47 2 v rs.length (rs.flatMap cellsV)
theorem nums_empty (w : World) : Nums (w.alloc (.cells #[] 3)) w.heap.size (.slice (some ⟨w.heap.size, 0, none⟩) 0 0) [] :=
  World.ownsRow_lit w #[] 0 (Nat.le_refl _) (by unfold maxLen; omega) rfl
theorem rsvs_empty (w : World) : Rsvs (w.alloc (.cells #[] 47)) w.heap.size (.slice (some ⟨w.heap.size, 0, none⟩) 0 0) [] :=
  World.ownsRow_lit w #[] 0 (Nat.le_refl _) (by unfold maxLen; omega) rfl
theorem nums_one (xs : List Int) : ∀ u ∈ xs.map (Value.int .i64), u.oneCell' = true := by
  intro u hu
  obtain ⟨x, _, rfl⟩ := List.mem_map.1 hu
  rfl
theorem cellsV_len (rs : List Rsv) : (rs.flatMap cellsV).length = rs.length * 2 := by
  induction rs with
  | nil => rfl
  | cons r rs ih => simp [List.flatMap_cons, ih, cellsV]; omega
theorem cellsV_one (rs : List Rsv) : ∀ u ∈ rs.flatMap cellsV, u.oneCell' = true := by
  intro u hu
  simp only [List.mem_flatMap, cellsV] at hu
  obtain ⟨r, _, hu⟩ := hu
  simp at hu
  rcases hu with rfl | rfl <;> rfl
theorem flatV_at : ∀ (l : List Rsv) (I : Nat) (r : Rsv) (j : Nat), l[I]? = some r → j < 2 → (l.flatMap cellsV)[I * 2 + j]? = (cellsV r)[j]?
  | [], _, _, _, h, _ => by simp at h
  | a :: l, 0, r, j, h, hj => by
    simp only [List.getElem?_cons_zero, Option.some.injEq] at h
    subst h
    rw [List.flatMap_cons, Nat.zero_mul, Nat.zero_add, List.getElem?_append_left (by simp [cellsV]; omega)]
  | a :: l, I + 1, r, j, h, hj => by
    simp only [List.getElem?_cons_succ] at h
    rw [List.flatMap_cons, List.getElem?_append_right (by simp [cellsV]; omega)]
    have : (I + 1) * 2 + j - (cellsV a).length = I * 2 + j := by simp [cellsV]; omega
    rw [this]
    exact flatV_at l I r j h hj
theorem vcells_of_from {w : World} {x : Addr} {rs : List Rsv} (h : ∀ j r, rs[j]? = some r → RsvFrom w (x.add (j * 2)) r) : ∀ j u, (rs.flatMap cellsV)[j]? = some u → w.cell? (x.add j) = some u := by
  intro j u hj
  have hjl := (List.getElem?_eq_some_iff.1 hj).1
  rw [cellsV_len] at hjl
  obtain ⟨q, k, rfl, hk⟩ : ∃ q k, j = q * 2 + k ∧ k < 2 := ⟨j / 2, j % 2, by omega, by omega⟩
  obtain ⟨r, hr⟩ : ∃ r, rs[q]? = some r := ⟨_, List.getElem?_eq_getElem (by omega)⟩
  have hf := flatV_at rs q r k hr hk
  rw [hj] at hf
  obtain ⟨h0, h1⟩ := h q r hr
  rcases (by omega : k = 0 ∨ k = 1) with rfl | rfl
  · rw [Nat.add_zero, h0]; exact hf.symm
  · rw [add_more _ _ _ (by omega), h1]; exact hf.symm
theorem led_nums {w : World} {a : Option Addr} {xs : List Int} (h : NumsLie w a xs) : Led w a xs.length (xs.map (Value.int .i64)) := by
  rcases h with rfl | ⟨x, rfl, h⟩
  · cases a with
    | none => exact .inl ⟨rfl, rfl⟩
    | some x => exact .inr ⟨x, rfl, fun j u hj => by simp at hj⟩
  · refine .inr ⟨x, rfl, fun j u hj => ?_⟩
    rw [List.getElem?_map] at hj
    cases hx : xs[j]? with
    | none => rw [hx] at hj; simp at hj
    | some n => rw [hx] at hj; simp at hj; subst hj; exact h j n hx
theorem led_rsvs {w : World} {a : Option Addr} {rs : List Rsv} (h : RsvsLie w a rs) : Led w a rs.length (rs.flatMap cellsV) := by
  rcases h with rfl | ⟨x, rfl, h⟩
  · cases a with
    | none => exact .inl ⟨rfl, rfl⟩
    | some x => exact .inr ⟨x, rfl, fun j u hj => by simp at hj⟩
  · exact .inr ⟨x, rfl, vcells_of_from h⟩
theorem Rsvs.lies {w : World} {base : Nat} {a : Option Addr} {cap : Nat} {rs : List Rsv} (h : Rsvs w base (.slice a rs.length cap) rs) : RsvsLie w a rs := by
  by_cases h0 : rs = []
  · exact .inl h0
  · obtain ⟨g, rfl, _, hc⟩ := row_cell h (by cases rs with | nil => exact absurd rfl h0 | cons _ _ => simp)
    refine .inr ⟨_, rfl, fun j r hj => ?_⟩
    have hl := (List.getElem?_eq_some_iff.1 hj).1
    have e : (⟨g, 0, none⟩ : Addr).add (j * 2) = ⟨g, j * 2, none⟩ := by unfold Addr.add; split <;> simp_all
    rw [e]
    refine ⟨(hc (j * 2) (by omega)).trans (flatV_at rs j r 0 hj (by omega)), (hc (j * 2 + 1) (by omega)).trans (flatV_at rs j r 1 hj (by omega))⟩
theorem Recs.lie {w : World} {base : Nat} {a : Option Addr} {cap : Nat} {rs : List Rec} (h : Recs w base (.slice a rs.length cap) rs) : RecsLie w a rs := by
  by_cases h0 : rs = []
  · exact .inl h0
  · obtain ⟨g, rfl, _, hc⟩ := row_cell h (by cases rs with | nil => exact absurd rfl h0 | cons _ _ => simp)
    refine .inr ⟨_, rfl, fun j r hj => ?_⟩
    have hl := (List.getElem?_eq_some_iff.1 hj).1
    have e : (⟨g, 0, none⟩ : Addr).add (j * 7) = ⟨g, j * 7, none⟩ := by unfold Addr.add; split <;> simp_all
    rw [e]
    have f : ∀ k, k < 7 → w.cell? ⟨g, j * 7 + k, none⟩ = (cellsR r)[k]? := fun k hk => (hc (j * 7 + k) (by omega)).trans (flat_at rs j r k hj hk)
    exact ⟨f 0 (by omega), f 1 (by omega), f 2 (by omega), f 3 (by omega), f 4 (by omega), f 5 (by omega), f 6 (by omega)⟩
/-- The three rows, made by the call. -/
structure Rows3 (w : World) (base : Nat) (c : Cf) (p : CPl) : Prop where
  e : Nums w base (.slice p.ea c.ex.length p.ec) c.ex
  r : Rsvs w base (.slice p.ra c.rs.length p.rc) c.rs
  s : Recs w base (.slice p.sa c.st.length p.sc) c.st
theorem row_kept {w w' : World} {base : Nat} {e : TypeId} {s : Nat} {v : Value} {n : Nat} {xs : List Value} (h : w.ownsRow base e s v n xs) (hk : ∀ g, base ≤ g → g < w.heap.size → w'.heap[g]? = w.heap[g]?) : w'.ownsRow base e s v n xs := by
  obtain ⟨h1, h2⟩ := h
  refine ⟨h1, ?_⟩
  rcases h2 with h2 | ⟨g, cap, cur, hv, hg, hh, r⟩
  · exact .inl h2
  · exact .inr ⟨g, cap, cur, hv, hg, (hk g hg (Array.getElem?_eq_some_iff.1 hh).1).trans hh, r⟩
theorem Rows3.keep {w w' : World} {base : Nat} {c : Cf} {p : CPl} (h : Rows3 w base c p) (hk : ∀ g, base ≤ g → g < w.heap.size → w'.heap[g]? = w.heap[g]?) : Rows3 w' base c p := ⟨row_kept h.e hk, row_kept h.r hk, row_kept h.s hk⟩
theorem Rows3.lies {w : World} {base : Nat} {c : Cf} {p : CPl} (h : Rows3 w base c p) : CfLies w c p := ⟨h.e.lies, h.r.lies, h.s.lie⟩
theorem Rows3.base {w : World} {base base' : Nat} {c : Cf} {p : CPl} (h : Rows3 w base c p) (hb : base' ≤ base) : Rows3 w base' c p := ⟨row_base h.e hb, row_base h.r hb, row_base h.s hb⟩
/-- All cells stored. -/
def layC (w : World) (r : Nat) (M : Cf) (P : CPl) : World := ((((((w.setCell ⟨r, 0, none⟩ (.int .i64 M.fi)).setCell ⟨r, 1, none⟩ (.int .i64 M.la)).setCell ⟨r, 2, none⟩ (.slice P.ea M.ex.length P.ec)).setCell ⟨r, 3, none⟩ (.slice P.ra M.rs.length P.rc)).setCell ⟨r, 4, none⟩ (.int .i64 M.ti)).setCell ⟨r, 5, none⟩ (.string M.zo)).setCell ⟨r, 6, none⟩ (.slice P.sa M.st.length P.sc)
theorem layC_box {w : World} {r : Nat} {m : Cf} {p : CPl} (h : BoxC w r m p) (M : Cf) (P : CPl) : BoxC (layC w r M P) r M P := by
  have s0 := heap_set (j := 0) (v := .int .i64 M.fi) h
  have s1 := heap_set (j := 1) (v := .int .i64 M.la) s0
  have s2 := heap_set (j := 2) (v := .slice P.ea M.ex.length P.ec) s1
  have s3 := heap_set (j := 3) (v := .slice P.ra M.rs.length P.rc) s2
  have s4 := heap_set (j := 4) (v := .int .i64 M.ti) s3
  have s5 := heap_set (j := 5) (v := .string M.zo) s4
  have s6 := heap_set (j := 6) (v := .slice P.sa M.st.length P.sc) s5
  unfold BoxC layC
  rw [s6]
  rfl
theorem layC_other (w : World) (r k : Nat) (M : Cf) (P : CPl) (hk : k ≠ r) : (layC w r M P).heap[k]? = w.heap[k]? := by
  unfold layC
  rw [Below.heap_setCell _ _ _ _ hk, Below.heap_setCell _ _ _ _ hk, Below.heap_setCell _ _ _ _ hk, Below.heap_setCell _ _ _ _ hk, Below.heap_setCell _ _ _ _ hk, Below.heap_setCell _ _ _ _ hk, Below.heap_setCell _ _ _ _ hk]
theorem layC_below {w w0 : World} {r n : Nat} (h : Below n w0 w) (hr : n ≤ r) (M : Cf) (P : CPl) : Below n w0 (layC w r M P) := by
  unfold layC
  exact ((((((h.setCell hr _).setCell hr _).setCell hr _).setCell hr _).setCell hr _).setCell hr _).setCell hr _

set_option maxRecDepth 100000 in
set_option maxHeartbeats 8000000 in
theorem copyCf_c (m : Cf) (p : CPl) (w : World) (hl : CfLies w m p) (k1 : m.ex.length * 8 ≤ 140737488351232) (k2 : m.rs.length * 24 ≤ 140737488351232) (k3 : m.st.length * 80 ≤ 140737488351232) :
    Calls Try.prog 8 #[cv m p] w fun e w' => (∃ p', e = .returned (cv m p') ∧ Rows3 w' w.heap.size m p') ∧ Below w.heap.size w w' := by
  have HL : Hid (∀ w', Below w.heap.size w w' → Led w' p.ea m.ex.length (m.ex.map (Value.int .i64)) ∧ Led w' p.ra m.rs.length (m.rs.flatMap cellsV) ∧ Led w' p.sa m.st.length (m.st.flatMap cellsR)) := fun w' hb => ⟨(led_nums hl.e).below hb, (led_rsvs hl.r).below hb, (led_recs hl.s).below hb⟩
  obtain ⟨w0, hw0⟩ : ∃ w0, (w.alloc (.cells (cellsC m p) 26)).alloc (.cells (cellsC zeroC nilC) 26) = w0 := ⟨_, rfl⟩
  have X0 : Hid (BoxC w0 w.heap.size m p) := by
    show BoxC _ _ _ _
    rw [← hw0]; exact (BoxC.new w m p).below ((Below.refl _ _).alloc (Nat.le_refl _) _)
  have Z0 : Hid (BoxC w0 (w.heap.size + 1) zeroC nilC) := by
    show BoxC _ _ _ _
    rw [← hw0]
    have := BoxC.new (w.alloc (.cells (cellsC m p) 26)) zeroC nilC
    simpa using this
  have B0 : Hid (Below w.heap.size w w0) := by
    show Below _ _ _
    rw [← hw0]; exact ((Below.refl _ _).alloc (Nat.le_refl _) _).alloc (by simp) _
  obtain ⟨b, hb⟩ : ∃ b, w.heap.size = b := ⟨_, rfl⟩
  have Hb : Hid (w.heap.size = b) := hb
  obtain ⟨r, hr⟩ : ∃ r, w.heap.size + 1 = r := ⟨_, rfl⟩
  have Hr : Hid (w.heap.size + 1 = r) := hr
  have hbr : ¬ b = r := by omega
  have hrb : ¬ r = b := by omega
  have hb1 : b < r + 1 := by omega
  rw [hb] at X0
  rw [hr] at Z0
  obtain ⟨i0, hi0, hz0, hz1, hz2⟩ := info_parts Try.cInfoInt
  obtain ⟨i1, hi1, hy0, hy1, hy2⟩ := info_parts Try.infoRsv
  obtain ⟨i2, hi2, hx0, hx1, hx2⟩ := info_parts Try.infoRR
  obtain ⟨fi, la, ex, rs, ti, zo, st⟩ := m
  obtain ⟨ea, ec, ra, rc, sa, sc⟩ := p
  simp only at k1 k2 k3 HL
  have K1 : Hid (ex.length * 8 ≤ 140737488351232) := k1
  have K2 : Hid (rs.length * 24 ≤ 140737488351232) := k2
  have K3 : Hid (st.length * 80 ≤ 140737488351232) := k3
  clear hl k1 k2 k3 hb hr
  simp only [cellsC, zeroC, nilC, List.length_nil] at hw0
  simp only [cv, cellsC]
  have Hw0 : Hid (_ = w0) := hw0
  clear hw0
  go_enter Try.func8, Try.ntmps8
  go_upto_region 1 with fail
  rw [Hw0.out, Hr.out, Hb.out]
  clear Hw0
  go_cut [] from 3 to 7 (fun wx => ∃ (ea' : Option Addr) (ec' : Nat), Hid (BoxC wx b ⟨fi, la, ex, rs, ti, zo, st⟩ ⟨ea', ec', ra, rc, sa, sc⟩) ∧ Hid (BoxC wx r zeroC nilC) ∧ Hid (Below w.heap.size w wx) ∧ Hid (Nums wx (r + 1) (.slice ea' ex.length ec') ex))
  case first =>
    have cx := X0.out.cell 2
    simp only [cellsC, List.getElem?_toArray, List.getElem?_cons_zero, List.getElem?_cons_succ] at cx
    have fx := X0.out.fz 2
    have ltb := X0.out.lt
    have ltr := Z0.out.lt
    have hle := B0.out.size
    have K : Hid (∀ (w3 : World) (a3 : Option Addr) (c3 : Nat), Below w0.heap.size w0 w3 → Nums w3 w0.heap.size (.slice a3 ex.length c3) ex → BoxC (w3.setCell ⟨b, 2, none⟩ (.slice a3 ex.length c3)) b ⟨fi, la, ex, rs, ti, zo, st⟩ ⟨a3, c3, ra, rc, sa, sc⟩ ∧ BoxC (w3.setCell ⟨b, 2, none⟩ (.slice a3 ex.length c3)) r zeroC nilC ∧ Below w.heap.size w (w3.setCell ⟨b, 2, none⟩ (.slice a3 ex.length c3)) ∧ Nums (w3.setCell ⟨b, 2, none⟩ (.slice a3 ex.length c3)) (r + 1) (.slice a3 ex.length c3) ex) := fun w3 a3 c3 hb hR =>
      ⟨(X0.out.below hb).set 2 _ rfl, (Z0.out.below hb).far hrb, (B0.out.trans (hb.mono hle)).setCell (show w.heap.size ≤ b from Nat.le_of_eq Hb.out) _, row_set (row_base hR ltr) hb1⟩
    have KX : Hid (∀ w3, Below w0.heap.size w0 w3 → w3.cell? ⟨b, 2, none⟩ = some (.slice ea ex.length ec) ∧ w3.frozen? ⟨b, 2, none⟩ = false) := fun w3 hb => ⟨(X0.out.below hb).cell 2, (X0.out.below hb).fz 2⟩
    have LD := (HL.out _ B0.out).1
    have hK := K1.out
    clear X0 Z0 B0 HL
    rcases LD with ⟨rfl, hn⟩ | ⟨x, rfl, hx⟩
    · obtain rfl := List.eq_nil_of_length_eq_zero hn
      simp only [List.length_nil] at cx
      have hA : Below w0.heap.size w0 (w0.alloc (.cells #[] 3)) := (Below.refl _ _).alloc (Nat.le_refl _) _
      have hE := nums_empty w0
      obtain ⟨wA, hwA⟩ : ∃ wA, w0.alloc (.cells #[] 3) = wA := ⟨_, rfl⟩
      rw [hwA] at hE hA
      obtain ⟨k0, k1, k2, k3⟩ := K.out _ (some ⟨w0.heap.size, 0, none⟩) 0 hA hE
      obtain ⟨jx, jf⟩ := KX.out _ hA
      simp only [List.length_nil] at jx
      clear K KX hK
      go_wp2_with (first
        | (at_builtin; refine wpList_append_none rfl _ _ 22 rfl w0.heap.size 3 i0 1 Try.underlying22 hi0 _ 0 [] _ rfl hE rfl ?_)
        | fail)
      go_meet
      exact ⟨some ⟨w0.heap.size, 0, none⟩, 0, k0, k1, k2, k3⟩
    · have HKs : Hid (_ ≤ _) := hK
      clear hK
      go_wp2_with (first
        | (at_builtin; refine wpList_append_own _ rfl _ _ 22 rfl w0.heap.size 3 i0 (.int .i64 0) 1 8 Try.underlying22 hi0 hz0 hz1 hz2 rfl (by decide) _ 0 [] rfl (nums_empty w0) x ex.length ec (ex.map (Value.int .i64)) rfl (by simp) (fun j u hj => (((Below.refl w0.heap.size w0).alloc (Nat.le_refl _) _).cell (World.block_lt_of_cell? _ _ (hx j u hj))).trans (hx j u hj)) (nums_one ex) ?c3 ?c4 ?c5 ?_)
        | fail)
      case c3 => have := HKs.out; unfold maxLen; omega
      case c4 => have := HKs.out; omega
      case c5 => simp
      intro v' w3 hown' hgrow _
      have hb3 : Below w0.heap.size w0 w3 := ((Below.refl _ _).alloc (Nat.le_refl _) _).grown hgrow (by simp) (fun k hk => by cases hk; exact Nat.le_refl _)
      have hR : Nums w3 w0.heap.size v' ex := by
        show World.ownsRow _ _ _ _ _ _ _
        simpa [Nat.zero_add] using hown'
      obtain ⟨a3, c3, rfl⟩ := row_form hR
      obtain ⟨k0, k1, k2, k3⟩ := K.out w3 a3 c3 hb3 hR
      obtain ⟨jx, jf⟩ := KX.out w3 hb3
      clear K KX hown' hgrow hR cx fx hx
      go_wp2_with fail
      go_meet
      exact ⟨a3, c3, k0, k1, k2, k3⟩
  case rest =>
  obtain ⟨ea', ec', X1, Z1, B1, R1ex⟩ := hcut
  rename World => wv1
  clear X0 Z0 B0
  go_upto_region 2 with fail
  go_cut [] from 8 to 12 (fun wx => ∃ (ra' : Option Addr) (rc' : Nat), Hid (BoxC wx b ⟨fi, la, ex, rs, ti, zo, st⟩ ⟨ea', ec', ra', rc', sa, sc⟩) ∧ Hid (BoxC wx r zeroC nilC) ∧ Hid (Below w.heap.size w wx) ∧ Hid (Nums wx (r + 1) (.slice ea' ex.length ec') ex) ∧ Hid (Rsvs wx (r + 1) (.slice ra' rs.length rc') rs))
  case first =>
    have cx := X1.out.cell 3
    simp only [cellsC, List.getElem?_toArray, List.getElem?_cons_zero, List.getElem?_cons_succ] at cx
    have fx := X1.out.fz 3
    have ltb := X1.out.lt
    have ltr := Z1.out.lt
    have hle := B1.out.size
    have K : Hid (∀ (w3 : World) (a3 : Option Addr) (c3 : Nat), Below wv1.heap.size wv1 w3 → Rsvs w3 wv1.heap.size (.slice a3 rs.length c3) rs → BoxC (w3.setCell ⟨b, 3, none⟩ (.slice a3 rs.length c3)) b ⟨fi, la, ex, rs, ti, zo, st⟩ ⟨ea', ec', a3, c3, sa, sc⟩ ∧ BoxC (w3.setCell ⟨b, 3, none⟩ (.slice a3 rs.length c3)) r zeroC nilC ∧ Below w.heap.size w (w3.setCell ⟨b, 3, none⟩ (.slice a3 rs.length c3)) ∧ Nums (w3.setCell ⟨b, 3, none⟩ (.slice a3 rs.length c3)) (r + 1) (.slice ea' ex.length ec') ex ∧ Rsvs (w3.setCell ⟨b, 3, none⟩ (.slice a3 rs.length c3)) (r + 1) (.slice a3 rs.length c3) rs) := fun w3 a3 c3 hb hR =>
      ⟨(X1.out.below hb).set 3 _ rfl, (Z1.out.below hb).far hrb, (B1.out.trans (hb.mono hle)).setCell (show w.heap.size ≤ b from Nat.le_of_eq Hb.out) _, row_set (row_below R1ex.out hb) hb1, row_set (row_base hR ltr) hb1⟩
    have KX : Hid (∀ w3, Below wv1.heap.size wv1 w3 → w3.cell? ⟨b, 3, none⟩ = some (.slice ra rs.length rc) ∧ w3.frozen? ⟨b, 3, none⟩ = false) := fun w3 hb => ⟨(X1.out.below hb).cell 3, (X1.out.below hb).fz 3⟩
    have LD := (HL.out _ B1.out).2.1
    have hK := K2.out
    clear X1 Z1 B1 HL R1ex
    rcases LD with ⟨rfl, hn⟩ | ⟨x, rfl, hx⟩
    · obtain rfl := List.eq_nil_of_length_eq_zero hn
      simp only [List.length_nil] at cx
      have hA : Below wv1.heap.size wv1 (wv1.alloc (.cells #[] 47)) := (Below.refl _ _).alloc (Nat.le_refl _) _
      have hE := rsvs_empty wv1
      obtain ⟨wA, hwA⟩ : ∃ wA, wv1.alloc (.cells #[] 47) = wA := ⟨_, rfl⟩
      rw [hwA] at hE hA
      obtain ⟨k0, k1, k2, k3, k4⟩ := K.out _ (some ⟨wv1.heap.size, 0, none⟩) 0 hA hE
      obtain ⟨jx, jf⟩ := KX.out _ hA
      simp only [List.length_nil] at jx
      clear K KX hK
      go_wp2_with (first
        | (at_builtin; refine wpList_append_none rfl _ _ 23 rfl wv1.heap.size 47 i1 2 Try.underlying23 hi1 _ 0 [] _ rfl hE rfl ?_)
        | fail)
      go_meet
      exact ⟨some ⟨wv1.heap.size, 0, none⟩, 0, k0, k1, k2, k3, k4⟩
    · have HKs : Hid (_ ≤ _) := hK
      clear hK
      go_wp2_with (first
        | (at_builtin; refine wpList_append_own _ rfl _ _ 23 rfl wv1.heap.size 47 i1 (.agg #[.string ByteArray.empty, .int .i64 0]) 2 24 Try.underlying23 hi1 hy0 hy1 hy2 rfl (by decide) _ 0 [] rfl (rsvs_empty wv1) x rs.length rc (rs.flatMap cellsV) rfl (cellsV_len rs) (fun j u hj => (((Below.refl wv1.heap.size wv1).alloc (Nat.le_refl _) _).cell (World.block_lt_of_cell? _ _ (hx j u hj))).trans (hx j u hj)) (cellsV_one rs) ?c3 ?c4 ?c5 ?_)
        | fail)
      case c3 => have := HKs.out; unfold maxLen; omega
      case c4 => have := HKs.out; omega
      case c5 => simp
      intro v' w3 hown' hgrow _
      have hb3 : Below wv1.heap.size wv1 w3 := ((Below.refl _ _).alloc (Nat.le_refl _) _).grown hgrow (by simp) (fun k hk => by cases hk; exact Nat.le_refl _)
      have hR : Rsvs w3 wv1.heap.size v' rs := by
        show World.ownsRow _ _ _ _ _ _ _
        simpa [Nat.zero_add] using hown'
      obtain ⟨a3, c3, rfl⟩ := row_form hR
      obtain ⟨k0, k1, k2, k3, k4⟩ := K.out w3 a3 c3 hb3 hR
      obtain ⟨jx, jf⟩ := KX.out w3 hb3
      clear K KX hown' hgrow hR cx fx hx
      go_wp2_with fail
      go_meet
      exact ⟨a3, c3, k0, k1, k2, k3, k4⟩
  case rest =>
  obtain ⟨ra', rc', X2, Z2, B2, R2ex, R2rs⟩ := hcut
  rename World => wv2
  clear X1 Z1 B1 R1ex
  go_upto_region 3 with fail
  go_cut [] from 13 to 17 (fun wx => ∃ (sa' : Option Addr) (sc' : Nat), Hid (BoxC wx b ⟨fi, la, ex, rs, ti, zo, st⟩ ⟨ea', ec', ra', rc', sa', sc'⟩) ∧ Hid (BoxC wx r zeroC nilC) ∧ Hid (Below w.heap.size w wx) ∧ Hid (Nums wx (r + 1) (.slice ea' ex.length ec') ex) ∧ Hid (Rsvs wx (r + 1) (.slice ra' rs.length rc') rs) ∧ Hid (Recs wx (r + 1) (.slice sa' st.length sc') st))
  case first =>
    have cx := X2.out.cell 6
    simp only [cellsC, List.getElem?_toArray, List.getElem?_cons_zero, List.getElem?_cons_succ] at cx
    have fx := X2.out.fz 6
    have ltb := X2.out.lt
    have ltr := Z2.out.lt
    have hle := B2.out.size
    have K : Hid (∀ (w3 : World) (a3 : Option Addr) (c3 : Nat), Below wv2.heap.size wv2 w3 → Recs w3 wv2.heap.size (.slice a3 st.length c3) st → BoxC (w3.setCell ⟨b, 6, none⟩ (.slice a3 st.length c3)) b ⟨fi, la, ex, rs, ti, zo, st⟩ ⟨ea', ec', ra', rc', a3, c3⟩ ∧ BoxC (w3.setCell ⟨b, 6, none⟩ (.slice a3 st.length c3)) r zeroC nilC ∧ Below w.heap.size w (w3.setCell ⟨b, 6, none⟩ (.slice a3 st.length c3)) ∧ Nums (w3.setCell ⟨b, 6, none⟩ (.slice a3 st.length c3)) (r + 1) (.slice ea' ex.length ec') ex ∧ Rsvs (w3.setCell ⟨b, 6, none⟩ (.slice a3 st.length c3)) (r + 1) (.slice ra' rs.length rc') rs ∧ Recs (w3.setCell ⟨b, 6, none⟩ (.slice a3 st.length c3)) (r + 1) (.slice a3 st.length c3) st) := fun w3 a3 c3 hb hR =>
      ⟨(X2.out.below hb).set 6 _ rfl, (Z2.out.below hb).far hrb, (B2.out.trans (hb.mono hle)).setCell (show w.heap.size ≤ b from Nat.le_of_eq Hb.out) _, row_set (row_below R2ex.out hb) hb1, row_set (row_below R2rs.out hb) hb1, row_set (row_base hR ltr) hb1⟩
    have KX : Hid (∀ w3, Below wv2.heap.size wv2 w3 → w3.cell? ⟨b, 6, none⟩ = some (.slice sa st.length sc) ∧ w3.frozen? ⟨b, 6, none⟩ = false) := fun w3 hb => ⟨(X2.out.below hb).cell 6, (X2.out.below hb).fz 6⟩
    have LD := (HL.out _ B2.out).2.2
    have hK := K3.out
    clear X2 Z2 B2 HL R2ex R2rs
    rcases LD with ⟨rfl, hn⟩ | ⟨x, rfl, hx⟩
    · obtain rfl := List.eq_nil_of_length_eq_zero hn
      simp only [List.length_nil] at cx
      have hA : Below wv2.heap.size wv2 (wv2.alloc (.cells #[] 49)) := (Below.refl _ _).alloc (Nat.le_refl _) _
      have hE := recs_empty wv2
      obtain ⟨wA, hwA⟩ : ∃ wA, wv2.alloc (.cells #[] 49) = wA := ⟨_, rfl⟩
      rw [hwA] at hE hA
      obtain ⟨k0, k1, k2, k3, k4, k5⟩ := K.out _ (some ⟨wv2.heap.size, 0, none⟩) 0 hA hE
      obtain ⟨jx, jf⟩ := KX.out _ hA
      simp only [List.length_nil] at jx
      clear K KX hK
      go_wp2_with (first
        | (at_builtin; refine wpList_append_none rfl _ _ 24 rfl wv2.heap.size 49 i2 7 Try.underlying24 hi2 _ 0 [] _ rfl hE rfl ?_)
        | fail)
      go_meet
      exact ⟨some ⟨wv2.heap.size, 0, none⟩, 0, k0, k1, k2, k3, k4, k5⟩
    · have HKs : Hid (_ ≤ _) := hK
      clear hK
      go_wp2_with (first
        | (at_builtin; refine wpList_append_own _ rfl _ _ 24 rfl wv2.heap.size 49 i2 (.agg #[.string ByteArray.empty, .int .i64 0, .int .i64 0, .int .i64 0, .string ByteArray.empty, .string ByteArray.empty, .int .i64 0]) 7 80 Try.underlying24 hi2 hx0 hx1 hx2 rfl (by decide) _ 0 [] rfl (recs_empty wv2) x st.length sc (st.flatMap cellsR) rfl (cellsR_len st) (fun j u hj => (((Below.refl wv2.heap.size wv2).alloc (Nat.le_refl _) _).cell (World.block_lt_of_cell? _ _ (hx j u hj))).trans (hx j u hj)) (cellsR_one st) ?c3 ?c4 ?c5 ?_)
        | fail)
      case c3 => have := HKs.out; unfold maxLen; omega
      case c4 => have := HKs.out; omega
      case c5 => simp
      intro v' w3 hown' hgrow _
      have hb3 : Below wv2.heap.size wv2 w3 := ((Below.refl _ _).alloc (Nat.le_refl _) _).grown hgrow (by simp) (fun k hk => by cases hk; exact Nat.le_refl _)
      have hR : Recs w3 wv2.heap.size v' st := by
        show World.ownsRow _ _ _ _ _ _ _
        simpa [Nat.zero_add] using hown'
      obtain ⟨a3, c3, rfl⟩ := row_form hR
      obtain ⟨k0, k1, k2, k3, k4, k5⟩ := K.out w3 a3 c3 hb3 hR
      obtain ⟨jx, jf⟩ := KX.out w3 hb3
      clear K KX hown' hgrow hR cx fx hx
      go_wp2_with fail
      go_meet
      exact ⟨a3, c3, k0, k1, k2, k3, k4, k5⟩
  case rest =>
  obtain ⟨sa', sc', X3, Z3, B3, R3ex, R3rs, R3st⟩ := hcut
  rename World => wv3
  clear X2 Z2 B2 R2ex R2rs
  obtain ⟨g0, g1, g2, g3, g4, g5, g6⟩ := X3.out.all
  obtain ⟨r0, r1, r2, r3, r4, r5, r6⟩ := Z3.out.all
  simp only at g0 g1 g2 g3 g4 g5 g6
  simp only [zeroC, nilC, List.length_nil] at r0 r1 r2 r3 r4 r5 r6
  have p0 := Z3.out.fz 0
  have p1 := Z3.out.fz 1
  have p2 := Z3.out.fz 2
  have p3 := Z3.out.fz 3
  have p4 := Z3.out.fz 4
  have p5 := Z3.out.fz 5
  have p6 := Z3.out.fz 6
  have hr0 : w.heap.size ≤ r := by have := Hr.out; omega
  have Q := layC_box Z3.out ⟨fi, la, ex, rs, ti, zo, st⟩ ⟨ea', ec', ra', rc', sa', sc'⟩
  have V0 := layC_below B3.out hr0 ⟨fi, la, ex, rs, ti, zo, st⟩ ⟨ea', ec', ra', rc', sa', sc'⟩
  have W0 : Rows3 (layC wv3 r ⟨fi, la, ex, rs, ti, zo, st⟩ ⟨ea', ec', ra', rc', sa', sc'⟩) (r + 1) ⟨fi, la, ex, rs, ti, zo, st⟩ ⟨ea', ec', ra', rc', sa', sc'⟩ := (⟨R3ex.out, R3rs.out, R3st.out⟩ : Rows3 wv3 (r + 1) ⟨fi, la, ex, rs, ti, zo, st⟩ ⟨ea', ec', ra', rc', sa', sc'⟩).keep fun g h1 _ => layC_other _ _ _ _ _ (by omega)
  obtain ⟨wz, hwz⟩ : ∃ wz, layC wv3 r ⟨fi, la, ex, rs, ti, zo, st⟩ ⟨ea', ec', ra', rc', sa', sc'⟩ = wz := ⟨_, rfl⟩
  rw [hwz] at Q V0 W0
  have V : Hid (Below w.heap.size w wz) := V0
  have W : Hid (Rows3 wz w.heap.size ⟨fi, la, ex, rs, ti, zo, st⟩ ⟨ea', ec', ra', rc', sa', sc'⟩) := W0.base (by omega)
  obtain ⟨a0, a1, a2, a3, a4, a5, a6⟩ := Q.all
  simp only at a0 a1 a2 a3 a4 a5 a6
  simp only [layC] at hwz
  clear X3 Z3 B3 Q V0 W0 R3ex R3rs R3st HL
  go_upto_region 4 with fail
  go_cut [] from 18 to 18 (fun wt => wz = wt)
  case first =>
    go_wp2_with fail
    go_meet
    rfl
  case rest =>
  obtain rfl := hcut
  repeat go_step
  refine bodyPost_ret (v := .agg #[.int .i64 fi, .int .i64 la, .slice ea' ex.length ec', .slice ra' rs.length rc', .int .i64 ti, .string zo, .slice sa' st.length sc']) (by simp [results, Try.results8, go_sem, a0, a1, a2, a3, a4, a5, a6]) rfl ⟨⟨⟨ea', ec', ra', rc', sa', sc'⟩, rfl, W.out⟩, V.out⟩

end Go.Proofs.Ytedbihckdbpebaa
