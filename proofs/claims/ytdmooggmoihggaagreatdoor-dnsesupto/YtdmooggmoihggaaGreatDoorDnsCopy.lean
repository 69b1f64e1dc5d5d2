/-
  Contract of the laws' CopyDns.
-/
import Derived.Test.YtdmooggmoihggaaGreatDoorDnsRefPut
import Derived.Test.YtdmooggmoihggaaGreatDoorDnsGot
namespace Go.Proofs.YtdmooggmoihggaaGreatDoor
set_option maxRecDepth 100000
open Go.ChangeShapes Go.WideShapes Go.ChangeAt Go.RowKit Go.Pin Go.PlainAid

/-! ### copied -/
theorem ques_empty (w : World) : Ques (w.alloc (.cells #[] 59)) w.heap.size (.slice (some ⟨w.heap.size, 0, none⟩) 0 0) [] :=
  World.ownsRow_lit w #[] 0 (Nat.le_refl _) (by unfold maxLen; omega) rfl
theorem cellsQ_len (rs : List Qn) : (rs.flatMap cellsQ).length = rs.length * 2 := by
  induction rs with
  | nil => rfl
  | cons r rs ih => simp [List.flatMap_cons, ih, cellsQ]; omega
theorem cellsQ_one (rs : List Qn) : ∀ u ∈ rs.flatMap cellsQ, u.oneCell' = true := by
  intro u hu
  simp only [List.mem_flatMap, cellsQ] at hu
  obtain ⟨r, _, hu⟩ := hu
  simp at hu
  rcases hu with rfl | rfl <;> rfl
theorem qcells_of_from {w : World} {x : Addr} {rs : List Qn} (h : ∀ j r, rs[j]? = some r → QnFrom w (x.add (j * 2)) r) : ∀ j u, (rs.flatMap cellsQ)[j]? = some u → w.cell? (x.add j) = some u := by
  intro j u hj
  have hjl := (List.getElem?_eq_some_iff.1 hj).1
  rw [cellsQ_len] at hjl
  obtain ⟨q, k, rfl, hk⟩ : ∃ q k, j = q * 2 + k ∧ k < 2 := ⟨j / 2, j % 2, by omega, by omega⟩
  obtain ⟨r, hr⟩ : ∃ r, rs[q]? = some r := ⟨_, List.getElem?_eq_getElem (by omega)⟩
  have hf := flatQ_at rs q r k hr hk
  rw [hj] at hf
  obtain ⟨h0, h1⟩ := h q r hr
  rcases (by omega : k = 0 ∨ k = 1) with rfl | rfl
  · rw [Nat.add_zero, h0]; exact hf.symm
  · rw [add_more _ _ _ (by omega), h1]; exact hf.symm
/-- A list that is nil, or leads to its cells. -/
def Led (w : World) (a : Option Addr) (n : Nat) (cs : List Value) : Prop := (a = none ∧ n = 0) ∨ ∃ x, a = some x ∧ ∀ j u, cs[j]? = some u → w.cell? (x.add j) = some u
theorem Led.below {w w' : World} {a : Option Addr} {n : Nat} {cs : List Value} (h : Led w a n cs) (hb : Below w.heap.size w w') : Led w' a n cs := by
  rcases h with h | ⟨x, h1, h2⟩
  · exact .inl h
  · exact .inr ⟨x, h1, fun j u hj => (hb.cell (World.block_lt_of_cell? w _ (h2 j u hj))).trans (h2 j u hj)⟩
theorem led_recs {w : World} {a : Option Addr} {rs : List Rec} (h : RecsLie w a rs) : Led w a rs.length (rs.flatMap cellsR) := by
  rcases h with rfl | ⟨x, rfl, h⟩
  · cases a with
    | none => exact .inl ⟨rfl, rfl⟩
    | some x => exact .inr ⟨x, rfl, fun j u hj => by simp at hj⟩
  · exact .inr ⟨x, rfl, rcells_of_from h⟩
theorem led_ques {w : World} {a : Option Addr} {rs : List Qn} (h : QuesLie w a rs) : Led w a rs.length (rs.flatMap cellsQ) := by
  rcases h with rfl | ⟨x, rfl, h⟩
  · cases a with
    | none => exact .inl ⟨rfl, rfl⟩
    | some x => exact .inr ⟨x, rfl, fun j u hj => by simp at hj⟩
  · exact .inr ⟨x, rfl, qcells_of_from h⟩
set_option maxRecDepth 100000 in
set_option maxHeartbeats 8000000 in
theorem copyDns_c (m : Msg) (p : Pl) (w : World) (hl : MsgLies w m p) (hk : m.qs.length + m.an.length + m.sv.length + m.ad.length ≤ 1048576) :
    Calls Tryz.prog 4 #[mv m p] w fun e w' => (∃ p', e = .returned (mv m p') ∧ MsgLies w' m p') ∧ Below w.heap.size w w' := by
  have HL : Hid (∀ w', Below w.heap.size w w' → Led w' p.qa m.qs.length (m.qs.flatMap cellsQ) ∧ Led w' p.aa m.an.length (m.an.flatMap cellsR) ∧ Led w' p.sa m.sv.length (m.sv.flatMap cellsR) ∧ Led w' p.da m.ad.length (m.ad.flatMap cellsR)) := fun w' hb => ⟨(led_ques hl.q).below hb, (led_recs hl.a).below hb, (led_recs hl.s).below hb, (led_recs hl.d).below hb⟩
  obtain ⟨w0, hw0⟩ : ∃ w0, (w.alloc (.cells (cellsM m p) 25)).alloc (.cells (cellsM zeroM nilP) 25) = w0 := ⟨_, rfl⟩
  have X0 : Hid (BoxM w0 w.heap.size m p) := by
    show BoxM _ _ _ _
    rw [← hw0]; exact (BoxM.new w m p).below ((Below.refl _ _).alloc (Nat.le_refl _) _)
  have Z0 : Hid (BoxM w0 (w.heap.size + 1) zeroM nilP) := by
    show BoxM _ _ _ _
    rw [← hw0]
    have := BoxM.new (w.alloc (.cells (cellsM m p) 25)) zeroM nilP
    simpa using this
  have B0 : Hid (Below w.heap.size w w0) := by
    show Below _ _ _
    rw [← hw0]; exact ((Below.refl _ _).alloc (Nat.le_refl _) _).alloc (by simp) _
  obtain ⟨b, hb⟩ : ∃ b, w.heap.size = b := ⟨_, rfl⟩
  have Hb : Hid (w.heap.size = b) := hb
  obtain ⟨r, hr⟩ : ∃ r, w.heap.size + 1 = r := ⟨_, rfl⟩
  have Hr : Hid (w.heap.size + 1 = r) := hr
  have hbr : ¬ b = r := by omega
  have hrb : ¬ r = b := by omega
  have hb1 : b < r + 1 := by omega
  rw [hb] at X0
  rw [hr] at Z0
  obtain ⟨i0, hi, hz0, hz1, hz2⟩ := info_parts Tryz.infoQn
  obtain ⟨i1, hi1, hy0, hy1, hy2⟩ := info_parts Tryz.infoRR
  have hqn : m.qs.length ≤ 1048576 := by omega
  have hann : m.an.length ≤ 1048576 := by omega
  have hsvn : m.sv.length ≤ 1048576 := by omega
  have hadn : m.ad.length ≤ 1048576 := by omega
  obtain ⟨id, rsp, op, au, tr, re, co, qs, an, sv, ad, sz⟩ := m
  obtain ⟨qa, qc, aa, ac, sa, sc, da, dc⟩ := p
  simp only at hqn hann hsvn hadn HL
  clear hl hk hb hr
  simp only [cellsM, zeroM, nilP, List.length_nil] at hw0
  simp only [mv, cellsM]
  have Hw0 : Hid (_ = w0) := hw0
  clear hw0
  go_enter Tryz.func4, Tryz.ntmps4
  go_upto_region 1 with fail
  rw [Hw0.out, Hr.out, Hb.out]
  clear Hw0
  go_cut [] from 3 to 7 (fun wx => ∃ (qa' : Option Addr) (qc' : Nat), Hid (BoxM wx b ⟨id, rsp, op, au, tr, re, co, qs, an, sv, ad, sz⟩ ⟨qa', qc', aa, ac, sa, sc, da, dc⟩) ∧ Hid (BoxM wx r zeroM nilP) ∧ Hid (Below w.heap.size w wx) ∧ Hid (Ques wx (r + 1) (.slice qa' qs.length qc') qs))
  case first =>
    have cx := X0.out.cell 7
    simp only [cellsM, List.getElem?_toArray, List.getElem?_cons_zero, List.getElem?_cons_succ] at cx
    have fx := X0.out.fz 7
    have ltb := X0.out.lt
    have ltr := Z0.out.lt
    have hle := B0.out.size
    have K : Hid (∀ (w3 : World) (a3 : Option Addr) (c3 : Nat), Below w0.heap.size w0 w3 → Ques w3 w0.heap.size (.slice a3 qs.length c3) qs → BoxM (w3.setCell ⟨b, 7, none⟩ (.slice a3 qs.length c3)) b ⟨id, rsp, op, au, tr, re, co, qs, an, sv, ad, sz⟩ ⟨a3, c3, aa, ac, sa, sc, da, dc⟩ ∧ BoxM (w3.setCell ⟨b, 7, none⟩ (.slice a3 qs.length c3)) r zeroM nilP ∧ Below w.heap.size w (w3.setCell ⟨b, 7, none⟩ (.slice a3 qs.length c3)) ∧ Ques (w3.setCell ⟨b, 7, none⟩ (.slice a3 qs.length c3)) (r + 1) (.slice a3 qs.length c3) qs) := fun w3 a3 c3 hb hR =>
      ⟨(X0.out.below hb).set 7 _ rfl, (Z0.out.below hb).far hrb, (B0.out.trans (hb.mono hle)).setCell (show w.heap.size ≤ b from Nat.le_of_eq Hb.out) _, row_set (row_base hR ltr) hb1⟩
    have KX : Hid (∀ w3, Below w0.heap.size w0 w3 → w3.cell? ⟨b, 7, none⟩ = some (.slice qa qs.length qc) ∧ w3.frozen? ⟨b, 7, none⟩ = false) := fun w3 hb => ⟨(X0.out.below hb).cell 7, (X0.out.below hb).fz 7⟩
    have LD := (HL.out _ B0.out).1
    clear X0 Z0 B0 HL 
    rcases LD with ⟨rfl, hn⟩ | ⟨x, rfl, hx⟩
    · obtain rfl := List.eq_nil_of_length_eq_zero hn
      simp only [List.length_nil] at cx
      have hA : Below w0.heap.size w0 (w0.alloc (.cells #[] 59)) := (Below.refl _ _).alloc (Nat.le_refl _) _
      have hE := ques_empty w0
      obtain ⟨wA, hwA⟩ : ∃ wA, w0.alloc (.cells #[] 59) = wA := ⟨_, rfl⟩
      rw [hwA] at hE hA
      obtain ⟨k0, k1, k2, k3⟩ := K.out _ (some ⟨w0.heap.size, 0, none⟩) 0 hA hE
      obtain ⟨jx, jf⟩ := KX.out _ hA
      simp only [List.length_nil] at jx
      clear K KX
      go_wp2_with (first
        | (at_builtin; refine wpList_append_none rfl _ _ 22 rfl w0.heap.size 59 i0 2 Tryz.underlying22 hi _ 0 [] _ rfl hE rfl ?_)
        | fail)
      go_meet
      exact ⟨some ⟨w0.heap.size, 0, none⟩, 0, k0, k1, k2, k3⟩
    · go_wp2_with (first
        | (at_builtin; refine wpList_append_own _ rfl _ _ 22 rfl w0.heap.size 59 i0 (.agg #[.string ByteArray.empty, .int .i64 0]) 2 24 Tryz.underlying22 hi hz0 hz1 hz2 rfl (by decide) _ 0 [] rfl (ques_empty w0) x qs.length qc (qs.flatMap cellsQ) rfl (cellsQ_len qs) (fun j u hj => (((Below.refl w0.heap.size w0).alloc (Nat.le_refl _) _).cell (World.block_lt_of_cell? _ _ (hx j u hj))).trans (hx j u hj)) (cellsQ_one qs) ?c3 ?c4 ?c5 ?_)
        | fail)
      case c3 => unfold maxLen; omega
      case c4 => omega
      case c5 => simp
      intro v' w3 hown' hgrow _
      have hb3 : Below w0.heap.size w0 w3 := ((Below.refl _ _).alloc (Nat.le_refl _) _).grown hgrow (by simp) (fun k hk => by cases hk; exact Nat.le_refl _)
      have hR : Ques w3 w0.heap.size v' qs := by
        show World.ownsRow _ _ _ _ _ _ _
        simpa [Nat.zero_add] using hown'
      obtain ⟨a3, c3, rfl⟩ := row_form hR
      obtain ⟨k0, k1, k2, k3⟩ := K.out w3 a3 c3 hb3 hR
      obtain ⟨jx, jf⟩ := KX.out w3 hb3
      clear K KX hown' hgrow hR cx fx hx
      go_wp2_with fail
      go_meet
      exact ⟨a3, c3, k0, k1, k2, k3⟩
  case rest =>
  obtain ⟨qa', qc', X1, Z1, B1, Rqs1⟩ := hcut
  rename World => wv1
  clear X0 Z0 B0 
  go_upto_region 2 with fail
  go_cut [] from 8 to 12 (fun wx => ∃ (aa' : Option Addr) (ac' : Nat), Hid (BoxM wx b ⟨id, rsp, op, au, tr, re, co, qs, an, sv, ad, sz⟩ ⟨qa', qc', aa', ac', sa, sc, da, dc⟩) ∧ Hid (BoxM wx r zeroM nilP) ∧ Hid (Below w.heap.size w wx) ∧ Hid (Ques wx (r + 1) (.slice qa' qs.length qc') qs) ∧ Hid (Recs wx (r + 1) (.slice aa' an.length ac') an))
  case first =>
    have cx := X1.out.cell 8
    simp only [cellsM, List.getElem?_toArray, List.getElem?_cons_zero, List.getElem?_cons_succ] at cx
    have fx := X1.out.fz 8
    have ltb := X1.out.lt
    have ltr := Z1.out.lt
    have hle := B1.out.size
    have K : Hid (∀ (w3 : World) (a3 : Option Addr) (c3 : Nat), Below wv1.heap.size wv1 w3 → Recs w3 wv1.heap.size (.slice a3 an.length c3) an → BoxM (w3.setCell ⟨b, 8, none⟩ (.slice a3 an.length c3)) b ⟨id, rsp, op, au, tr, re, co, qs, an, sv, ad, sz⟩ ⟨qa', qc', a3, c3, sa, sc, da, dc⟩ ∧ BoxM (w3.setCell ⟨b, 8, none⟩ (.slice a3 an.length c3)) r zeroM nilP ∧ Below w.heap.size w (w3.setCell ⟨b, 8, none⟩ (.slice a3 an.length c3)) ∧ Ques (w3.setCell ⟨b, 8, none⟩ (.slice a3 an.length c3)) (r + 1) (.slice qa' qs.length qc') qs ∧ Recs (w3.setCell ⟨b, 8, none⟩ (.slice a3 an.length c3)) (r + 1) (.slice a3 an.length c3) an) := fun w3 a3 c3 hb hR =>
      ⟨(X1.out.below hb).set 8 _ rfl, (Z1.out.below hb).far hrb, (B1.out.trans (hb.mono hle)).setCell (show w.heap.size ≤ b from Nat.le_of_eq Hb.out) _, row_set (row_below Rqs1.out hb) hb1, row_set (row_base hR ltr) hb1⟩
    have KX : Hid (∀ w3, Below wv1.heap.size wv1 w3 → w3.cell? ⟨b, 8, none⟩ = some (.slice aa an.length ac) ∧ w3.frozen? ⟨b, 8, none⟩ = false) := fun w3 hb => ⟨(X1.out.below hb).cell 8, (X1.out.below hb).fz 8⟩
    have LD := (HL.out _ B1.out).2.1
    clear X1 Z1 B1 HL Rqs1
    rcases LD with ⟨rfl, hn⟩ | ⟨x, rfl, hx⟩
    · obtain rfl := List.eq_nil_of_length_eq_zero hn
      simp only [List.length_nil] at cx
      have hA : Below wv1.heap.size wv1 (wv1.alloc (.cells #[] 82)) := (Below.refl _ _).alloc (Nat.le_refl _) _
      have hE := recs_empty wv1
      obtain ⟨wA, hwA⟩ : ∃ wA, wv1.alloc (.cells #[] 82) = wA := ⟨_, rfl⟩
      rw [hwA] at hE hA
      obtain ⟨k0, k1, k2, k3, k4⟩ := K.out _ (some ⟨wv1.heap.size, 0, none⟩) 0 hA hE
      obtain ⟨jx, jf⟩ := KX.out _ hA
      simp only [List.length_nil] at jx
      clear K KX
      go_wp2_with (first
        | (at_builtin; refine wpList_append_none rfl _ _ 23 rfl wv1.heap.size 82 i1 7 Tryz.underlying23 hi1 _ 0 [] _ rfl hE rfl ?_)
        | fail)
      go_meet
      exact ⟨some ⟨wv1.heap.size, 0, none⟩, 0, k0, k1, k2, k3, k4⟩
    · go_wp2_with (first
        | (at_builtin; refine wpList_append_own _ rfl _ _ 23 rfl wv1.heap.size 82 i1 (.agg #[.string ByteArray.empty, .int .i64 0, .int .i64 0, .int .i64 0, .string ByteArray.empty, .string ByteArray.empty, .int .i64 0]) 7 80 Tryz.underlying23 hi1 hy0 hy1 hy2 rfl (by decide) _ 0 [] rfl (recs_empty wv1) x an.length ac (an.flatMap cellsR) rfl (cellsR_len an) (fun j u hj => (((Below.refl wv1.heap.size wv1).alloc (Nat.le_refl _) _).cell (World.block_lt_of_cell? _ _ (hx j u hj))).trans (hx j u hj)) (cellsR_one an) ?c3 ?c4 ?c5 ?_)
        | fail)
      case c3 => unfold maxLen; omega
      case c4 => omega
      case c5 => simp
      intro v' w3 hown' hgrow _
      have hb3 : Below wv1.heap.size wv1 w3 := ((Below.refl _ _).alloc (Nat.le_refl _) _).grown hgrow (by simp) (fun k hk => by cases hk; exact Nat.le_refl _)
      have hR : Recs w3 wv1.heap.size v' an := by
        show World.ownsRow _ _ _ _ _ _ _
        simpa [Nat.zero_add] using hown'
      obtain ⟨a3, c3, rfl⟩ := row_form hR
      obtain ⟨k0, k1, k2, k3, k4⟩ := K.out w3 a3 c3 hb3 hR
      obtain ⟨jx, jf⟩ := KX.out w3 hb3
      clear K KX hown' hgrow hR cx fx hx
      go_wp2_with fail
      go_meet
      exact ⟨a3, c3, k0, k1, k2, k3, k4⟩
  case rest =>
  obtain ⟨aa', ac', X2, Z2, B2, Rqs2, Ran2⟩ := hcut
  rename World => wv2
  clear X1 Z1 B1 Rqs1
  go_upto_region 3 with fail
  go_cut [] from 13 to 17 (fun wx => ∃ (sa' : Option Addr) (sc' : Nat), Hid (BoxM wx b ⟨id, rsp, op, au, tr, re, co, qs, an, sv, ad, sz⟩ ⟨qa', qc', aa', ac', sa', sc', da, dc⟩) ∧ Hid (BoxM wx r zeroM nilP) ∧ Hid (Below w.heap.size w wx) ∧ Hid (Ques wx (r + 1) (.slice qa' qs.length qc') qs) ∧ Hid (Recs wx (r + 1) (.slice aa' an.length ac') an) ∧ Hid (Recs wx (r + 1) (.slice sa' sv.length sc') sv))
  case first =>
    have cx := X2.out.cell 9
    simp only [cellsM, List.getElem?_toArray, List.getElem?_cons_zero, List.getElem?_cons_succ] at cx
    have fx := X2.out.fz 9
    have ltb := X2.out.lt
    have ltr := Z2.out.lt
    have hle := B2.out.size
    have K : Hid (∀ (w3 : World) (a3 : Option Addr) (c3 : Nat), Below wv2.heap.size wv2 w3 → Recs w3 wv2.heap.size (.slice a3 sv.length c3) sv → BoxM (w3.setCell ⟨b, 9, none⟩ (.slice a3 sv.length c3)) b ⟨id, rsp, op, au, tr, re, co, qs, an, sv, ad, sz⟩ ⟨qa', qc', aa', ac', a3, c3, da, dc⟩ ∧ BoxM (w3.setCell ⟨b, 9, none⟩ (.slice a3 sv.length c3)) r zeroM nilP ∧ Below w.heap.size w (w3.setCell ⟨b, 9, none⟩ (.slice a3 sv.length c3)) ∧ Ques (w3.setCell ⟨b, 9, none⟩ (.slice a3 sv.length c3)) (r + 1) (.slice qa' qs.length qc') qs ∧ Recs (w3.setCell ⟨b, 9, none⟩ (.slice a3 sv.length c3)) (r + 1) (.slice aa' an.length ac') an ∧ Recs (w3.setCell ⟨b, 9, none⟩ (.slice a3 sv.length c3)) (r + 1) (.slice a3 sv.length c3) sv) := fun w3 a3 c3 hb hR =>
      ⟨(X2.out.below hb).set 9 _ rfl, (Z2.out.below hb).far hrb, (B2.out.trans (hb.mono hle)).setCell (show w.heap.size ≤ b from Nat.le_of_eq Hb.out) _, row_set (row_below Rqs2.out hb) hb1, row_set (row_below Ran2.out hb) hb1, row_set (row_base hR ltr) hb1⟩
    have KX : Hid (∀ w3, Below wv2.heap.size wv2 w3 → w3.cell? ⟨b, 9, none⟩ = some (.slice sa sv.length sc) ∧ w3.frozen? ⟨b, 9, none⟩ = false) := fun w3 hb => ⟨(X2.out.below hb).cell 9, (X2.out.below hb).fz 9⟩
    have LD := (HL.out _ B2.out).2.2.1
    clear X2 Z2 B2 HL Rqs2 Ran2
    rcases LD with ⟨rfl, hn⟩ | ⟨x, rfl, hx⟩
    · obtain rfl := List.eq_nil_of_length_eq_zero hn
      simp only [List.length_nil] at cx
      have hA : Below wv2.heap.size wv2 (wv2.alloc (.cells #[] 82)) := (Below.refl _ _).alloc (Nat.le_refl _) _
      have hE := recs_empty wv2
      obtain ⟨wA, hwA⟩ : ∃ wA, wv2.alloc (.cells #[] 82) = wA := ⟨_, rfl⟩
      rw [hwA] at hE hA
      obtain ⟨k0, k1, k2, k3, k4, k5⟩ := K.out _ (some ⟨wv2.heap.size, 0, none⟩) 0 hA hE
      obtain ⟨jx, jf⟩ := KX.out _ hA
      simp only [List.length_nil] at jx
      clear K KX
      go_wp2_with (first
        | (at_builtin; refine wpList_append_none rfl _ _ 23 rfl wv2.heap.size 82 i1 7 Tryz.underlying23 hi1 _ 0 [] _ rfl hE rfl ?_)
        | fail)
      go_meet
      exact ⟨some ⟨wv2.heap.size, 0, none⟩, 0, k0, k1, k2, k3, k4, k5⟩
    · go_wp2_with (first
        | (at_builtin; refine wpList_append_own _ rfl _ _ 23 rfl wv2.heap.size 82 i1 (.agg #[.string ByteArray.empty, .int .i64 0, .int .i64 0, .int .i64 0, .string ByteArray.empty, .string ByteArray.empty, .int .i64 0]) 7 80 Tryz.underlying23 hi1 hy0 hy1 hy2 rfl (by decide) _ 0 [] rfl (recs_empty wv2) x sv.length sc (sv.flatMap cellsR) rfl (cellsR_len sv) (fun j u hj => (((Below.refl wv2.heap.size wv2).alloc (Nat.le_refl _) _).cell (World.block_lt_of_cell? _ _ (hx j u hj))).trans (hx j u hj)) (cellsR_one sv) ?c3 ?c4 ?c5 ?_)
        | fail)
      case c3 => unfold maxLen; omega
      case c4 => omega
      case c5 => simp
      intro v' w3 hown' hgrow _
      have hb3 : Below wv2.heap.size wv2 w3 := ((Below.refl _ _).alloc (Nat.le_refl _) _).grown hgrow (by simp) (fun k hk => by cases hk; exact Nat.le_refl _)
      have hR : Recs w3 wv2.heap.size v' sv := by
        show World.ownsRow _ _ _ _ _ _ _
        simpa [Nat.zero_add] using hown'
      obtain ⟨a3, c3, rfl⟩ := row_form hR
      obtain ⟨k0, k1, k2, k3, k4, k5⟩ := K.out w3 a3 c3 hb3 hR
      obtain ⟨jx, jf⟩ := KX.out w3 hb3
      clear K KX hown' hgrow hR cx fx hx
      go_wp2_with fail
      go_meet
      exact ⟨a3, c3, k0, k1, k2, k3, k4, k5⟩
  case rest =>
  obtain ⟨sa', sc', X3, Z3, B3, Rqs3, Ran3, Rsv3⟩ := hcut
  rename World => wv3
  clear X2 Z2 B2 Rqs2 Ran2
  go_upto_region 4 with fail
  go_cut [] from 18 to 22 (fun wx => ∃ (da' : Option Addr) (dc' : Nat), Hid (BoxM wx b ⟨id, rsp, op, au, tr, re, co, qs, an, sv, ad, sz⟩ ⟨qa', qc', aa', ac', sa', sc', da', dc'⟩) ∧ Hid (BoxM wx r zeroM nilP) ∧ Hid (Below w.heap.size w wx) ∧ Hid (Ques wx (r + 1) (.slice qa' qs.length qc') qs) ∧ Hid (Recs wx (r + 1) (.slice aa' an.length ac') an) ∧ Hid (Recs wx (r + 1) (.slice sa' sv.length sc') sv) ∧ Hid (Recs wx (r + 1) (.slice da' ad.length dc') ad))
  case first =>
    have cx := X3.out.cell 10
    simp only [cellsM, List.getElem?_toArray, List.getElem?_cons_zero, List.getElem?_cons_succ] at cx
    have fx := X3.out.fz 10
    have ltb := X3.out.lt
    have ltr := Z3.out.lt
    have hle := B3.out.size
    have K : Hid (∀ (w3 : World) (a3 : Option Addr) (c3 : Nat), Below wv3.heap.size wv3 w3 → Recs w3 wv3.heap.size (.slice a3 ad.length c3) ad → BoxM (w3.setCell ⟨b, 10, none⟩ (.slice a3 ad.length c3)) b ⟨id, rsp, op, au, tr, re, co, qs, an, sv, ad, sz⟩ ⟨qa', qc', aa', ac', sa', sc', a3, c3⟩ ∧ BoxM (w3.setCell ⟨b, 10, none⟩ (.slice a3 ad.length c3)) r zeroM nilP ∧ Below w.heap.size w (w3.setCell ⟨b, 10, none⟩ (.slice a3 ad.length c3)) ∧ Ques (w3.setCell ⟨b, 10, none⟩ (.slice a3 ad.length c3)) (r + 1) (.slice qa' qs.length qc') qs ∧ Recs (w3.setCell ⟨b, 10, none⟩ (.slice a3 ad.length c3)) (r + 1) (.slice aa' an.length ac') an ∧ Recs (w3.setCell ⟨b, 10, none⟩ (.slice a3 ad.length c3)) (r + 1) (.slice sa' sv.length sc') sv ∧ Recs (w3.setCell ⟨b, 10, none⟩ (.slice a3 ad.length c3)) (r + 1) (.slice a3 ad.length c3) ad) := fun w3 a3 c3 hb hR =>
      ⟨(X3.out.below hb).set 10 _ rfl, (Z3.out.below hb).far hrb, (B3.out.trans (hb.mono hle)).setCell (show w.heap.size ≤ b from Nat.le_of_eq Hb.out) _, row_set (row_below Rqs3.out hb) hb1, row_set (row_below Ran3.out hb) hb1, row_set (row_below Rsv3.out hb) hb1, row_set (row_base hR ltr) hb1⟩
    have KX : Hid (∀ w3, Below wv3.heap.size wv3 w3 → w3.cell? ⟨b, 10, none⟩ = some (.slice da ad.length dc) ∧ w3.frozen? ⟨b, 10, none⟩ = false) := fun w3 hb => ⟨(X3.out.below hb).cell 10, (X3.out.below hb).fz 10⟩
    have LD := (HL.out _ B3.out).2.2.2
    clear X3 Z3 B3 HL Rqs3 Ran3 Rsv3
    rcases LD with ⟨rfl, hn⟩ | ⟨x, rfl, hx⟩
    · obtain rfl := List.eq_nil_of_length_eq_zero hn
      simp only [List.length_nil] at cx
      have hA : Below wv3.heap.size wv3 (wv3.alloc (.cells #[] 82)) := (Below.refl _ _).alloc (Nat.le_refl _) _
      have hE := recs_empty wv3
      obtain ⟨wA, hwA⟩ : ∃ wA, wv3.alloc (.cells #[] 82) = wA := ⟨_, rfl⟩
      rw [hwA] at hE hA
      obtain ⟨k0, k1, k2, k3, k4, k5, k6⟩ := K.out _ (some ⟨wv3.heap.size, 0, none⟩) 0 hA hE
      obtain ⟨jx, jf⟩ := KX.out _ hA
      simp only [List.length_nil] at jx
      clear K KX
      go_wp2_with (first
        | (at_builtin; refine wpList_append_none rfl _ _ 23 rfl wv3.heap.size 82 i1 7 Tryz.underlying23 hi1 _ 0 [] _ rfl hE rfl ?_)
        | fail)
      go_meet
      exact ⟨some ⟨wv3.heap.size, 0, none⟩, 0, k0, k1, k2, k3, k4, k5, k6⟩
    · go_wp2_with (first
        | (at_builtin; refine wpList_append_own _ rfl _ _ 23 rfl wv3.heap.size 82 i1 (.agg #[.string ByteArray.empty, .int .i64 0, .int .i64 0, .int .i64 0, .string ByteArray.empty, .string ByteArray.empty, .int .i64 0]) 7 80 Tryz.underlying23 hi1 hy0 hy1 hy2 rfl (by decide) _ 0 [] rfl (recs_empty wv3) x ad.length dc (ad.flatMap cellsR) rfl (cellsR_len ad) (fun j u hj => (((Below.refl wv3.heap.size wv3).alloc (Nat.le_refl _) _).cell (World.block_lt_of_cell? _ _ (hx j u hj))).trans (hx j u hj)) (cellsR_one ad) ?c3 ?c4 ?c5 ?_)
        | fail)
      case c3 => unfold maxLen; omega
      case c4 => omega
      case c5 => simp
      intro v' w3 hown' hgrow _
      have hb3 : Below wv3.heap.size wv3 w3 := ((Below.refl _ _).alloc (Nat.le_refl _) _).grown hgrow (by simp) (fun k hk => by cases hk; exact Nat.le_refl _)
      have hR : Recs w3 wv3.heap.size v' ad := by
        show World.ownsRow _ _ _ _ _ _ _
        simpa [Nat.zero_add] using hown'
      obtain ⟨a3, c3, rfl⟩ := row_form hR
      obtain ⟨k0, k1, k2, k3, k4, k5, k6⟩ := K.out w3 a3 c3 hb3 hR
      obtain ⟨jx, jf⟩ := KX.out w3 hb3
      clear K KX hown' hgrow hR cx fx hx
      go_wp2_with fail
      go_meet
      exact ⟨a3, c3, k0, k1, k2, k3, k4, k5, k6⟩
  case rest =>
  obtain ⟨da', dc', X4, Z4, B4, Rqs4, Ran4, Rsv4, Rad4⟩ := hcut
  rename World => wv4
  clear X3 Z3 B3 Rqs3 Ran3 Rsv3
  obtain ⟨g0, g1, g2, g3, g4, g5, g6, g7, g8, g9, g10, g11⟩ := X4.out.all
  obtain ⟨r0, r1, r2, r3, r4, r5, r6, r7, r8, r9, r10, r11⟩ := Z4.out.all
  simp only at g0 g1 g2 g3 g4 g5 g6 g7 g8 g9 g10 g11
  simp only [zeroM, nilP, List.length_nil] at r0 r1 r2 r3 r4 r5 r6 r7 r8 r9 r10 r11
  have p0 := Z4.out.fz 0
  have p1 := Z4.out.fz 1
  have p2 := Z4.out.fz 2
  have p3 := Z4.out.fz 3
  have p4 := Z4.out.fz 4
  have p5 := Z4.out.fz 5
  have p6 := Z4.out.fz 6
  have p7 := Z4.out.fz 7
  have p8 := Z4.out.fz 8
  have p9 := Z4.out.fz 9
  have p10 := Z4.out.fz 10
  have p11 := Z4.out.fz 11
  have hr0 : w.heap.size ≤ r := by have := Hr.out; omega
  have Q := layM_box Z4.out ⟨id, rsp, op, au, tr, re, co, qs, an, sv, ad, sz⟩ ⟨qa', qc', aa', ac', sa', sc', da', dc'⟩
  have V0 := layM_below B4.out hr0 ⟨id, rsp, op, au, tr, re, co, qs, an, sv, ad, sz⟩ ⟨qa', qc', aa', ac', sa', sc', da', dc'⟩
  have W0 : Rows4 (layM wv4 r ⟨id, rsp, op, au, tr, re, co, qs, an, sv, ad, sz⟩ ⟨qa', qc', aa', ac', sa', sc', da', dc'⟩) (r + 1) ⟨id, rsp, op, au, tr, re, co, qs, an, sv, ad, sz⟩ ⟨qa', qc', aa', ac', sa', sc', da', dc'⟩ := (⟨Rqs4.out, Ran4.out, Rsv4.out, Rad4.out⟩ : Rows4 wv4 (r + 1) ⟨id, rsp, op, au, tr, re, co, qs, an, sv, ad, sz⟩ ⟨qa', qc', aa', ac', sa', sc', da', dc'⟩).keep fun g h1 _ => layM_other _ _ _ _ _ (by omega)
  obtain ⟨wz, hwz⟩ : ∃ wz, layM wv4 r ⟨id, rsp, op, au, tr, re, co, qs, an, sv, ad, sz⟩ ⟨qa', qc', aa', ac', sa', sc', da', dc'⟩ = wz := ⟨_, rfl⟩
  rw [hwz] at Q V0 W0
  have V : Hid (Below w.heap.size w wz) := V0
  have W : Hid (MsgLies wz ⟨id, rsp, op, au, tr, re, co, qs, an, sv, ad, sz⟩ ⟨qa', qc', aa', ac', sa', sc', da', dc'⟩) := W0.lies
  obtain ⟨a0, a1, a2, a3, a4, a5, a6, a7, a8, a9, a10, a11⟩ := Q.all
  simp only at a0 a1 a2 a3 a4 a5 a6 a7 a8 a9 a10 a11
  simp only [layM] at hwz
  clear X4 Z4 B4 Q V0 W0 Rqs4 Ran4 Rsv4 Rad4 HL
  go_upto_region 5 with fail
  go_cut [] from 23 to 23 (fun wt => wz = wt)
  case first =>
    go_wp2_with fail
    go_meet
    rfl
  case rest =>
  obtain rfl := hcut
  repeat go_step
  refine bodyPost_ret (v := .agg #[.int .i64 id, .bool rsp, .int .i64 op, .bool au, .bool tr, .bool re, .int .i64 co, .slice qa' qs.length qc', .slice aa' an.length ac', .slice sa' sv.length sc', .slice da' ad.length dc', .int .i64 sz]) (by simp [results, Tryz.results4, go_sem, a0, a1, a2, a3, a4, a5, a6, a7, a8, a9, a10, a11]) rfl ⟨⟨⟨qa', qc', aa', ac', sa', sc', da', dc'⟩, rfl, W.out⟩, V.out⟩
end Go.Proofs.YtdmooggmoihggaaGreatDoor
