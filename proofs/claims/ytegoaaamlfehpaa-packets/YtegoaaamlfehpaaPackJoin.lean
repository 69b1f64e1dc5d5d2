/-
  Contracts of package packet's told and joined.
-/
import Derived.Test.YtegoaaamlfehpaaPackRows
import Derived.Test.YtegoaaamlfehpaaShelf3
namespace Go.Proofs.Ytegoaaamlfehpaa
open Go.ChangeShapes Go.WideShapes Go.ChangeAt Go.RowKit Go.Pin Go.PlainAid

theorem Opts.keep {w w' : World} {base : Nat} {v : Value} {ks : List Opn} (h : Opts w base v ks) (hk : ∀ g, base ≤ g → g < w.heap.size → (∃ cur, w.heap[g]? = some (.cells cur 25 (0, 0))) → v.ownBlock = some g → w'.heap[g]? = w.heap[g]?) : Opts w' base v ks := by
  obtain ⟨h1, h2⟩ := h
  refine ⟨h1, ?_⟩
  rcases h2 with h2 | ⟨g, cap, cur, hv, hg, hh, r⟩
  · exact .inl h2
  · exact .inr ⟨g, cap, cur, hv, hg, (hk g hg (Array.getElem?_eq_some_iff.1 hh).1 ⟨cur, hh⟩ (by rw [hv]; rfl)).trans hh, r⟩
theorem Opts.turn3 {w w' : World} {b base : Nat} {v : Value} {ks : List Opn} (h : Opts w base v ks) (hb : b < base) (hu : Turn b w w') : Opts w' base v ks := h.keep fun g hg hl _ _ => hu.oth g (by omega) hl
/-- What a text tells; is it one. -/
def toldO (t : ByteArray) : List Opn := (getO (bs t) []).getD []
def toldK (t : ByteArray) : Bool := (getO (bs t) []).isSome
theorem told_c (b : Nat) (s : ByteArray) (x : Tk) (t : ByteArray) (w : World) (ht : t.size ≤ 1125899906842624) (h : TkAt w b s x) :
    Calls Try.prog 68 #[.pointer (some ⟨b, 0, none⟩), .string t] w fun e w' => (∃ v, e = .returned v ∧ Opts w' w.heap.size v (toldO t)) ∧ TkAt w' b s (mustT (toldK t) x) ∧ Turn b w w' := by
  have lt := h.lt
  cases hg : getO (bs t) [] with
  | some os =>
    have HG : Hid (∀ w, _) := fun w => oGet_yes t os w ht hg
    have e1 : toldO t = os := by rw [toldO, hg]; rfl
    have e2 : toldK t = true := by rw [toldK, hg]; rfl
    rw [e1, e2]
    have HM : Hid (∀ w, _) := fun w => must_yes b w
    have HX : Hid (mustT true x = x) := by show _ = _; cases x; simp [mustT]
    have H : Hid (_) := h
    clear h hg
    go_enter Try.func68, Try.ntmps68
    go_wp2_with fail
    refine (HG.out _).mono ?_; rintro e w1 ⟨⟨v, rfl, hO⟩, hb⟩
    obtain ⟨a, c, rfl, hl⟩ := hO.lies
    go_wp2_with fail
    refine (HM.out _).mono ?_; rintro e w2 ⟨rfl, rfl⟩
    have HO : Hid (Opts w2 w.heap.size (.slice a os.length c) os) := hO
    clear hO hl
    go_wp2
    go_ret
    exact ⟨⟨_, rfl, HO.out⟩, by rw [HX.out]; exact H.out.below hb lt, Turn.of_below hb lt⟩
  | none =>
    have HG : Hid (∀ w, _) := fun w => oGet_no t w ht hg
    have e1 : toldO t = [] := by rw [toldO, hg]; rfl
    have e2 : toldK t = false := by rw [toldK, hg]; rfl
    rw [e1, e2]
    have HM : Hid (∀ w, TkAt w b s x → _) := fun w h => must_c b s x false w h
    have H : Hid (_) := h
    clear h hg
    go_enter Try.func68, Try.ntmps68
    go_wp2_with fail
    refine (HG.out _).mono ?_; rintro e w1 ⟨rfl, hb⟩
    go_wp2_with fail
    refine (HM.out _ (H.out.below hb lt)).mono ?_; rintro e w2 ⟨rfl, hT, hu⟩
    go_wp2
    go_ret
    exact ⟨⟨_, rfl, World.ownsRow_nil _ _ _ _⟩, hT, (Turn.of_below hb lt).trans hu⟩

/-! ### joined -/
theorem rows_take {L : List Opn} {j : Nat} (h : j < L.length) : rowsJ (L.take (j + 1)) = rowsJ (L.take j) ++ (if (opAt L j).1 ≠ 52 then partsL (byteO (opAt L j).1) (opAt L j).2 else []) := by
  unfold opAt
  rw [List.take_add_one, List.getElem?_eq_getElem h, List.getD_eq_getElem?_getD, List.getElem?_eq_getElem h]
  simp only [rowsJ, Option.toList_some, List.filter_append, Option.getD_some]
  by_cases h52 : (L[j]).1 = 52
  · simp [h52, bodyO]
  · simp [h52, bodyO]
theorem rows_max {L : List Opn} (h : ∀ o ∈ L, o.2.length ≤ 512) : (rowsJ L).length ≤ 518 * L.length := by
  have h1 := body_max (os := L.filter fun o => decide (o.1 ≠ 52)) (fun o ho => h o (List.mem_filter.1 ho).1)
  have h2 : (L.filter fun o => decide (o.1 ≠ 52)).length ≤ L.length := List.length_filter_le _ _
  unfold rowsJ
  have := Nat.mul_le_mul_left 518 h2
  omega
theorem putA_one {o : Opn} (h : okO o = true) : putA [o] = (partsL (byteO o.1) o.2 ++ [255], 0) := by
  have ho := (okO_iff o).1 h
  have hm : mayO [o] = true := by simp [mayO, MayO, h]
  have e : putO [o] = partsL (byteO o.1) o.2 ++ [255] := by simp [putO, bodyO]
  have hl := parts_max (byteO o.1) ho.2.2
  unfold putA
  rw [hm, if_pos rfl, e, if_neg (by rw [List.length_append, List.length_cons, List.length_nil]; omega)]
theorem trim_end (l : List UInt8) (w : World) (hl : l.length ≤ 100000) : Calls Try.prog 77 #[.string (mk (l ++ [255])), .string ⟨#[255]⟩] w fun e w' => e = .returned (.string (mk l)) ∧ w' = w := by
  have := Try.strings_TrimSuffix (mk (l ++ [255])) ⟨#[255]⟩ w (by rw [size_mk, List.length_append, List.length_cons, List.length_nil]; omega)
  have e : (⟨(Lib.trimSuffix (mk (l ++ [255])).data.toList (⟨#[255]⟩ : ByteArray).data.toList).toArray⟩ : ByteArray) = mk l := by
    have h1 : (mk (l ++ [255])).data.toList = l ++ [255] := by simp [mk]
    have h2 : (⟨#[255]⟩ : ByteArray).data.toList = [255] := rfl
    rw [h1, h2]
    have h3 : Lib.hasSuffix (l ++ [255]) [255] = true := by simp [Lib.hasSuffix]
    simp [Lib.trimSuffix, h3, mk]
  rw [e] at this
  exact this
theorem builder_below {T e : TypeId} {B b : Nat} {cs : List Value} {w w' : World} (h : Lib.IsBuilderF T e B b cs w) (hb : Below w.heap.size w w') : Lib.IsBuilderF T e B b cs w' := by
  have key : ∀ p, Lib.BuilderAtF T e B b p cs w → Lib.BuilderAtF T e B b p cs w' := by
    rintro p ⟨hB, v, hk, hown, hne⟩
    refine ⟨hB, v, (hb.block b (Array.getElem?_eq_some_iff.1 hk).1).trans hk, ?_, hne⟩
    obtain ⟨h1, h2⟩ := hown
    refine ⟨h1, ?_⟩
    rcases h2 with h2 | ⟨g, cap, cur, fz, hv, hg, hh, r⟩
    · exact .inl h2
    · exact .inr ⟨g, cap, cur, fz, hv, hg, (hb.block g (Array.getElem?_eq_some_iff.1 hh).1).trans hh, r⟩
  rcases h with h | h
  · exact .inl (key _ h)
  · exact .inr (key _ h)
theorem Opts.others {w w' : World} {base b : Nat} {v : Value} {ks : List Opn} (h : Opts w base v ks) (hb : b < base) (hk : Lib.OthersKept 5 (some b) w w') : Opts w' base v ks :=
  h.keep fun g hg _ ⟨cur, hc⟩ _ => (hk g _ hc (by simp; omega) (by intro c fz e; simp only [Obj.cells.injEq] at e; exact absurd e.2.1 (by decide))).trans hc.symm
theorem op_new (w : World) (c : Int) (d : ByteArray) (t : TypeId) : OpLies (w.alloc (.cells #[.int .i64 c, .string d] t)) (some ⟨w.heap.size, 0, none⟩) [(c, bs d)] := by
  refine .inr ⟨_, rfl, fun j hj => ?_⟩
  simp only [List.length_cons, List.length_nil] at hj
  obtain rfl : j = 0 := by omega
  rw [addr_add, Nat.zero_add]
  exact ⟨new_cell w _ _ _ _ rfl, new_cell w _ _ _ _ (by simp [opAt, mk_bs])⟩
set_option maxRecDepth 100000 in
set_option maxHeartbeats 4000000 in
theorem joined_c (b : Nat) (s : ByteArray) (x : Tk) (y : Addr) (cap : Nat) (rs : List RowV) (w : World) (h3 : rs.length ≤ 3) (hs : ∀ r ∈ rs, r.2.2.length ≤ 32) (hok : ∀ o ∈ catO rs, okO o = true) (hR : RowsAt w y rs) (h : TkAt w b s x) :
    Calls Try.prog 69 #[.pointer (some ⟨b, 0, none⟩), .slice (some y) rs.length cap] w fun e w' => (∃ v, e = .returned v ∧ Opts w' w.heap.size v ((joinP (catO rs)).getD [])) ∧ TkAt w' b s (mustT (joinP (catO rs)).isSome x) ∧ Turn b w w' := by
  have HC : Hid (∀ w', Below w.heap.size w w' → _) := fun w' hb => concat_c y cap rs w' h3 hs (hR.below hb)
  have hlen := catO_take_len hs h3 rs.length
  rw [List.take_length] at hlen
  have HT : Hid (∀ (t : ByteArray) (w : World), t.size ≤ 1125899906842624 → TkAt w b s x → _) := fun t w ht h => told_c b s x t w ht h
  have HM : Hid (∀ w, _) := fun w => must_yes b w
  have lt := h.lt
  have HK : Hid (TkAt w b s x) := h
  generalize catO rs = L at *
  have hmax := rows_max (L := L) (fun o ho => ((okO_iff o).1 (hok o ho)).2.2)
  have HB : Hid (∀ j, (rowsJ (L.take j)).length ≤ 518 * 96) := fun j => by
    have := rows_max (L := L.take j) (fun o ho => ((okO_iff o).1 (hok o (List.mem_of_mem_take ho))).2.2)
    rw [List.length_take] at this
    omega
  obtain ⟨J, hJ⟩ : ∃ J, J = (joinP L).getD [] := ⟨_, rfl⟩
  obtain ⟨K, hK⟩ : ∃ K, K = (joinP L).isSome := ⟨_, rfl⟩
  rw [← hJ, ← hK]
  have HJ : Hid (J = (joinP L).getD [] ∧ K = (joinP L).isSome) := ⟨hJ, hK⟩
  clear hJ hK
  have hE : L.take L.length = L := List.take_length
  have HE : Hid (L.take L.length = L) := hE
  have HO : Hid (∀ j, j < L.length → okO (opAt L j) = true ∧ rowsJ (L.take (j + 1)) = rowsJ (L.take j) ++ (if (opAt L j).1 ≠ 52 then partsL (byteO (opAt L j).1) (opAt L j).2 else [])) := fun j hj => ⟨hok _ (opAt_mem hj), rows_take hj⟩
  have I0 : Hid (Lib.IsBuilderF 121 5 w.heap.size w.heap.size (Lib.byteCells (rowsJ (L.take 0))) (w.alloc (.cells #[.pointer none, .slice none 0 0] 121))) := Lib.IsBuilderF.of (Lib.fresh_isBuilder 121 5 w)
  have B0 : Hid (Below w.heap.size w (w.alloc (.cells #[.pointer none, .slice none 0 0] 121))) := (Below.refl _ _).alloc (Nat.le_refl _) _
  have S0 : Hid ((w.alloc (.cells #[.pointer none, .slice none 0 0] 121)).heap.size = w.heap.size + 1) := by show _ = _; simp
  clear h hR hok hs hmax hE
  go_enter Try.func69, Try.ntmps69
  go_wp2_with fail
  generalize w.alloc (.cells #[.pointer none, .slice none 0 0] 121) = w1 at *
  refine (HC.out _ B0.out).mono ?_; rintro e w2 ⟨⟨v, rfl, hO⟩, hb⟩
  obtain ⟨a, c, rfl, hl⟩ := hO.lies
  have O2 : Hid (Opts w2 (w.heap.size + 1) (.slice a L.length c) L) := by show Opts _ _ _ _; rw [← S0.out]; exact hO
  have I2 : Hid (Lib.IsBuilderF 121 5 w.heap.size w.heap.size (Lib.byteCells (rowsJ (L.take 0))) w2) := builder_below I0.out hb
  have B2 : Hid (Below w.heap.size w w2) := bel_trans B0.out hb
  have s2 : w.heap.size + 1 ≤ w2.heap.size := by have := hb.size; have := S0.out; omega
  clear hO hl hb I0 B0 HC S0
  go_wp2_with fail
  go_loopw [13] (fun i wr => ∃ j : Nat, j ≤ L.length ∧ i = .int .i64 j ∧ Hid (Lib.IsBuilderF 121 5 w.heap.size w.heap.size (Lib.byteCells (rowsJ (L.take j))) wr) ∧ Hid (Opts wr (w.heap.size + 1) (.slice a L.length c) L) ∧ Hid (Below w.heap.size w wr) ∧ Hid (w.heap.size + 1 ≤ wr.heap.size)) (fun i _ => L.length - (intOf i).toNat)
  case atStart => exact ⟨0, Nat.zero_le _, rfl, I2, O2, B2, s2⟩
  case round =>
    obtain ⟨j, hj, rfl, hI, hO, hB, hS⟩ := hrel
    by_cases hlt : j < L.length
    · obtain ⟨hok, hrow⟩ := HO.out j hlt
      obtain ⟨x0, rfl, hf⟩ : ∃ x0, a = some x0 ∧ OpFrom wr x0 L := by
        obtain ⟨a', c', e, hl⟩ := hO.out.lies
        simp only [Value.slice.injEq, true_and] at e
        rcases hl with h | ⟨x0, h1, h2⟩
        · rw [h] at hlt; simp at hlt
        · exact ⟨x0, e.1.trans h1, h2⟩
      obtain ⟨g0, g1⟩ := hf j hlt
      have hbj := HB.out j
      have hpm := parts_max (byteO (opAt L j).1) ((okO_iff _).1 hok).2.2
      generalize opAt L j = o at *
      obtain ⟨oc, od⟩ := o
      simp only at g0 g1 hrow hpm
      obtain ⟨wa, hA⟩ : ∃ wa, wr.alloc (.cells #[.int .i64 oc, .string (mk od)] 25) = wa := ⟨_, rfl⟩
      have f0 : wa.cell? ⟨wr.heap.size, 0, none⟩ = some (.int .i64 oc) := by rw [← hA]; exact new_cell _ _ _ _ _ rfl
      have f1 : wa.cell? ⟨wr.heap.size, 1, none⟩ = some (.string (mk od)) := by rw [← hA]; exact new_cell _ _ _ _ _ rfl
      have Ba : Below wr.heap.size wr wa := by rw [← hA]; exact (Below.refl _ _).alloc (Nat.le_refl _) _
      have Ia : Hid (Lib.IsBuilderF 121 5 w.heap.size w.heap.size (Lib.byteCells (rowsJ (L.take j))) wa) := builder_below hI.out Ba
      have Oa : Hid (Opts wa (w.heap.size + 1) (.slice (some x0) L.length c) L) := hO.out.below Ba
      have BA : Hid (Below w.heap.size w wa) := bel_trans hB.out Ba
      have Sa : Hid (w.heap.size + 1 ≤ wa.heap.size) := Nat.le_trans hS.out Ba.size
      have HP : Hid (Calls Try.prog 6 #[.slice (some ⟨wa.heap.size, 0, none⟩) 1 1] (wa.alloc (.cells #[.int .i64 oc, .string (mk od)] 25)) fun e w' => e = .returned (.tuple #[.string (mk (partsL (byteO oc) od ++ [255])), .int .i64 0]) ∧ Below wa.heap.size wa w') := by
        have := oPut_c (some ⟨wa.heap.size, 0, none⟩) 1 [(oc, od)] _ (by have := op_new wa oc (mk od) 25; rw [bs_mk] at this; exact this)
        rw [putA_one hok] at this
        exact this.mono fun e w' ⟨h1, h2⟩ => ⟨h1, bel_trans ((Below.refl _ _).alloc (Nat.le_refl _) _) h2⟩
      clear hO hB hI hS hf Ba hok
      by_cases h52 : oc = 52
      · subst h52
        have hrow' : rowsJ (L.take (j + 1)) = rowsJ (L.take j) := by rw [hrow]; simp
        rw [← hrow'] at Ia
        go_wp2
        exact ⟨⟨j + 1, by omega, by go_num, Ia, Oa, BA, Sa⟩, by simp [intOf]; omega⟩
      · have hne : (oc != 52) = true := by simpa using h52
        rw [if_pos h52] at hrow
        have HTR : Hid (∀ w, _) := fun w => trim_end (partsL (byteO oc) od) w (by omega)
        have hpsz : (mk (partsL (byteO oc) od)).size ≤ 518 := by rw [size_mk]; exact hpm
        have hcat : Lib.byteCells (rowsJ (L.take j)) ++ Lib.strCells (mk (partsL (byteO oc) od)) = Lib.byteCells (rowsJ (L.take (j + 1))) := by rw [hrow]; simp [Lib.byteCells, Lib.strCells, mk]
        have HWS : Hid (∀ w', Lib.IsBuilderF 121 5 w.heap.size w.heap.size (Lib.byteCells (rowsJ (L.take j))) w' → w.heap.size ≤ w'.heap.size → _) := fun w' h hw => Try.Builder_WriteString_k w.heap.size w.heap.size (Lib.byteCells (rowsJ (L.take j))) (mk (partsL (byteO oc) od)) w' h (by rw [Lib.byteCells_length]; omega) hw
        rw [hcat] at HWS
        generalize mk (partsL (byteO oc) od) = pt at *
        generalize mk (partsL (byteO oc) od ++ [255]) = pe at *
        clear hcat hpsz hrow hbj hpm
        go_wp2_with fail
        refine HP.out.mono ?_; rintro e w3 ⟨rfl, hb⟩
        have I3 : Hid (Lib.IsBuilderF 121 5 w.heap.size w.heap.size (Lib.byteCells (rowsJ (L.take j))) w3) := builder_below Ia.out hb
        have O3 : Hid (Opts w3 (w.heap.size + 1) (.slice (some x0) L.length c) L) := Oa.out.below hb
        have B3 : Hid (Below w.heap.size w w3) := bel_trans BA.out hb
        have S3 : Hid (w.heap.size + 1 ≤ w3.heap.size) := Nat.le_trans Sa.out hb.size
        clear hb HP Ia Oa BA Sa f0 f1 g0 g1 hA
        go_wp2_with fail
        refine (HM.out _).mono ?_; rintro e w4 ⟨rfl, rfl⟩
        go_wp2_with fail
        refine (HTR.out _).mono ?_; rintro e w5 ⟨rfl, rfl⟩
        go_wp2_with fail
        refine (HWS.out _ I3.out (by have := S3.out; omega)).mono ?_; rintro e w6 ⟨rfl, hI, hb, hk⟩
        have I6 : Hid (Lib.IsBuilderF 121 5 w.heap.size w.heap.size (Lib.byteCells (rowsJ (L.take (j + 1)))) w6) := .inr hI
        have O6 : Hid (Opts w6 (w.heap.size + 1) (.slice (some x0) L.length c) L) := O3.out.others (by omega) hk
        have B6 : Hid (Below w.heap.size w w6) := B3.out.trans hb
        have S6 : Hid (w.heap.size + 1 ≤ w6.heap.size) := Nat.le_trans S3.out hb.size
        clear hI hb hk I3 O3 B3 S3 HWS HTR
        go_wp2
        exact ⟨⟨j + 1, by omega, by go_num, I6, O6, B6, S6⟩, by simp [intOf]; omega⟩
    · obtain rfl : j = L.length := by omega
      have HS : Hid (∀ w', Lib.IsBuilderF 121 5 w.heap.size w.heap.size (Lib.byteCells (rowsJ (L.take L.length))) w' → w.heap.size ≤ w'.heap.size → _) := fun w' h hw => Try.Builder_String_any_k w.heap.size w.heap.size (rowsJ (L.take L.length)) w' h hw
      have hb0 := HB.out L.length
      have e1 : toldO (mk (rowsJ (L.take L.length))) = J := by rw [toldO, bs_mk, HE.out, HJ.out.1]; rfl
      have e2 : toldK (mk (rowsJ (L.take L.length))) = K := by rw [toldK, bs_mk, HE.out, HJ.out.2]; rfl
      have HT1 : Hid (∀ w, TkAt w b s x → _) := fun w h => HT.out (mk (rowsJ (L.take L.length))) w (by rw [size_mk]; omega) h
      rw [e1, e2] at HT1
      have e3 : (⟨(rowsJ (L.take L.length)).toArray⟩ : ByteArray) = mk (rowsJ (L.take L.length)) := rfl
      rw [e3] at HS
      generalize mk (rowsJ (L.take L.length)) = R at *
      clear e1 e2 e3 hb0 HT HJ HE HO HB HM
      go_wp2_with fail
      refine (HS.out _ hI.out (by have := hS.out; omega)).mono ?_; rintro e w6 ⟨rfl, _, hb, _⟩
      have B6 : Hid (Below w.heap.size w w6) := hB.out.trans hb
      clear hb hI hO hB
      go_wp2_with fail
      refine (HT1.out _ (HK.out.below B6.out lt)).mono ?_; rintro e w7 ⟨⟨v7, rfl, hO7⟩, hT7, hU7⟩
      have F7 : Hid (Opts w7 w.heap.size v7 J ∧ TkAt w7 b s (mustT K x) ∧ Turn b w w7) := ⟨hO7.base B6.out.size, hT7, (Turn.of_below B6.out lt).trans hU7⟩
      clear hO7 hT7 hU7 B6
      go_wp2
      go_ret
      exact ⟨⟨_, rfl, F7.out.1⟩, F7.out.2.1, F7.out.2.2⟩
end Go.Proofs.Ytegoaaamlfehpaa
