/-
  Contracts of the document's own answers of layer 7: its reader's num; over.
-/
import Derived.Test.YtegoaaamlfehpaaPackRef
namespace Go.Proofs.Ytegoaaamlfehpaa
open Go.ChangeShapes Go.WideShapes Go.ChangeAt Go.RowKit Go.Pin Go.PlainAid

set_option maxRecDepth 100000 in
theorem rnum_c (b : Nat) (s : ByteArray) (a k : Nat) (w : World) (hk : k = 1 ∨ k = 2 ∨ k = 4) (hs : s.size ≤ 1125899906842624) (h : a + k ≤ s.size) (hT : TkAt w b s ⟨a, false⟩) :
    Calls Try.prog 37 #[.pointer (some ⟨b, 0, none⟩), .int .i64 k] w fun e w' => e = .returned (.int .i64 (num s a k)) ∧ TkAt w' b s ⟨((a + k : Nat) : Int), false⟩ ∧ Turn b w w' := by
  have HG : Hid (∀ w, _) := fun w => rget_ok s a k w hk (by unfold maxLen; omega) h
  have K1 : Hid (∀ n, TkAt (w.drewN n) b s ⟨a, false⟩) := fun n => hT.below (below_drewN (Below.refl _ _) n) hT.lt
  have U1 : Hid (∀ n, Turn b w (w.drewN n)) := fun n => Turn.of_below (below_drewN (Below.refl _ _) n) hT.lt
  have R1 : Hid (∀ n w', TkAt (w.drewN n) b s ⟨a, false⟩ → w' = ((w.drewN n).setCell ⟨b, 1, none⟩ (.int .i64 ((a : Int) + k))) → TkAt w' b s ⟨((a + k : Nat) : Int), false⟩) := fun n w' h1 h2 => by
    rw [h2]
    have := h1.set1 ((a : Int) + k) (fun _ => by omega) (by omega)
    simpa using this
  obtain ⟨c0, c1, c2, fz, lt, _, _⟩ := hT
  have f1 := fz 1
  have hw : IntKind.i64.wrap ((a : Int) + k) = (a : Int) + k := wrap_in _ (by omega) (by omega)
  have hr : (a : Int) + k ≤ 1125899906842624 := by omega
  generalize num s a k = x at *
  clear fz hk
  go_enter Try.func37, Try.ntmps37
  go_wp2_with fail
  go_quiet ((go_at_call 55; exact Calls.quiet_of_same (HG.out _)))
  go_wp2
  go_ret
  exact ⟨rfl, R1.out _ _ (K1.out _) rfl, (U1.out _).trans (Turn.set _ _ _)⟩
/-- A list of options in memory; the empty one is nil. -/
def LiesN (w : World) (a : Option Addr) (ks : List Opn) : Prop := (ks = [] ∧ a = none) ∨ ∃ x, a = some x ∧ OpFrom w x ks
theorem LiesN.below {w w' : World} {a : Option Addr} {ks : List Opn} (h : LiesN w a ks) (hb : Below w.heap.size w w') : LiesN w' a ks := by
  rcases h with h | ⟨x, h1, h2⟩
  · exact .inl h
  · exact .inr ⟨x, h1, h2.below hb⟩
theorem LiesN.lies {w : World} {a : Option Addr} {ks : List Opn} (h : LiesN w a ks) : OpLies w a ks := by
  rcases h with ⟨h, _⟩ | ⟨x, h1, h2⟩
  · exact .inl h
  · exact .inr ⟨x, h1, h2⟩
theorem Opts.liesN {w : World} {base n c : Nat} {a : Option Addr} {ks : List Opn} (h : Opts w base (.slice a n c) ks) (hne : ks ≠ []) : LiesN w a ks := by
  obtain ⟨a', c', e, hl⟩ := h.lies
  simp only [Value.slice.injEq] at e
  rw [e.1]
  rcases hl with hl | ⟨x, h1, h2⟩
  · exact absurd hl hne
  · exact .inr ⟨x, h1, h2⟩
theorem Opts.place {w : World} {base n c : Nat} {a : Option Addr} {ks : List Opn} (h : Opts w base (.slice a n c) ks) : ∀ x, a = some x → base ≤ x.block := by
  intro x hx
  rcases h.2 with ⟨h, _⟩ | ⟨g, cap, cur, hv, hg, _⟩
  · simp only [Value.slice.injEq] at h; rw [hx] at h; cases h.1
  · simp only [Value.slice.injEq] at hv; rw [hx] at hv; cases hv.1; exact hg
theorem OpLies.heap {w w' : World} {a : Option Addr} {ks : List Opn} (h : OpLies w a ks) (hk : ∀ x, a = some x → w'.heap[x.block]? = w.heap[x.block]?) : OpLies w' a ks := by
  rcases h with h | ⟨x, h1, h2⟩
  · exact .inl h
  · have hb := hk x h1
    have key : ∀ y : Addr, y.block = x.block → w'.cell? y = w.cell? y := fun y hy => by unfold World.cell?; rw [hy, hb]
    refine .inr ⟨x, h1, fun j hj => ?_⟩
    obtain ⟨g0, g1⟩ := h2 j hj
    have e : (x.add (j * 2)).block = x.block := by unfold Addr.add; split <;> rfl
    exact ⟨(key _ e).trans g0, (key ⟨(x.add (j * 2)).block, (x.add (j * 2)).off + 1, none⟩ e).trans g1⟩
theorem OpLies.set {w : World} {a : Option Addr} {ks : List Opn} (h : OpLies w a ks) {q : Nat} (hq : ∀ x, a = some x → x.block = q → False) (j : Nat) (u : Value) : OpLies (w.setCell ⟨q, j, none⟩ u) a ks :=
  h.heap fun x hx => Below.heap_setCell _ _ _ _ (fun e => hq x hx e)
theorem rGet_yes (s : ByteArray) (os : List Opn) (w : World) (hs : s.size ≤ 140737488351232) (h : getO (bs s) [] = some os) : Calls Try.prog 38 #[.string s] w fun e w' => (∃ v, e = .returned (.tuple #[v, .int .i64 0]) ∧ Opts w' w.heap.size v os) ∧ Below w.heap.size w w' := by
  have := rGet_c s w hs
  rw [h] at this
  exact this
theorem rGet_no (s : ByteArray) (w : World) (hs : s.size ≤ 140737488351232) (h : getO (bs s) [] = none) : Calls Try.prog 38 #[.string s] w fun e w' => e = .returned (.tuple #[.slice none 0 0, .int .i64 600]) ∧ Below w.heap.size w w' := by
  have := rGet_c s w hs
  rw [h] at this
  exact this
theorem over_no (v : Value) (s : ByteArray) (w : World) (hs : s.size ≤ 140737488351232) (h : getO (bs s) [] = none) : Calls Try.prog 40 #[v, .string s] w fun e w' => e = .returned (.tuple #[.slice none 0 0, .bool false]) ∧ Below w.heap.size w w' := by
  have HG : Hid (∀ w, _) := fun w => rGet_no s w hs h
  clear h hs
  go_enter Try.func40, Try.ntmps40
  go_wp2_with fail
  refine (HG.out _).mono ?_; rintro e w1 ⟨rfl, hb⟩
  go_wp2
  go_ret2
  exact ⟨rfl, hb⟩
set_option maxRecDepth 100000 in
set_option maxHeartbeats 2000000 in
theorem over_yes (a : Option Addr) (cap : Nat) (os xs : List Opn) (s : ByteArray) (w : World) (hs : s.size ≤ 140737488351232) (hg : getO (bs s) [] = some xs) (β : Nat) (hβ : β ≤ w.heap.size) (hl : os.length ≤ 500) (hd : ∀ o ∈ os, o.2.length ≤ 100000) (h : LiesN w a os) (hp : ∀ x, a = some x → β ≤ x.block) :
    Calls Try.prog 40 #[.slice a os.length cap, .string s] w fun e w' => (∃ a' c', e = .returned (.tuple #[.slice a' (joinAll os (wo xs)).length c', .bool true]) ∧ LiesN w' a' (joinAll os (wo xs)) ∧ ∀ x, a' = some x → β ≤ x.block) ∧ Below w.heap.size w w' := by
  have mx := getO_may hg
  have HG : Hid (∀ w, _) := fun w => rGet_yes s xs w hs hg
  have h32 := mx.1
  have HX : Hid (∀ j, (joinAll os (wo (xs.take j))).length ≤ 600 ∧ ∀ o ∈ joinAll os (wo (xs.take j)), o.2.length ≤ 200000) := fun j => by
    have h1 := joinAll_size (wo (xs.take j)) os 100000 hd (fun o ho => ((okO_iff o).1 (mx.2.1 o (List.mem_of_mem_take (List.mem_filter.1 ho).1))).2.2)
    have h2 := wo_len (xs.take j)
    rw [List.length_take] at h2
    refine ⟨by omega, fun o ho => ?_⟩
    have := h1.2 o ho
    omega
  have HD : Hid (∀ j, j < xs.length → (opAt xs j).2.length ≤ 512) := fun j hj => ((okO_iff _).1 (mx.2.1 _ (opAt_mem hj))).2.2
  have HT : Hid (∀ j, j < xs.length → wo (xs.take (j + 1)) = wo (xs.take j) ++ (if (opAt xs j).1 ≠ 52 then [opAt xs j] else [])) := fun j hj => wo_take hj
  have H : Hid (LiesN w a os) := h
  have HPL : Hid (∀ x, a = some x → β ≤ x.block) := hp
  have E0 : Hid (joinAll os (wo (xs.take 0)) = os) := by show _ = _; simp [wo, joinAll]
  have E1 : Hid (joinAll os (wo (xs.take xs.length)) = joinAll os (wo xs)) := by show _ = _; rw [List.take_length]
  clear h hg mx hd hp
  go_enter Try.func40, Try.ntmps40
  go_wp2_with fail
  refine (HG.out _).mono ?_; rintro e w1 ⟨⟨v, rfl, hO⟩, hb⟩
  obtain ⟨ax, cx, rfl, hlx⟩ := hO.lies
  have LX : Hid (OpLies w1 ax xs) := hlx
  have B1 : Hid (Below w.heap.size w w1) := hb
  have L1 : Hid (LiesN w1 a os) := H.out.below hb
  clear hb hO hlx HG H
  go_wp2_with fail
  go_loopg [0, 8] (xs.length + 1) (fun k (ov iv : Value) wr => ∃ (j : Nat) (oa : Option Addr) (oc : Nat), iv = .int .i64 j ∧ j ≤ xs.length ∧ ov = .slice oa (joinAll os (wo (xs.take j))).length oc ∧ Hid (LiesN wr oa (joinAll os (wo (xs.take j)))) ∧ Hid (Below w.heap.size w wr) ∧ Hid (Below w1.heap.size w1 wr) ∧ Hid (∀ x, oa = some x → β ≤ x.block) ∧ k = xs.length - j + 1)
  case atStart => exact ⟨0, a, cap, rfl, Nat.zero_le _, by rw [E0.out], by show LiesN _ _ _; rw [E0.out]; exact L1.out, B1, Below.refl _ _, HPL, rfl⟩
  case round =>
    obtain ⟨j, oa, oc, rfl, hj, rfl, hO, B, C, hPO, hk⟩ := hrel
    have Hk : Hid (_) := hk
    obtain ⟨x1, x2⟩ := HX.out j
    clear hk
    by_cases hlt : j < xs.length
    · have hlt' : (j : Int) < (xs.length : Int) := by omega
      obtain ⟨y, rfl, hc⟩ : ∃ y, ax = some y ∧ OpFrom wr y xs := by
        rcases LX.out.below C.out with h | ⟨y, h1, h2⟩
        · rw [h] at hlt; exact absurd hlt (Nat.not_lt_zero _)
        · exact ⟨y, h1, h2⟩
      obtain ⟨h0, h1⟩ := hc j hlt
      have hdj := HD.out j hlt
      have hTj := HT.out j hlt
      have Hk2 : Hid (xs.length - (j + 1) + 1 < gk) := by show _ < _; rw [Hk.out]; omega
      have HJJ : Hid (_) := HX.out (j + 1)
      clear hc
      generalize opAt xs j = o at *
      obtain ⟨cd, d⟩ := o
      simp only at h0 h1 hdj hTj
      by_cases h52 : cd = 52
      · have he : wo (xs.take (j + 1)) = wo (xs.take j) := by rw [hTj]; simp [h52]
        have hq : (cd != 52) = false := by simp [h52]
        have Hn : Hid (wo (xs.take (j + 1)) = wo (xs.take j)) := he
        clear he hTj
        go_wp2_with fail
        go_roundg (xs.length - (j + 1) + 1)
        case measure => exact Hk2.out
        case rel => exact ⟨j + 1, oa, oc, by go_num, by omega, by rw [Hn.out], by show LiesN _ _ _; rw [Hn.out]; exact hO.out, B, C, hPO, rfl⟩
      · have he : joinAll os (wo (xs.take (j + 1))) = joinO (joinAll os (wo (xs.take j))) cd d := by
          rw [hTj, joinAll_append]; simp [h52, joinAll]
        have hq : (cd != 52) = true := by simpa using h52
        have Hn : Hid (joinAll os (wo (xs.take (j + 1))) = joinO (joinAll os (wo (xs.take j))) cd d) := he
        have HJ : Hid (∀ w', Below wr.heap.size wr w' → _) := fun w' hb => rJoin_c oa oc (joinAll os (wo (xs.take j))) cd (mk d) w' (by omega) (by rw [size_mk]; omega) (fun o ho => by have := x2 o ho; omega) (hO.out.below hb)
        rw [bs_mk] at HJ
        clear he hTj x2
        generalize joinAll os (wo (xs.take j)) = acc at *
        have HJD := HJ.out wr.drew (below_drewN (Below.refl _ _) 1)
        have HCB : Hid (∀ w' : World, Below wr.heap.size wr w' → w'.cell? (y.add (j * 2)) = some (.int .i64 cd) ∧ w'.cell? ⟨(y.add (j * 2)).block, (y.add (j * 2)).off + 1, none⟩ = some (.string (mk d))) := fun w' hb => ⟨(hb.cell (World.block_lt_of_cell? _ _ h0)).trans h0, (hb.cell (World.block_lt_of_cell? _ _ h1)).trans h1⟩
        clear HJ
        go_wp2_with fail
        have cc := HCB.out _ (below_drewN (Below.refl _ _) 1)
        go_region_held3 (fun w' => w'.cell? (y.add (j * 2)) = some (.int .i64 cd) ∧ w'.cell? ⟨(y.add (j * 2)).block, (y.add (j * 2)).off + 1, none⟩ = some (.string (mk d))) (first | exact cc | exact HCB.out _ hb3') (first | (go_at_call 56; refine HJD.mono ?_; rintro e w3 ⟨⟨v3, rfl, hO3⟩, hb3⟩; have hb3' : Below wr.heap.size wr w3 := bel_trans (below_drewN (Below.refl _ _) 1) hb3))
        have B3 : Hid (Below w.heap.size w w3) := bel_trans B.out hb3'
        have C3 : Hid (Below w1.heap.size w1 w3) := bel_trans C.out hb3'
        obtain ⟨a3, c3, rfl, _⟩ := hO3.lies
        have O3 : Hid (LiesN w3 a3 (joinAll os (wo (xs.take (j + 1))))) := by show LiesN _ _ _; rw [Hn.out]; exact hO3.liesN (join_some _ _ _)
        have P3 : Hid (∀ x, a3 = some x → β ≤ x.block) := fun x hx => by have h1 := hO3.place x hx; have h2 := B.out.size; have h3 : wr.drew.heap.size = wr.heap.size := rfl; omega
        rw [← Hn.out]
        clear hb3 hb3' hO3 HJD
        go_wp2
        go_roundg (xs.length - (j + 1) + 1)
        case measure => exact Hk2.out
        case rel => exact ⟨j + 1, a3, c3, by go_num, by omega, rfl, O3, B3, C3, P3, rfl⟩
    · obtain rfl : j = xs.length := by omega
      rw [E1.out]
      have hO' : Hid (LiesN wr oa (joinAll os (wo xs))) := by show LiesN _ _ _; rw [← E1.out]; exact hO.out
      go_wp2
      go_ret2
      exact ⟨⟨_, _, rfl, hO'.out, hPO.out⟩, B.out⟩
end Go.Proofs.Ytegoaaamlfehpaa
