/-
  Contracts of the laws' CopyDns and SpoilDns.
-/
import Derived.Test.YtdmooggmoihggaaGreatDoorDnsRefPut
import Derived.Test.YtdmooggmoihggaaGreatDoorDnsGot
namespace Go.Proofs.YtdmooggmoihggaaGreatDoor
set_option maxRecDepth 100000
open Go.ChangeShapes Go.WideShapes Go.ChangeAt Go.RowKit Go.Pin Go.PlainAid

/-! ### written over -/
/-- What held a number holds one, and nothing is frozen that was not. -/
structure Ints (w w' : World) : Prop where
  int : ∀ a z, w.cell? a = some (.int .i64 z) → ∃ z', w'.cell? a = some (.int .i64 z')
  fz : ∀ a, w'.frozen? a = w.frozen? a
theorem Ints.refl (w : World) : Ints w w := ⟨fun _ z h => ⟨z, h⟩, fun _ => rfl⟩
theorem Ints.trans {w w1 w2 : World} (h1 : Ints w w1) (h2 : Ints w1 w2) : Ints w w2 := ⟨fun a z h => by obtain ⟨z', h'⟩ := h1.int a z h; exact h2.int a z' h', fun a => (h2.fz a).trans (h1.fz a)⟩
theorem Ints.set (w : World) (b : Addr) (y z : Int) (h : w.cell? b = some (.int .i64 y)) : Ints w (w.setCell b (.int .i64 z)) := by
  refine ⟨fun a x ha => ?_, fun a => World.frozen?_setCell _ _ _ _⟩
  by_cases e : a = b
  · subst e; exact ⟨z, World.cell?_setCell_same _ _ _ h⟩
  · exact ⟨x, by rw [World.cell?_setCell_other _ _ _ _ (fun h => e h.symm)]; exact ha⟩
/-- A list whose numbers may be written over. -/
def Sp (w : World) (base lim : Nat) (a : Option Addr) (n step off : Nat) : Prop := (a = none ∧ n = 0) ∨ ∃ g, a = some ⟨g, 0, none⟩ ∧ base ≤ g ∧ g < lim ∧ (∀ j, j < n → ∃ z, w.cell? ⟨g, j * step + off, none⟩ = some (.int .i64 z)) ∧ ∀ j, w.frozen? ⟨g, j, none⟩ = false
theorem Sp.keep {w w' : World} {base lim : Nat} {a : Option Addr} {n step off : Nat} (h : Sp w base lim a n step off) (hi : Ints w w') : Sp w' base lim a n step off := by
  rcases h with h | ⟨g, h1, h2, h2', h3, h4⟩
  · exact .inl h
  · exact .inr ⟨g, h1, h2, h2', fun j hj => by obtain ⟨z, hz⟩ := h3 j hj; exact hi.int _ z hz, fun j => (hi.fz _).trans (h4 j)⟩
theorem spoilRs_nil (c : Nat) (w : World) : Calls Tryz.prog 37 #[.slice none 0 c] w fun e w' => e = .returned (.tuple #[]) ∧ w' = w := by
  go_enter Tryz.func37, Tryz.ntmps37
  go_wp2
  go_rounds 1
  go_end0
  exact ⟨rfl, rfl⟩
theorem spoilRs_some (g c base lim n : Nat) (w : World) (hl : n ≤ 1000000000) (hg : base ≤ g) (hlim : g < lim) (h : ∀ j, j < n → ∃ z, w.cell? ⟨g, j * 7 + 2, none⟩ = some (.int .i64 z)) (hf : ∀ j, w.frozen? ⟨g, j, none⟩ = false) :
    Calls Tryz.prog 37 #[.slice (some ⟨g, 0, none⟩) n c] w fun e w' => e = .returned (.tuple #[]) ∧ Below base w w' ∧ Ints w w' ∧ (∀ k, lim ≤ k → w'.heap[k]? = w.heap[k]?) := by
  have Hc : Hid (∀ j, j < n → ∃ z, w.cell? ⟨g, j * 7 + 2, none⟩ = some (.int .i64 z)) := h
  have Hf : Hid (∀ j, w.frozen? ⟨g, j, none⟩ = false) := hf
  clear h hf
  go_enter Tryz.func37, Tryz.ntmps37
  go_wp2
  go_loopw [2] (fun i wr => ∃ j : Nat, j ≤ n ∧ i = .int .i64 j ∧ Below base w wr ∧ Hid (Ints w wr) ∧ Hid (∀ k, lim ≤ k → wr.heap[k]? = w.heap[k]?)) (fun i _ => n - (intOf i).toNat)
  case atStart => exact ⟨0, Nat.zero_le _, rfl, Below.refl _ _, Ints.refl w, fun _ _ => rfl⟩
  case round =>
    obtain ⟨j, hj, rfl, hnx, hI, hO⟩ := hrel
    by_cases hlt : j < n
    · obtain ⟨y0, hy0⟩ := Hc.out j hlt
      obtain ⟨y, hce⟩ := hI.out.int _ _ hy0
      have hfr := (hI.out.fz ⟨g, j * 7 + 2, none⟩).trans (Hf.out (j * 7 + 2))
      have HI : Hid (∀ z, Ints w (wr.setCell ⟨g, j * 7 + 2, none⟩ (.int .i64 z))) := fun z => hI.out.trans (Ints.set wr _ y z hce)
      have HO : Hid (∀ z k, lim ≤ k → (wr.setCell ⟨g, j * 7 + 2, none⟩ (.int .i64 z)).heap[k]? = w.heap[k]?) := fun z k hk => (Below.heap_setCell _ _ _ _ (show k ≠ g by omega)).trans (hO.out k hk)
      clear hy0
      go_wp2
      refine ⟨⟨j + 1, by omega, by go_num, hnx.setCell hg _, HI.out _, HO.out _⟩, by simp [intOf]; omega⟩
    · obtain rfl : j = n := by omega
      go_wp2
      go_end0
      exact ⟨rfl, hnx, hI.out, hO.out⟩
theorem spoilRs_c (a : Option Addr) (n cap base lim : Nat) (w : World) (hl : n ≤ 1000000000) (h : Sp w base lim a n 7 2) :
    Calls Tryz.prog 37 #[.slice a n cap] w fun e w' => e = .returned (.tuple #[]) ∧ Below base w w' ∧ Ints w w' ∧ (∀ k, lim ≤ k → w'.heap[k]? = w.heap[k]?) := by
  rcases h with ⟨rfl, rfl⟩ | ⟨g, rfl, hg, hlim, h1, h2⟩
  · exact (spoilRs_nil cap w).mono fun e w' ⟨h1, h2⟩ => ⟨h1, by rw [h2]; exact Below.refl _ _, by rw [h2]; exact Ints.refl _, fun k _ => by rw [h2]⟩
  · exact spoilRs_some g cap base lim n w hl hg hlim h1 h2
theorem spoilQs_nil (c : Nat) (w : World) : Calls Tryz.prog 36 #[.slice none 0 c] w fun e w' => e = .returned (.tuple #[]) ∧ w' = w := by
  go_enter Tryz.func36, Tryz.ntmps36
  go_wp2
  go_rounds 1
  go_end0
  exact ⟨rfl, rfl⟩
theorem spoilQs_some (g c base lim n : Nat) (w : World) (hl : n ≤ 1000000000) (hg : base ≤ g) (hlim : g < lim) (h : ∀ j, j < n → ∃ z, w.cell? ⟨g, j * 2 + 1, none⟩ = some (.int .i64 z)) (hf : ∀ j, w.frozen? ⟨g, j, none⟩ = false) :
    Calls Tryz.prog 36 #[.slice (some ⟨g, 0, none⟩) n c] w fun e w' => e = .returned (.tuple #[]) ∧ Below base w w' ∧ Ints w w' ∧ (∀ k, lim ≤ k → w'.heap[k]? = w.heap[k]?) := by
  have Hc : Hid (∀ j, j < n → ∃ z, w.cell? ⟨g, j * 2 + 1, none⟩ = some (.int .i64 z)) := h
  have Hf : Hid (∀ j, w.frozen? ⟨g, j, none⟩ = false) := hf
  clear h hf
  go_enter Tryz.func36, Tryz.ntmps36
  go_wp2
  go_loopw [2] (fun i wr => ∃ j : Nat, j ≤ n ∧ i = .int .i64 j ∧ Below base w wr ∧ Hid (Ints w wr) ∧ Hid (∀ k, lim ≤ k → wr.heap[k]? = w.heap[k]?)) (fun i _ => n - (intOf i).toNat)
  case atStart => exact ⟨0, Nat.zero_le _, rfl, Below.refl _ _, Ints.refl w, fun _ _ => rfl⟩
  case round =>
    obtain ⟨j, hj, rfl, hnx, hI, hO⟩ := hrel
    by_cases hlt : j < n
    · obtain ⟨y0, hy0⟩ := Hc.out j hlt
      obtain ⟨y, hce⟩ := hI.out.int _ _ hy0
      have hfr := (hI.out.fz ⟨g, j * 2 + 1, none⟩).trans (Hf.out (j * 2 + 1))
      have HI : Hid (∀ z, Ints w (wr.setCell ⟨g, j * 2 + 1, none⟩ (.int .i64 z))) := fun z => hI.out.trans (Ints.set wr _ y z hce)
      have HO : Hid (∀ z k, lim ≤ k → (wr.setCell ⟨g, j * 2 + 1, none⟩ (.int .i64 z)).heap[k]? = w.heap[k]?) := fun z k hk => (Below.heap_setCell _ _ _ _ (show k ≠ g by omega)).trans (hO.out k hk)
      clear hy0
      go_wp2
      refine ⟨⟨j + 1, by omega, by go_num, hnx.setCell hg _, HI.out _, HO.out _⟩, by simp [intOf]; omega⟩
    · obtain rfl : j = n := by omega
      go_wp2
      go_end0
      exact ⟨rfl, hnx, hI.out, hO.out⟩
theorem spoilQs_c (a : Option Addr) (n cap base lim : Nat) (w : World) (hl : n ≤ 1000000000) (h : Sp w base lim a n 2 1) :
    Calls Tryz.prog 36 #[.slice a n cap] w fun e w' => e = .returned (.tuple #[]) ∧ Below base w w' ∧ Ints w w' ∧ (∀ k, lim ≤ k → w'.heap[k]? = w.heap[k]?) := by
  rcases h with ⟨rfl, rfl⟩ | ⟨g, rfl, hg, hlim, h1, h2⟩
  · exact (spoilQs_nil cap w).mono fun e w' ⟨h1, h2⟩ => ⟨h1, by rw [h2]; exact Below.refl _ _, by rw [h2]; exact Ints.refl _, fun k _ => by rw [h2]⟩
  · exact spoilQs_some g cap base lim n w hl hg hlim h1 h2
theorem sp_of_recs {w w0 : World} {base : Nat} {a : Option Addr} {cap : Nat} {rs : List Rec} (h0 : Recs w base (.slice a rs.length cap) rs) (hA : Below w.heap.size w w0) : Sp w0 base w.heap.size a rs.length 7 2 := by
  have hh := row_below h0 hA
  rcases h0.2 with ⟨hv, hn⟩ | ⟨g, c, cur, hv, hg, hb, _⟩
  · simp only [Value.slice.injEq] at hv
    exact .inl ⟨hv.1, hv.2.1⟩
  · simp only [Value.slice.injEq] at hv
    obtain ⟨rfl, _, rfl⟩ := hv
    refine .inr ⟨g, rfl, hg, (Array.getElem?_eq_some_iff.1 hb).1, fun j hj => ?_, fun j => World.ownsRow.frozenAt hh j⟩
    obtain ⟨g', e, _, hc⟩ := row_cell hh (by omega)
    simp only [Option.some.injEq, Addr.mk.injEq, and_true] at e
    subst e
    obtain ⟨r, hr⟩ : ∃ r, rs[j]? = some r := ⟨_, List.getElem?_eq_getElem hj⟩
    exact ⟨r.ttl, by rw [hc _ (by omega), flat_at rs j r 2 hr (by omega)]; rfl⟩
theorem sp_of_ques {w w0 : World} {base : Nat} {a : Option Addr} {cap : Nat} {rs : List Qn} (h0 : Ques w base (.slice a rs.length cap) rs) (hA : Below w.heap.size w w0) : Sp w0 base w.heap.size a rs.length 2 1 := by
  have hh := row_below h0 hA
  rcases h0.2 with ⟨hv, hn⟩ | ⟨g, c, cur, hv, hg, hb, _⟩
  · simp only [Value.slice.injEq] at hv
    exact .inl ⟨hv.1, hv.2.1⟩
  · simp only [Value.slice.injEq] at hv
    obtain ⟨rfl, _, rfl⟩ := hv
    refine .inr ⟨g, rfl, hg, (Array.getElem?_eq_some_iff.1 hb).1, fun j hj => ?_, fun j => World.ownsRow.frozenAt hh j⟩
    obtain ⟨g', e, _, hc⟩ := row_cell hh (by omega)
    simp only [Option.some.injEq, Addr.mk.injEq, and_true] at e
    subst e
    obtain ⟨r, hr⟩ : ∃ r, rs[j]? = some r := ⟨_, List.getElem?_eq_getElem hj⟩
    exact ⟨r.ty, by rw [hc _ (by omega), flatQ_at rs j r 1 hr (by omega)]; rfl⟩
/-- A message's four lists, which may be written over. -/
structure Sp4 (w : World) (base lim : Nat) (m : Msg) (p : Pl) : Prop where
  q : Sp w base lim p.qa m.qs.length 2 1
  a : Sp w base lim p.aa m.an.length 7 2
  s : Sp w base lim p.sa m.sv.length 7 2
  d : Sp w base lim p.da m.ad.length 7 2
theorem Rows4.sp {w w0 : World} {base : Nat} {m : Msg} {p : Pl} (h : Rows4 w base m p) (hA : Below w.heap.size w w0) : Sp4 w0 base w.heap.size m p := ⟨sp_of_ques h.q hA, sp_of_recs h.a hA, sp_of_recs h.s hA, sp_of_recs h.d hA⟩
set_option maxRecDepth 100000 in
set_option maxHeartbeats 1000000 in
theorem spoilDns_c (m : Msg) (p : Pl) (base : Nat) (w : World) (hb : base ≤ w.heap.size) (l1 : m.qs.length ≤ 1000000000) (l2 : m.an.length ≤ 1000000000) (l3 : m.sv.length ≤ 1000000000) (l4 : m.ad.length ≤ 1000000000) (h : Rows4 w base m p) :
    Calls Tryz.prog 13 #[mv m p] w fun e w' => e = .returned (.tuple #[]) ∧ Below base w w' := by
  obtain ⟨w0, hw0⟩ : ∃ w0, w.alloc (.cells (cellsM m p) 25) = w0 := ⟨_, rfl⟩
  have hA : Below w.heap.size w w0 := by rw [← hw0]; exact (Below.refl _ _).alloc (Nat.le_refl _) _
  have S0 : Sp4 w0 base w.heap.size m p := h.sp hA
  have X0 : Hid (BoxM w0 w.heap.size m p) := by
    show BoxM _ _ _ _
    rw [← hw0]; exact BoxM.new w m p
  have B0 : Hid (Below base w w0) := hA.mono hb
  have HQ : Hid (∀ w', Ints w0 w' → _) := fun w' hi => spoilQs_c p.qa m.qs.length p.qc base w.heap.size w' l1 (S0.q.keep hi)
  have HA : Hid (∀ w', Ints w0 w' → _) := fun w' hi => spoilRs_c p.aa m.an.length p.ac base w.heap.size w' l2 (S0.a.keep hi)
  have HS : Hid (∀ w', Ints w0 w' → _) := fun w' hi => spoilRs_c p.sa m.sv.length p.sc base w.heap.size w' l3 (S0.s.keep hi)
  have HD : Hid (∀ w', Ints w0 w' → _) := fun w' hi => spoilRs_c p.da m.ad.length p.dc base w.heap.size w' l4 (S0.d.keep hi)
  have I0 : Hid (Ints w0 w0) := Ints.refl _
  have hcell : Hid (∀ w', BoxM w' w.heap.size m p → _) := fun w' h => h.all
  have hle := Nat.le_refl w.heap.size
  obtain ⟨qa, qc, aa, ac, sa, sc, da, dc⟩ := p
  simp only at HQ HA HS HD
  obtain ⟨c0, c1, c2, c3, c4, c5, c6, c7, c8, c9, c10, c11⟩ := hcell.out _ X0.out
  clear S0 h hA hb l1 l2 l3 l4
  simp only [mv, cellsM] at *
  go_enter Tryz.func13, Tryz.ntmps13
  go_wp2_with fail
  refine (HQ.out _ I0.out).mono ?_; rintro e w1 ⟨rfl, b1, i1, o1⟩
  have I1 : Hid (Ints w0 w1) := I0.out.trans i1
  have X1 : Hid (BoxM w1 w.heap.size m ⟨qa, qc, aa, ac, sa, sc, da, dc⟩) := (o1 _ hle).trans X0.out
  have B1 : Hid (Below base w w1) := B0.out.trans b1
  clear c0 c1 c2 c3 c4 c5 c6 c7 c8 c9 c10 c11 b1 i1 o1 X0 B0 I0 HQ hw0
  obtain ⟨c0, c1, c2, c3, c4, c5, c6, c7, c8, c9, c10, c11⟩ := hcell.out _ X1.out
  go_wp2_with fail
  refine (HA.out _ I1.out).mono ?_; rintro e w2 ⟨rfl, b1, i1, o1⟩
  have I2 : Hid (Ints w0 w2) := I1.out.trans i1
  have X2 : Hid (BoxM w2 w.heap.size m ⟨qa, qc, aa, ac, sa, sc, da, dc⟩) := (o1 _ hle).trans X1.out
  have B2 : Hid (Below base w w2) := B1.out.trans b1
  clear c0 c1 c2 c3 c4 c5 c6 c7 c8 c9 c10 c11 b1 i1 o1 X1 B1 I1 HA
  obtain ⟨c0, c1, c2, c3, c4, c5, c6, c7, c8, c9, c10, c11⟩ := hcell.out _ X2.out
  go_wp2_with fail
  refine (HS.out _ I2.out).mono ?_; rintro e w3 ⟨rfl, b1, i1, o1⟩
  have I3 : Hid (Ints w0 w3) := I2.out.trans i1
  have X3 : Hid (BoxM w3 w.heap.size m ⟨qa, qc, aa, ac, sa, sc, da, dc⟩) := (o1 _ hle).trans X2.out
  have B3 : Hid (Below base w w3) := B2.out.trans b1
  clear c0 c1 c2 c3 c4 c5 c6 c7 c8 c9 c10 c11 b1 i1 o1 X2 B2 I2 HS
  obtain ⟨c0, c1, c2, c3, c4, c5, c6, c7, c8, c9, c10, c11⟩ := hcell.out _ X3.out
  go_wp2_with fail
  refine (HD.out _ I3.out).mono ?_; rintro e w4 ⟨rfl, b1, i1, o1⟩
  have B4 : Hid (Below base w w4) := B3.out.trans b1
  clear c0 c1 c2 c3 c4 c5 c6 c7 c8 c9 c10 c11 b1 i1 o1 X3 B3 I3 HD
  go_wp2_with fail
  go_end0
  exact ⟨rfl, B4.out⟩
end Go.Proofs.YtdmooggmoihggaaGreatDoor
