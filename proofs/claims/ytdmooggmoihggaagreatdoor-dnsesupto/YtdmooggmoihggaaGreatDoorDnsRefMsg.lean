/-
  Contract of the document's own GetDns, at every text.
-/
import Derived.Test.YtdmooggmoihggaaGreatDoorDnsRefRrs
import Derived.Test.YtdmooggmoihggaaGreatDoorDnsRefOpt
import Derived.Test.YtdmooggmoihggaaGreatDoorDnsGot
import Derived.Deep.CutBlock
namespace Go.Proofs.YtdmooggmoihggaaGreatDoor
set_option maxRecDepth 100000
open Go.ChangeShapes Go.WideShapes Go.ChangeAt Go.RowKit Go.Pin Go.PlainAid

/-- Where the reference's things lie: the result r, the reader b, the message c; what is made behind them lies from base on. -/
structure At3 (n r b c base : Nat) : Prop where
  r0 : n ≤ r
  b0 : n ≤ b
  c0 : n ≤ c
  rb : r ≠ b
  rc : r ≠ c
  cb : c ≠ b
  rl : r < base
  bl : b < base
  cl : c < base
/-- The state on the way. -/
structure GS (w0 : World) (r b c base : Nat) (s : ByteArray) (w : World) (x : Tk) (m : Msg) (p : Pl) : Prop where
  t : TkAt w b s x
  z : BoxM w r zeroM nilP
  x : BoxM w c m p
  bel : Below w0.heap.size w0 w
  le : base ≤ w.heap.size
theorem GS.turn {w0 w w' : World} {r b c base : Nat} {s : ByteArray} {x y : Tk} {m : Msg} {p : Pl} (h : GS w0 r b c base s w x m p) (l : At3 w0.heap.size r b c base) (ht : TkAt w' b s y) (hu : Turn b w w') : GS w0 r b c base s w' y m p :=
  ⟨ht, h.z.turn hu l.rb, h.x.turn hu l.cb, h.bel.trans (hu.bel.mono l.b0), Nat.le_trans h.le hu.bel.size⟩
theorem GS.below {w0 w w' : World} {r b c base : Nat} {s : ByteArray} {x : Tk} {m : Msg} {p : Pl} (h : GS w0 r b c base s w x m p) (hb : Below base w w') (l : At3 w0.heap.size r b c base) : GS w0 r b c base s w' x m p :=
  ⟨h.t.below hb l.bl, (hb.block r l.rl).trans h.z, (hb.block c l.cl).trans h.x, h.bel.trans (hb.mono (Nat.le_trans l.r0 (Nat.le_of_lt l.rl))), Nat.le_trans h.le hb.size⟩
theorem GS.set {w0 w : World} {r b c base : Nat} {s : ByteArray} {x : Tk} {m m' : Msg} {p p' : Pl} (h : GS w0 r b c base s w x m p) (l : At3 w0.heap.size r b c base) (j : Nat) (v : Value) (he : (cellsM m p).setIfInBounds j v = cellsM m' p') : GS w0 r b c base s (w.setCell ⟨c, j, none⟩ v) x m' p' :=
  ⟨h.t.set l.cb.symm, h.z.far l.rc, h.x.set j v he, h.bel.setCell l.c0 _, by simp; exact h.le⟩

theorem step_call2 {ops : Array Oper} {o : Oper} {a : Act} {w : World} {K : Act → World → Prop} {Q : Exit → Act → World → Prop} {E : Prop} (hgd : o.guard = none) (f : FuncId) (x y : Operand) (tys : Array TypeId)
    (ho : o.op = .call { callee := .value (.func f), args := #[x, y], argTypes := tys }) (v v' : Value) (hx : a.eval x = v) (hy : a.eval y = v') (hent : ∀ (args : Array Value) (w : World), (callFunc f args).run Tryz.prog w = .ok (.enter f args) w) (R : Value → World → Prop)
    (hC : Calls Tryz.prog f #[v, v'] w fun e w' => ∃ u, e = .returned u ∧ R u w') (h : ∀ u w', R u w' → K (a.put o.dst u) w') :
    if Region.wanted o (yielded ops a.tmps) = true then Oper.wp Tryz.prog o a w K Q else E := by
  have hw : Region.wanted o (yielded ops a.tmps) = true := by simp [Region.wanted, hgd]
  rw [if_pos hw]
  unfold Oper.wp
  have hf : a.eval (.func f) = .func (.func f) #[] #[] := rfl
  simp only [execOp, ho, resolve, invoke, Sem.run_bind, Sem.run_pure, Result.andThen_ok, List.map_toArray, List.map_cons, List.map_nil, hx, hy, hf, Deferred.ofValue, Array.append_empty, Array.empty_append, hent, Oper.upon_enter]
  refine hC.mono ?_
  rintro e w1 ⟨u, rfl, hr⟩
  exact h u w1 hr
theorem entRrs (args : Array Value) (w : World) : (callFunc 25 args).run Tryz.prog w = .ok (.enter 25 args) w := by kernel_rfl
theorem cellsR_ones (r : Rec) : ∀ u ∈ cellsR r, u.oneCell' = true := by
  intro u hu
  simp [cellsR] at hu
  rcases hu with rfl | rfl | rfl | rfl | rfl | rfl | rfl <;> rfl
theorem news_of_recs {w : World} {base g cap : Nat} {r : Rec} (h : Recs w base (.slice (some ⟨g, 0, none⟩) 1 cap) [r]) : ∀ j u, (cellsR r)[j]? = some u → w.cell? ((⟨g, 0, none⟩ : Addr).add j) = some u := by
  intro j u hj
  obtain ⟨g', e, _, hc⟩ := row_cell h (by omega)
  simp only [Option.some.injEq, Addr.mk.injEq, and_true] at e
  subst e
  have hjl := (List.getElem?_eq_some_iff.1 hj).1
  have h7 : (cellsR r).length = 7 := rfl
  rw [addr_add, Nat.zero_add, hc j (by omega)]
  simpa using hj
theorem recs_of {w : World} {base n : Nat} {v : Value} {l L : List Rec} {r : Rec} (h : w.ownsRow base 82 7 v (n + 1) (l.flatMap cellsR ++ cellsR r)) (h1 : L.length = n + 1) (h2 : L.flatMap cellsR = l.flatMap cellsR ++ cellsR r) : Recs w base v L := by
  unfold Recs
  rw [h1, h2]; exact h
set_option maxRecDepth 100000 in
set_option maxHeartbeats 8000000 in
theorem rget_on (s : ByteArray) (w : World) (hs : s.size ≤ 1125899906842624) :
    Calls Tryz.prog 8 #[.string s] w fun e w' => ((((rfD s).1.f || !((rfD s).1.at_ == s.size)) || !mayM (rfM s)) = true → e = .returned (.tuple #[mv zeroM nilP, .int .i64 500])) ∧ ((((rfD s).1.f || !((rfD s).1.at_ == s.size)) || !mayM (rfM s)) = false → ∃ p, e = .returned (.tuple #[mv (rfM s) p, .int .i64 0]) ∧ MsgLies w' (rfM s) p) ∧ Below w.heap.size w w' := by
  have hmay := (rfm_is s).1
  have NUM : Hid (∀ (b : Nat) (x : Tk) (w : World), TkAt w b s x → _) := fun b x w h => dNum_c b s x 2 w (.inr (.inl rfl)) hs h
  have nat : ∀ x : Tk, ∃ n : Nat, (numT s 2 x).1 = n ∧ n < 65536 := fun x => ⟨(numT s 2 x).1.toNat, by have := numT_bd s 2 x; omega, by have := numT_bd s 2 x; omega⟩
  have N1 : Hid (∀ (b : Nat) (w : World), TkAt w b s ⟨0, false⟩ → _) := fun b w h => NUM.out b ⟨0, false⟩ w h
  have N2 : Hid (∀ (b : Nat) (w : World), TkAt w b s (rh1 s).2 → _) := fun b w h => NUM.out b (rh1 s).2 w h
  have N3 : Hid (∀ (b : Nat) (w : World), TkAt w b s (rh2 s).2 → _) := fun b w h => NUM.out b (rh2 s).2 w h
  have N4 : Hid (∀ (b : Nat) (w : World), TkAt w b s (rh3 s).2 → _) := fun b w h => NUM.out b (rh3 s).2 w h
  have N5 : Hid (∀ (b : Nat) (w : World), TkAt w b s (rh4 s).2 → _) := fun b w h => NUM.out b (rh4 s).2 w h
  have N6 : Hid (∀ (b : Nat) (w : World), TkAt w b s (rh5 s).2 → _) := fun b w h => NUM.out b (rh5 s).2 w h
  change Hid (∀ (b : Nat) (w : World), TkAt w b s ⟨0, false⟩ → Calls Tryz.prog 23 #[.pointer (some ⟨b, 0, none⟩), .int .i64 2] w fun e w' => e = .returned (.int .i64 (rh1 s).1) ∧ TkAt w' b s (rh1 s).2 ∧ Turn b w w') at N1
  change Hid (∀ (b : Nat) (w : World), TkAt w b s (rh1 s).2 → Calls Tryz.prog 23 #[.pointer (some ⟨b, 0, none⟩), .int .i64 2] w fun e w' => e = .returned (.int .i64 (rh2 s).1) ∧ TkAt w' b s (rh2 s).2 ∧ Turn b w w') at N2
  change Hid (∀ (b : Nat) (w : World), TkAt w b s (rh2 s).2 → Calls Tryz.prog 23 #[.pointer (some ⟨b, 0, none⟩), .int .i64 2] w fun e w' => e = .returned (.int .i64 (rh3 s).1) ∧ TkAt w' b s (rh3 s).2 ∧ Turn b w w') at N3
  change Hid (∀ (b : Nat) (w : World), TkAt w b s (rh3 s).2 → Calls Tryz.prog 23 #[.pointer (some ⟨b, 0, none⟩), .int .i64 2] w fun e w' => e = .returned (.int .i64 (rh4 s).1) ∧ TkAt w' b s (rh4 s).2 ∧ Turn b w w') at N4
  change Hid (∀ (b : Nat) (w : World), TkAt w b s (rh4 s).2 → Calls Tryz.prog 23 #[.pointer (some ⟨b, 0, none⟩), .int .i64 2] w fun e w' => e = .returned (.int .i64 (rh5 s).1) ∧ TkAt w' b s (rh5 s).2 ∧ Turn b w w') at N5
  change Hid (∀ (b : Nat) (w : World), TkAt w b s (rh5 s).2 → Calls Tryz.prog 23 #[.pointer (some ⟨b, 0, none⟩), .int .i64 2] w fun e w' => e = .returned (.int .i64 (rh6 s).1) ∧ TkAt w' b s (rh6 s).2 ∧ Turn b w w') at N6
  obtain ⟨v2, hv2, v2l⟩ := nat (rh1 s).2
  obtain ⟨v3, hv3, v3l⟩ := nat (rh2 s).2
  obtain ⟨v4, hv4, v4l⟩ := nat (rh3 s).2
  obtain ⟨v5, hv5, v5l⟩ := nat (rh4 s).2
  obtain ⟨v6, hv6, v6l⟩ := nat (rh5 s).2
  change (rh2 s).1 = _ at hv2
  change (rh3 s).1 = _ at hv3
  change (rh4 s).1 = _ at hv4
  change (rh5 s).1 = _ at hv5
  change (rh6 s).1 = _ at hv6
  -- what is to come
  have HQ : Hid (rfQ s = iterK (·.1) (stepRQ s) v3 (rh7 s, [])) := by show _ = _; unfold rfQ; rw [hv3]; rfl
  have HA : Hid (rfA s = iterK (·.1) (stepRR s) v4 ((rfQ s).1, [])) := by show _ = _; unfold rfA; rw [hv4]; rfl
  have HS : Hid (rfS s = iterK (·.1) (stepRR s) v5 ((rfA s).1, [])) := by show _ = _; unfold rfS; rw [hv5]; rfl
  have HD : Hid (rfD s = iterK (·.1) (stepRA s) v6 ((rfS s).1, [], 0)) := by show _ = _; unfold rfD; rw [hv6]; rfl
  have H7 : Hid (rh7 s = ⟨(rh6 s).2.at_, (rh6 s).2.f || !((v2 : Int) / 16 % 16 == 0) || decide (4 < (v3 : Int)) || decide (32 < (v4 : Int)) || decide (32 < (v5 : Int)) || decide (33 < (v6 : Int))⟩) := by show _ = _; unfold rh7 rbad; rw [hv2, hv3, hv4, hv5, hv6]
  have HM : Hid (rfM s = ⟨(rh1 s).1, bit v2 32768, (v2 : Int) / 2048 % 16, bit v2 1024, bit v2 512, bit v2 256, (v2 : Int) % 16, (rfQ s).2, (rfA s).2, (rfS s).2, (rfD s).2.1, (rfD s).2.2⟩) := by show _ = _; unfold rfM; rw [hv2]
  rw [hv2] at N2
  rw [hv3] at N3
  rw [hv4] at N4
  rw [hv5] at N5
  rw [hv6] at N6
  have HMAY : Hid ((rfD s).1.f = false → (∀ q ∈ (rfM s).qs, mayQ q = true) ∧ (rfM s).qs.length ≤ 4 ∧ (∀ r ∈ (rfM s).an, mayR r = true) ∧ (rfM s).an.length ≤ 32 ∧ (∀ r ∈ (rfM s).sv, mayR r = true) ∧ (rfM s).sv.length ≤ 32 ∧ (∀ r ∈ (rfM s).ad, mayR r = true) ∧ (rfM s).ad.length ≤ 33) := hmay
  have NUMX : Hid (∀ (b : Nat) (x y : Tk) (v : Int) (w : World), numT s 2 x = (v, y) → TkAt w b s x → Calls Tryz.prog 23 #[.pointer (some ⟨b, 0, none⟩), .int .i64 2] w fun e w' => e = .returned (.int .i64 v) ∧ TkAt w' b s y ∧ Turn b w w') := fun b x y v w h ht => by
    have := NUM.out b x w ht
    rw [h] at this; exact this
  clear hmay NUM nat hv2 hv3 hv4 hv5 hv6
  generalize (rfM s) = M at *
  generalize (rfD s) = FD at *
  generalize (rfS s) = FS at *
  generalize (rfA s) = FA at *
  generalize (rfQ s) = FQ at *
  generalize (rh7 s) = x7 at *
  generalize (rh6 s).2 = x6 at *
  generalize (rh5 s).2 = x5 at *
  generalize (rh4 s).2 = x4 at *
  generalize (rh3 s).2 = x3 at *
  generalize (rh2 s).2 = x2 at *
  generalize (rh1 s).2 = x1 at *
  generalize (rh1 s).1 = v1 at *
  have A0 := and_240 v2 v2l
  have A1 := and_bit v2 15 32768 v2l (by omega) rfl
  have A2 := and_bit v2 10 1024 v2l (by omega) rfl
  have A3 := and_bit v2 9 512 v2l (by omega) rfl
  have A4 := and_bit v2 8 256 v2l (by omega) rfl
  have A5 : bits .and .i64 ((v2 : Int) / 2048) 15 = (v2 : Int) / 2048 % 16 := i64_mask 4 _ (by omega)
  have A6 : bits .and .i64 (v2 : Int) 15 = (v2 : Int) % 16 := i64_mask 4 _ (by omega)
  generalize bit (v2 : Int) 32768 = B1 at *
  generalize bit (v2 : Int) 1024 = B2 at *
  generalize bit (v2 : Int) 512 = B3 at *
  generalize bit (v2 : Int) 256 = B4 at *
  generalize ((v2 : Int) / 2048 % 16) = B5 at *
  generalize ((v2 : Int) % 16) = B6 at *
  generalize ((v2 : Int) / 16 % 16 == 0) = B0 at *
  have HSZ : Hid (s.size ≤ 1125899906842624) := hs
  obtain ⟨w1, hw1⟩ : ∃ w1, (w.alloc (.cells (cellsM zeroM nilP) 25)).alloc (.cells #[.string s, .int .i64 0, .bool false] 53) = w1 := ⟨_, rfl⟩
  have T1 : Hid (TkAt w1 (w.heap.size + 1) s ⟨0, false⟩) := by
    show TkAt _ _ _ _
    rw [← hw1]
    have hn := heap_alloc_new (w.alloc (.cells (cellsM zeroM nilP) 25)) (.cells #[.string s, .int .i64 0, .bool false] 53)
    have hz : (w.alloc (.cells (cellsM zeroM nilP) 25)).heap.size = w.heap.size + 1 := by simp
    refine ⟨new_at _ _ _ 0 _ _ hz rfl, new_at _ _ _ 1 _ _ hz rfl, new_at _ _ _ 2 _ _ hz rfl, fun j => ?_, by simp, fun _ => ⟨by simp, by simp⟩, by simp, by simp⟩
    rw [hz] at hn
    simp only [World.frozen?, hn]
    simp
  have Z1 : Hid (BoxM w1 w.heap.size zeroM nilP) := by
    show BoxM _ _ _ _
    rw [← hw1]
    exact (BoxM.new w zeroM nilP).below ((Below.refl _ _).alloc (Nat.le_refl _) _)
  have L1 : Hid (Below w.heap.size w w1) := by
    show Below _ _ _
    rw [← hw1]
    exact ((Below.refl _ _).alloc (Nat.le_refl _) _).alloc (by simp) _
  simp only [cellsM, zeroM, nilP, List.length_nil] at hw1
  simp only [mv, cellsM, zeroM, nilP, List.length_nil]
  go_enter Tryz.func8, Tryz.ntmps8
  go_wp2_with fail
  refine (N1.out _ _ T1.out).mono ?_; rintro e w2 ⟨rfl, hT2, hU2⟩
  obtain ⟨r, hr⟩ : ∃ r, w.heap.size = r := ⟨_, rfl⟩
  obtain ⟨b, hb⟩ : ∃ b, w.heap.size + 1 = b := ⟨_, rfl⟩
  obtain ⟨c, hc⟩ : ∃ c, w2.heap.size = c := ⟨_, rfl⟩
  obtain ⟨w3, hw3⟩ : ∃ w3, w2.alloc (.cells #[.int .i64 v1, .bool false, .int .i64 0, .bool false, .bool false, .bool false, .int .i64 0, .slice none 0 0, .slice none 0 0, .slice none 0 0, .slice none 0 0, .int .i64 0] 25) = w3 := ⟨_, rfl⟩
  have hlt : w.heap.size + 1 < w2.heap.size := hT2.lt
  have AT : Hid (At3 w.heap.size r b c (c + 1)) := ⟨by omega, by omega, by omega, by omega, by omega, by omega, by omega, by omega, by omega⟩
  have hA2 : Below w2.heap.size w2 w3 := by rw [← hw3]; exact (Below.refl _ _).alloc (Nat.le_refl _) _
  have G3 : Hid (GS w r b c (c + 1) s w3 x1 ⟨v1, false, 0, false, false, false, 0, [], [], [], [], 0⟩ nilP) := by
    refine ⟨?_, ?_, ?_, ?_, ?_⟩
    · rw [← hb]; exact hT2.below hA2 hT2.lt
    · rw [← hr]; exact (Z1.out.turn hU2 (by omega)).below hA2
    · rw [← hc, ← hw3]; exact BoxM.new w2 ⟨v1, false, 0, false, false, false, 0, [], [], [], [], 0⟩ nilP
    · exact (L1.out.trans (hU2.bel.mono (by omega))).trans (hA2.mono (by omega))
    · rw [← hc, ← hw3]; simp
  have M2 : Hid (∀ w, TkAt w b s x1 → _) := fun w h => N2.out b w h
  have M3 : Hid (∀ w, TkAt w b s x2 → _) := fun w h => N3.out b w h
  have M4 : Hid (∀ w, TkAt w b s x3 → _) := fun w h => N4.out b w h
  have M5 : Hid (∀ w, TkAt w b s x4 → _) := fun w h => N5.out b w h
  have M6 : Hid (∀ w, TkAt w b s x5 → _) := fun w h => N6.out b w h
  have Hb : Hid (w.heap.size + 1 = b) := hb
  have Hr : Hid (w.heap.size = r) := hr
  have Hc : Hid (w2.heap.size = c) := hc
  have Hw3 : Hid (_ = w3) := hw3
  clear N1 N2 N3 N4 N5 N6 hT2 hU2 hA2 T1 Z1 L1 hw1 hb hr hc hw3 hlt
  go_wp2_with fail
  rw [Hw3.out, Hb.out, Hr.out, Hc.out]
  clear Hw3 Hc Hb
  refine (M2.out _ G3.out.t).mono ?_; rintro e w4 ⟨rfl, hT4, hU4⟩
  have G4 : Hid (GS w r b c (c + 1) s w4 x2 _ _) := G3.out.turn AT.out hT4 hU4
  clear hT4 hU4 G3 M2
  have g1 := G4.out.x.cell 1
  have g2 := G4.out.x.cell 2
  have g3 := G4.out.x.cell 3
  have g4 := G4.out.x.cell 4
  have g5 := G4.out.x.cell 5
  have g6 := G4.out.x.cell 6
  simp only [cellsM, List.getElem?_toArray, List.getElem?_cons_zero, List.getElem?_cons_succ] at g1 g2 g3 g4 g5 g6
  have f1 := G4.out.x.fz 1
  have f2 := G4.out.x.fz 2
  have f3 := G4.out.x.fz 3
  have f4 := G4.out.x.fz 4
  have f5 := G4.out.x.fz 5
  have f6 := G4.out.x.fz 6
  obtain ⟨w5, hw5⟩ : ∃ w5, (((((w4.setCell ⟨c, 1, none⟩ (.bool B1)).setCell ⟨c, 2, none⟩ (.int .i64 B5)).setCell ⟨c, 3, none⟩ (.bool B2)).setCell ⟨c, 4, none⟩ (.bool B3)).setCell ⟨c, 5, none⟩ (.bool B4)).setCell ⟨c, 6, none⟩ (.int .i64 B6) = w5 := ⟨_, rfl⟩
  have G5 : Hid (GS w r b c (c + 1) s w5 x2 ⟨v1, B1, B5, B2, B3, B4, B6, [], [], [], [], 0⟩ nilP) := by
    show GS _ _ _ _ _ _ _ _ _ _
    rw [← hw5]
    have l := AT.out
    have h1 := G4.out.set l (m' := ⟨v1, B1, 0, false, false, false, 0, [], [], [], [], 0⟩) (p' := nilP) 1 (.bool B1) rfl
    have h2 := h1.set l (m' := ⟨v1, B1, B5, false, false, false, 0, [], [], [], [], 0⟩) (p' := nilP) 2 (.int .i64 B5) rfl
    have h3 := h2.set l (m' := ⟨v1, B1, B5, B2, false, false, 0, [], [], [], [], 0⟩) (p' := nilP) 3 (.bool B2) rfl
    have h4 := h3.set l (m' := ⟨v1, B1, B5, B2, B3, false, 0, [], [], [], [], 0⟩) (p' := nilP) 4 (.bool B3) rfl
    have h5 := h4.set l (m' := ⟨v1, B1, B5, B2, B3, B4, 0, [], [], [], [], 0⟩) (p' := nilP) 5 (.bool B4) rfl
    exact h5.set l (m' := ⟨v1, B1, B5, B2, B3, B4, B6, [], [], [], [], 0⟩) (p' := nilP) 6 (.int .i64 B6) rfl
  clear G4
  go_wp2_with fail
  clear f1 f2 f3 f4 f5 f6 g1 g2 g3 g4 g5 g6 hw5
  refine (M3.out _ G5.out.t).mono ?_; rintro e w6 ⟨rfl, hT6, hU6⟩
  have G6 : Hid (GS w r b c (c + 1) s w6 x3 _ _) := G5.out.turn AT.out hT6 hU6
  clear hT6 hU6 G5 M3
  go_wp2_with fail
  refine (M4.out _ G6.out.t).mono ?_; rintro e w7 ⟨rfl, hT7, hU7⟩
  have G7 : Hid (GS w r b c (c + 1) s w7 x4 _ _) := G6.out.turn AT.out hT7 hU7
  clear hT7 hU7 G6 M4
  go_wp2_with fail
  refine (M5.out _ G7.out.t).mono ?_; rintro e w8 ⟨rfl, hT8, hU8⟩
  have G8 : Hid (GS w r b c (c + 1) s w8 x5 _ _) := G7.out.turn AT.out hT8 hU8
  clear hT8 hU8 G7 M5
  go_wp2_with fail
  refine (M6.out _ G8.out.t).mono ?_; rintro e w9 ⟨rfl, hT9, hU9⟩
  have G9 : Hid (GS w r b c (c + 1) s w9 x6 ⟨v1, B1, B5, B2, B3, B4, B6, [], [], [], [], 0⟩ nilP) := G8.out.turn AT.out hT9 hU9
  clear hT9 hU9 G8 M6 A1 A2 A3 A4 A5 A6
  have t2 := G9.out.t.c2
  have f2 := G9.out.t.fz 2
  go_upto_region 11 with fail
  go_cut [] from 59 to 86 (fun wx => wx = w9.setCell ⟨b, 2, none⟩ (.bool x7.f))
  case first =>
    have h7 := congrArg Tk.f H7.out
    simp only at h7
    have H7' : Hid (x7.f = _) := h7
    generalize x7.f = X at *
    clear h7 H7 HQ HM HMAY
    cases hx6 : x6.f with
    | true =>
      rw [hx6] at t2
      have e := H7'.out
      rw [hx6] at e
      simp only [Bool.true_or] at e
      subst e
      go_wp2_with fail
      go_meet
      rfl
    | false =>
      rw [hx6] at t2
      have e := H7'.out
      rw [hx6, Bool.false_or] at e
      cases B0 with
      | false =>
        simp only [Bool.not_false, Bool.true_or] at e
        subst e
        go_wp2_with fail
        go_meet
        rfl
      | true =>
        simp only [Bool.not_true, Bool.false_or] at e A0
        cases d3 : decide (4 < (v3 : Int)) with
        | true =>
          rw [d3] at e
          simp only [Bool.true_or] at e
          subst e
          go_wp2_with fail
          go_meet
          rfl
        | false =>
          rw [d3, Bool.false_or] at e
          cases d4 : decide (32 < (v4 : Int)) with
          | true =>
            rw [d4] at e
            simp only [Bool.true_or] at e
            subst e
            go_wp2_with fail
            go_meet
            rfl
          | false =>
            rw [d4, Bool.false_or] at e
            cases d5 : decide (32 < (v5 : Int)) with
            | true =>
              rw [d5] at e
              simp only [Bool.true_or] at e
              subst e
              go_wp2_with fail
              go_meet
              rfl
            | false =>
              rw [d5, Bool.false_or] at e
              go_wp2_with fail
              go_meet
              rw [e]
  case rest =>
  obtain rfl := hcut
  have hx7 : ({ x6 with f := x7.f } : Tk) = x7 := by
    have := congrArg Tk.at_ H7.out
    simp only at this
    cases x7; simp only at this; subst this; rfl
  have hx7f : x7.f = false → x6.f = false := fun h => by
    have h7 := congrArg Tk.f H7.out
    simp only at h7
    rw [h] at h7
    cases h6 : x6.f with
    | false => rfl
    | true => rw [h6] at h7; simp at h7
  have G10 : Hid (GS w r b c (c + 1) s (w9.setCell ⟨b, 2, none⟩ (.bool x7.f)) x7 ⟨v1, B1, B5, B2, B3, B4, B6, [], [], [], [], 0⟩ nilP) := by
    have hT := G9.out.t.set2 x7.f (fun h => G9.out.t.rg (hx7f h))
    rw [hx7] at hT
    exact G9.out.turn AT.out hT (Turn.set _ 2 _)
  clear G9 t2 f2 hx7 hx7f H7 A0 v2l
  generalize w9.setCell ⟨b, 2, none⟩ (.bool x7.f) = w10 at *
  go_upto_block 0 with fail
  go_cut [11, 12, 13, 14, 15] from 87 to 139 (fun _ _ _ _ _ wx => ∃ (a : Option Addr) (cap : Nat), Hid (GS w r b c (c + 1) s wx FQ.1 ⟨v1, B1, B5, B2, B3, B4, B6, FQ.2, [], [], [], 0⟩ ⟨a, cap, none, 0, none, 0, none, 0⟩) ∧ Hid (Ques wx (c + 1) (.slice a FQ.2.length cap) FQ.2))
  case first =>
    go_wp2_with fail
    obtain ⟨i0, hi, hz0, hz1, hz2⟩ := info_parts Tryz.infoQn
    go_loopw [11] (fun i wr => ∃ (j : Nat) (a : Option Addr) (cap : Nat) (l : List Qn) (y : Tk), j ≤ v3 ∧ i = .int .i64 j ∧ l.length ≤ j ∧ Hid (GS w r b c (c + 1) s wr y ⟨v1, B1, B5, B2, B3, B4, B6, l, [], [], [], 0⟩ ⟨a, cap, none, 0, none, 0, none, 0⟩) ∧ Hid (Ques wr (c + 1) (.slice a l.length cap) l) ∧ Hid (iterK (·.1) (stepRQ s) (v3 - j) (y, l) = FQ)) (fun i _ => v3 - (intOf i).toNat)
    case atStart => exact ⟨0, none, 0, [], x7, Nat.zero_le _, rfl, by simp, G10, World.ownsRow_nil _ _ _ _, by rw [Nat.sub_zero]; exact HQ.out.symm⟩
    case round =>
      obtain ⟨j, a, cap, l, y, hj, rfl, hlj, hG, hO, hI⟩ := hrel
      have c2 := hG.out.t.c2
      clear G10 HQ HM HMAY HA HS HD
      by_cases hlt : j < v3
      · cases hf : y.f with
        | true =>
          rw [hf] at c2
          have HE : Hid ((y, l) = FQ) := by
            show _ = _
            rw [← hI.out, iterK_f (tk := (·.1)) (st := (y, l)) hf]
          clear hI
          go_wp2_with fail
          go_meet
          rw [← HE.out]
          exact ⟨a, cap, hG, hO⟩
        | false =>
          rw [hf] at c2
          have rg := hG.out.t.rg hf
          obtain ⟨n, hn⟩ : ∃ n : Nat, y.at_ = n := ⟨y.at_.toNat, by omega⟩
          obtain rfl : y = ⟨n, false⟩ := by cases y; simp only at hn hf; rw [hn, hf]
          have c0 := hG.out.t.c0
          have c1 := hG.out.t.c1
          have HN : Hid (∀ w, _) := fun w => rget_from s n w hs
          simp only [told] at HN
          obtain ⟨NM, tO, er, hg⟩ : ∃ NM tO er, getL (bs s) n = (NM, tO, er) := ⟨_, _, _, rfl⟩
          have hto : 0 ≤ tO ∧ tO ≤ s.size := by have := get_nx hg; rwa [length_bs] at this
          rw [hg] at HN
          have e0 : refQ0 s ⟨(n : Int), false⟩ = ⟨tO, er != 0⟩ := by simp [refQ0, hg]
          obtain ⟨q1, z1, h1⟩ : ∃ q1 z1, refQ1 s ⟨(n : Int), false⟩ = (q1, z1) := ⟨_, _, rfl⟩
          obtain ⟨q2, z2, h2⟩ : ∃ q2 z2, refQ2 s ⟨(n : Int), false⟩ = (q2, z2) := ⟨_, _, rfl⟩
          have HQ1 : Hid (∀ w, TkAt w b s ⟨tO, er != 0⟩ → _) := fun w h => NUMX.out b ⟨tO, er != 0⟩ z1 q1 w (by rw [← e0]; exact h1) h
          have HQ2 : Hid (∀ w, TkAt w b s z1 → _) := fun w h => NUMX.out b z1 z2 q2 w (by unfold refQ2 at h2; rw [h1] at h2; exact h2) h
          have hst : Hid (iterK (·.1) (stepRQ s) (v3 - (j + 1)) (⟨z2.at_, q2 != 1 || z2.f⟩, l ++ [⟨mk NM, q1⟩]) = FQ) := by
            show _ = _
            have := hI.out
            rw [show v3 - j = v3 - (j + 1) + 1 by omega, iterK] at this
            simp only [Bool.false_eq_true, if_false, stepRQ, refQ3, refQn, h1, h2, hg, Int.toNat_natCast] at this
            exact this
          clear hg e0 h1 h2 hI NUMX hn hf rg
          generalize mk NM = N at *
          rename World => wr
          go_wp2_with fail
          refine (HN.out _).mono ?_; rintro e wa ⟨rfl, hba⟩
          have Ga : Hid (GS w r b c (c + 1) s wa ⟨n, false⟩ ⟨v1, B1, B5, B2, B3, B4, B6, l, [], [], [], 0⟩ ⟨a, cap, none, 0, none, 0, none, 0⟩) := hG.out.below (hba.mono hG.out.le) AT.out
          have Oa : Hid (Ques wa (c + 1) (.slice a l.length cap) l) := row_below hO.out hba
          clear hba hG hO c0 c1 c2 HN
          have d1 := Ga.out.t.c1
          have d2 := Ga.out.t.c2
          have f1 := Ga.out.t.fz 1
          have f2 := Ga.out.t.fz 2
          obtain ⟨wb, hwb⟩ : ∃ wb, (wa.setCell ⟨b, 2, none⟩ (.bool (er != 0))).setCell ⟨b, 1, none⟩ (.int .i64 tO) = wb := ⟨_, rfl⟩
          have Tb : Hid (TkAt wb b s ⟨tO, er != 0⟩) := by
            show TkAt _ _ _ _
            rw [← hwb]; exact Ga.out.t.put rfl ⟨tO, er != 0⟩ (fun _ => hto) ⟨by simp only; omega, by simp only; omega⟩
          have Gb : Hid (GS w r b c (c + 1) s wb ⟨tO, er != 0⟩ ⟨v1, B1, B5, B2, B3, B4, B6, l, [], [], [], 0⟩ ⟨a, cap, none, 0, none, 0, none, 0⟩) := by
            refine Ga.out.turn AT.out Tb.out ?_
            rw [← hwb]; exact (Turn.set _ 2 _).trans (Turn.set _ 1 _)
          have Ob : Hid (Ques wb (c + 1) (.slice a l.length cap) l) := by
            show World.ownsRow _ _ _ _ _ _ _
            rw [← hwb]; exact row_set (row_set Oa.out AT.out.bl) AT.out.bl
          clear Ga Oa
          go_wp2_with fail
          refine (HQ1.out _ Tb.out).mono ?_; rintro e wc ⟨rfl, hTc, hUc⟩
          have Gc : Hid (GS w r b c (c + 1) s wc z1 ⟨v1, B1, B5, B2, B3, B4, B6, l, [], [], [], 0⟩ ⟨a, cap, none, 0, none, 0, none, 0⟩) := Gb.out.turn AT.out hTc hUc
          have Oc : Hid (Ques wc (c + 1) (.slice a l.length cap) l) := row_turn Ob.out hUc AT.out.bl
          clear hTc hUc Gb Ob Tb HQ1 hwb d1 d2 f1 f2
          go_upto_region 19 with fail
          have hAc : Below wc.heap.size wc (wc.alloc (.cells #[.string N, .int .i64 q1] 59)) := (Below.refl _ _).alloc (Nat.le_refl _) _
          have Gd : Hid (GS w r b c (c + 1) s (wc.alloc (.cells #[.string N, .int .i64 q1] 59)) z1 ⟨v1, B1, B5, B2, B3, B4, B6, l, [], [], [], 0⟩ ⟨a, cap, none, 0, none, 0, none, 0⟩) := Gc.out.below (hAc.mono Gc.out.le) AT.out
          have Od : Hid (Ques (wc.alloc (.cells #[.string N, .int .i64 q1] 59)) (c + 1) (.slice a l.length cap) l) := row_below Oc.out hAc
          have Dd : Hid ((wc.alloc (.cells #[.string N, .int .i64 q1] 59)).heap[wc.heap.size]? = some (.cells #[.string N, .int .i64 q1] 59 (0, 0))) := heap_alloc_new wc _
          have hdb : ¬ wc.heap.size = b := by have := Gc.out.le; have := AT.out.bl; omega
          have hdc : c + 1 ≤ wc.heap.size := Gc.out.le
          clear hAc Gc Oc
          generalize wc.alloc (.cells #[.string N, .int .i64 q1] 59) = wd at *
          generalize wc.heap.size = d at *
          go_cut [] from 87 to 139 (fun wx => Hid (GS w r b c (c + 1) s wx ⟨z2.at_, q2 != 1 || z2.f⟩ ⟨v1, B1, B5, B2, B3, B4, B6, l, [], [], [], 0⟩ ⟨a, cap, none, 0, none, 0, none, 0⟩) ∧ Hid (Ques wx (c + 1) (.slice a l.length cap) l) ∧ Hid (wx.heap[d]? = some (.cells #[.string N, .int .i64 q1] 59 (0, 0))))
          case first =>
            clear hst
            go_wp2_with fail
            refine (HQ2.out _ Gd.out.t).mono ?_; rintro e we ⟨rfl, hTe, hUe⟩
            have Ge : Hid (GS w r b c (c + 1) s we z2 ⟨v1, B1, B5, B2, B3, B4, B6, l, [], [], [], 0⟩ ⟨a, cap, none, 0, none, 0, none, 0⟩) := Gd.out.turn AT.out hTe hUe
            have Oe : Hid (Ques we (c + 1) (.slice a l.length cap) l) := row_turn Od.out hUe AT.out.bl
            have De : Hid (we.heap[d]? = some (.cells #[.string N, .int .i64 q1] 59 (0, 0))) := (hUe.oth d hdb (Array.getElem?_eq_some_iff.1 Dd.out).1).trans Dd.out
            have d2 := Ge.out.t.c2
            have f2 := Ge.out.t.fz 2
            have K : Hid (∀ B, (B = false → z2.f = false) → GS w r b c (c + 1) s (we.setCell ⟨b, 2, none⟩ (.bool B)) ⟨z2.at_, B⟩ ⟨v1, B1, B5, B2, B3, B4, B6, l, [], [], [], 0⟩ ⟨a, cap, none, 0, none, 0, none, 0⟩ ∧ Ques (we.setCell ⟨b, 2, none⟩ (.bool B)) (c + 1) (.slice a l.length cap) l ∧ (we.setCell ⟨b, 2, none⟩ (.bool B)).heap[d]? = some (.cells #[.string N, .int .i64 q1] 59 (0, 0))) := fun B hB =>
              ⟨Ge.out.turn AT.out (Ge.out.t.set2 B (fun h => Ge.out.t.rg (hB h))) (Turn.set _ 2 _), row_set Oe.out AT.out.bl, (Below.heap_setCell _ _ _ _ hdb).trans De.out⟩
            clear hTe hUe Gd Od Dd Ge Oe De HQ2
            obtain ⟨za, zf⟩ := z2
            simp only at d2 K ⊢
            cases hq2 : (q2 != 1) with
            | true =>
              go_wp2_with fail
              go_meet
              obtain ⟨k1, k2, k3⟩ := K.out true (fun h => by cases h)
              rw [hq2, Bool.true_or]
              exact ⟨k1, k2, k3⟩
            | false =>
              go_wp2_with fail
              go_meet
              obtain ⟨k1, k2, k3⟩ := K.out zf id
              rw [hq2, Bool.false_or]
              exact ⟨k1, k2, k3⟩
          case rest =>
          obtain ⟨Gf, Of, Df⟩ := hcut
          clear Gd Od Dd HQ2
          rename World => wf
          have c7 := Gf.out.x.cell 7
          simp only [cellsM, List.getElem?_toArray, List.getElem?_cons_zero, List.getElem?_cons_succ] at c7
          have k0 : wf.cell? ⟨d, 0, none⟩ = some (.string N) := by have := Df.out; simp only [World.cell?, this]; rfl
          have k1 : wf.cell? ⟨d, 1, none⟩ = some (.int .i64 q1) := by have := Df.out; simp only [World.cell?, this]; rfl
          have hle := Gf.out.le
          have hll : l.length ≤ 65536 := by omega
          have ltd : d < wf.heap.size := (Array.getElem?_eq_some_iff.1 Df.out).1
          have ltc : c < wf.heap.size := Gf.out.x.lt
          have Oo : Hid (wf.ownsRow (c + 1) 59 2 (.slice a l.length cap) l.length (l.flatMap cellsQ)) := Of
          go_wp2_with (first
            | (at_builtin; refine wpList_append_own _ rfl _ _ 22 rfl (c + 1) 59 i0 (.agg #[.string ByteArray.empty, .int .i64 0]) 2 24 Tryz.underlying22 hi hz0 hz1 hz2 rfl (by decide) _ l.length (l.flatMap cellsQ) rfl (World.ownsRow.alloc Oo.out _) ⟨wf.heap.size, 0, none⟩ 1 1 [.string N, .int .i64 q1] rfl rfl ?e1 ?e2 ?e3 ?e4 ?e5 ?_)
            | fail)
          case e1 =>
            intro j u hj
            match j, hj with
            | 0, hj => simp at hj; subst hj; exact new_at _ _ _ 0 _ _ rfl rfl
            | 1, hj => simp at hj; subst hj; exact new_at _ _ _ 1 _ _ rfl rfl
          case e2 => intro u hu; simp at hu; rcases hu with rfl | rfl <;> rfl
          case e3 => unfold maxLen; omega
          case e4 => omega
          case e5 => first | omega | (simp; omega)
          intro v8 w8 hown8 hgrow8 _
          have R8 : Ques w8 (c + 1) v8 (l ++ [⟨N, q1⟩]) := by
            show w8.ownsRow _ _ _ _ _ _
            simpa [cellsQ] using hown8
          have hL8' : (l ++ [(⟨N, q1⟩ : Qn)]).length ≤ j + 1 := by simp; omega
          generalize l ++ [(⟨N, q1⟩ : Qn)] = L8 at *
          obtain ⟨a8, cap8, rfl⟩ := row_form R8
          have B8 : Below (c + 1) wf w8 := ((Below.refl _ _).alloc hle _).grown hgrow8 (by simp; omega) (fun k hk => (World.ownsRow.lt Oo.out k hk).1)
          have G8 := Gf.out.below B8 AT.out
          have f7 := G8.x.fz 7
          have j7 := G8.x.cell 7
          simp only [cellsM, List.getElem?_toArray, List.getElem?_cons_zero, List.getElem?_cons_succ] at j7
          have G9 : Hid (GS w r b c (c + 1) s (w8.setCell ⟨c, 7, none⟩ (.slice a8 L8.length cap8)) ⟨z2.at_, q2 != 1 || z2.f⟩ ⟨v1, B1, B5, B2, B3, B4, B6, L8, [], [], [], 0⟩ ⟨a8, cap8, none, 0, none, 0, none, 0⟩) := G8.set AT.out 7 _ rfl
          have R9 : Hid (Ques (w8.setCell ⟨c, 7, none⟩ (.slice a8 L8.length cap8)) (c + 1) (.slice a8 L8.length cap8) L8) := row_set R8 AT.out.cl
          clear hown8 hgrow8 R8 B8 G8 Gf Of Df Oo k0 k1 c7
          go_wp2
          go_roundw
          case rel => exact ⟨j + 1, a8, cap8, L8, ⟨z2.at_, q2 != 1 || z2.f⟩, by omega, by go_num, hL8', G9, R9, hst⟩
          case measure => simp [intOf]; omega
      · obtain rfl : j = v3 := by omega
        have HE : Hid ((y, l) = FQ) := by
          show _ = _
          have := hI.out
          rw [Nat.sub_self] at this; exact this
        clear hI
        go_wp2_with fail
        go_meet
        rw [← HE.out]
        exact ⟨a, cap, hG, hO⟩
  case rest =>
  obtain ⟨qa, qc, GQ, OQ⟩ := hcut
  rename World => wq
  clear HQ G10
  obtain ⟨yq, lq⟩ := FQ
  simp only at GQ OQ HA HM
  have HR1 : Hid (∀ w, TkAt w b s yq → _) := fun w h => dRrs_c b s yq v4 w hs h (by omega)
  have HR1' : Hid (∀ w, TkAt w b s yq → Calls Tryz.prog 25 #[.pointer (some ⟨b, 0, none⟩), .int .i64 v4] w fun e w' => ∃ a cap, e = .returned (.slice a FA.2.length cap) ∧ Recs w' w.heap.size (.slice a FA.2.length cap) FA.2 ∧ TkAt w' b s FA.1 ∧ Turn b w w') := fun w h => by
    have := HR1.out w h
    rw [← HA.out] at this; exact this
  clear HR1 HA
  obtain ⟨ya, la⟩ := FA
  simp only at HR1' HS HM
  have HR2 : Hid (∀ w, TkAt w b s ya → _) := fun w h => dRrs_c b s ya v5 w hs h (by omega)
  have HR2' : Hid (∀ w, TkAt w b s ya → Calls Tryz.prog 25 #[.pointer (some ⟨b, 0, none⟩), .int .i64 v5] w fun e w' => ∃ a cap, e = .returned (.slice a FS.2.length cap) ∧ Recs w' w.heap.size (.slice a FS.2.length cap) FS.2 ∧ TkAt w' b s FS.1 ∧ Turn b w w') := fun w h => by
    have := HR2.out w h
    rw [← HS.out] at this; exact this
  clear HR2 HS
  obtain ⟨ys, ls⟩ := FS
  simp only at HR2' HD HM
  go_wp2_with fail
  refine (HR1'.out _ GQ.out.t).mono ?_; rintro e wa ⟨aa, ac, rfl, hR, hT, hU⟩
  have g := GQ.out.turn AT.out hT hU
  have c8 := g.x.cell 8
  simp only [cellsM, List.getElem?_toArray, List.getElem?_cons_zero, List.getElem?_cons_succ] at c8
  have f8 := g.x.fz 8
  have GA : Hid (GS w r b c (c + 1) s (wa.setCell ⟨c, 8, none⟩ (.slice aa la.length ac)) ya ⟨v1, B1, B5, B2, B3, B4, B6, lq, la, [], [], 0⟩ ⟨qa, qc, aa, ac, none, 0, none, 0⟩) := g.set AT.out 8 _ rfl
  have OA : Hid (Recs (wa.setCell ⟨c, 8, none⟩ (.slice aa la.length ac)) (c + 1) (.slice aa la.length ac) la) := row_set (row_base hR GQ.out.le) AT.out.cl
  have OQ2 : Hid (Ques (wa.setCell ⟨c, 8, none⟩ (.slice aa la.length ac)) (c + 1) (.slice qa lq.length qc) lq) := row_set (row_turn OQ.out hU AT.out.bl) AT.out.cl
  clear hR hT hU g GQ OQ HR1'
  go_wp2_with fail
  generalize wa.setCell ⟨c, 8, none⟩ (.slice aa la.length ac) = wa2 at *
  clear c8 f8
  refine (HR2'.out _ GA.out.t).mono ?_; rintro e wb ⟨sa, sc, rfl, hR, hT, hU⟩
  have g := GA.out.turn AT.out hT hU
  have c9 := g.x.cell 9
  simp only [cellsM, List.getElem?_toArray, List.getElem?_cons_zero, List.getElem?_cons_succ] at c9
  have f9 := g.x.fz 9
  have GB : Hid (GS w r b c (c + 1) s (wb.setCell ⟨c, 9, none⟩ (.slice sa ls.length sc)) ys ⟨v1, B1, B5, B2, B3, B4, B6, lq, la, ls, [], 0⟩ ⟨qa, qc, aa, ac, sa, sc, none, 0⟩) := g.set AT.out 9 _ rfl
  have OS : Hid (Recs (wb.setCell ⟨c, 9, none⟩ (.slice sa ls.length sc)) (c + 1) (.slice sa ls.length sc) ls) := row_set (row_base hR GA.out.le) AT.out.cl
  have OA2 : Hid (Recs (wb.setCell ⟨c, 9, none⟩ (.slice sa ls.length sc)) (c + 1) (.slice aa la.length ac) la) := row_set (row_turn OA.out hU AT.out.bl) AT.out.cl
  have OQ3 : Hid (Ques (wb.setCell ⟨c, 9, none⟩ (.slice sa ls.length sc)) (c + 1) (.slice qa lq.length qc) lq) := row_set (row_turn OQ2.out hU AT.out.bl) AT.out.cl
  clear hR hT hU g GA OA OQ2 HR2'
  go_upto_block 2 with fail
  generalize wb.setCell ⟨c, 9, none⟩ (.slice sa ls.length sc) = w12 at *
  have hw12 : Hid (c + 1 ≤ w12.heap.size) := GB.out.le
  clear c9 f9
  go_cut [16, 17, 18, 19] from 148 to 183 (fun _ _ _ _ wx => ∃ (a : Option Addr) (cap : Nat), Hid (GS w r b c (c + 1) s wx FD.1 ⟨v1, B1, B5, B2, B3, B4, B6, lq, la, ls, FD.2.1, FD.2.2⟩ ⟨qa, qc, aa, ac, sa, sc, a, cap⟩) ∧ Hid (Recs wx w12.heap.size (.slice a FD.2.1.length cap) FD.2.1) ∧ Hid (Fr b c w12.heap.size w12 wx))
  case first =>
    go_wp2_with fail
    obtain ⟨i0, hi, hz0, hz1, hz2⟩ := info_parts Tryz.infoRR
    have hbd : c + 1 ≤ w12.heap.size := GB.out.le
    have hcd : c < w12.heap.size := hbd
    have hbl : b < w12.heap.size := by have := AT.out.bl; omega
    have hcb := AT.out.cb
    have hbc : ¬ b = c := fun e => hcb e.symm
    clear OQ3 OA2 OS HM HMAY
    go_loopw [16] (fun i wr => ∃ (j : Nat) (a : Option Addr) (cap : Nat) (l : List Rec) (z : Int) (y : Tk), j ≤ v6 ∧ i = .int .i64 j ∧ l.length ≤ j ∧ Hid (GS w r b c (c + 1) s wr y ⟨v1, B1, B5, B2, B3, B4, B6, lq, la, ls, l, z⟩ ⟨qa, qc, aa, ac, sa, sc, a, cap⟩) ∧ Hid (Recs wr w12.heap.size (.slice a l.length cap) l) ∧ Hid (Fr b c w12.heap.size w12 wr) ∧ Hid (iterK (·.1) (stepRA s) (v6 - j) (y, l, z) = FD)) (fun i _ => v6 - (intOf i).toNat)
    case atStart => exact ⟨0, none, 0, [], 0, ys, Nat.zero_le _, rfl, by simp, GB, World.ownsRow_nil _ _ _ _, Fr.refl _ _ _ _, by rw [Nat.sub_zero]; exact HD.out.symm⟩
    case round =>
      obtain ⟨j, a, cap, l, z, y, hj, rfl, hlj, hG, hO, hF, hI⟩ := hrel
      have c2 := hG.out.t.c2
      clear GB HD
      by_cases hlt : j < v6
      · cases hf : y.f with
        | true =>
          rw [hf] at c2
          have HE : Hid ((y, l, z) = FD) := by
            show _ = _
            rw [← hI.out, iterK_f (tk := (·.1)) (st := (y, l, z)) hf]
          clear hI
          go_wp2_with fail
          go_meet
          rw [← HE.out]
          exact ⟨a, cap, hG, hO, hF⟩
        | false =>
          rw [hf] at c2
          have rg := hG.out.t.rg hf
          obtain ⟨n, hn⟩ : ∃ n : Nat, y.at_ = n := ⟨y.at_.toNat, by omega⟩
          obtain rfl : y = ⟨n, false⟩ := by cases y; simp only at hn hf; rw [hn, hf]
          have HP : Hid (∀ w, TkAt w b s ⟨(n : Int), false⟩ → _) := fun w h => dOpt_c b s n w hs h
          have hst : Hid (iterK (·.1) (stepRA s) (v6 - (j + 1)) (stepRA s (⟨(n : Int), false⟩, l, z)) = FD) := by
            show _ = _
            have := hI.out
            rw [show v6 - j = v6 - (j + 1) + 1 by omega, iterK] at this
            simp only [Bool.false_eq_true, if_false] at this
            exact this
          rename World => wr
          go_wp2_with fail
          refine (HP.out _ hG.out.t).mono ?_; rintro e wa ⟨rfl, hba⟩
          have Ga : Hid (GS w r b c (c + 1) s wa ⟨n, false⟩ ⟨v1, B1, B5, B2, B3, B4, B6, lq, la, ls, l, z⟩ ⟨qa, qc, aa, ac, sa, sc, a, cap⟩) := hG.out.below (hba.mono hG.out.le) AT.out
          have Oa : Hid (Recs wa w12.heap.size (.slice a l.length cap) l) := row_below hO.out hba
          have Fa : Hid (Fr b c w12.heap.size w12 wa) := hF.out.trans (Fr.of_below (hba.mono hF.out.size))
          clear hba hG hO hF HP c2 hI
          have c11 := Ga.out.x.cell 11
          simp only [cellsM, List.getElem?_toArray, List.getElem?_cons_zero, List.getElem?_cons_succ] at c11
          cases ho : (if z = 0 then optAt s n else none) with
          | some q =>
            obtain ⟨z', e'⟩ := q
            have hz : z = 0 := by
              by_cases h : z = 0
              · exact h
              · rw [if_neg h] at ho; cases ho
            subst hz
            rw [if_pos rfl] at ho
            have hV : optV s n = (z', (e' : Int), true) := by unfold optV; rw [ho]
            have he' : e' ≤ s.size := by
              unfold optAt at ho
              split at ho
              · rename_i hh
                simp only [Option.some.injEq, Prod.mk.injEq] at ho
                have := hh.2.2.2.2
                have := num_bd s ((getL (bs s) n).2.1.toNat + 8) 2
                omega
              · cases ho
            have hst2 : Hid (iterK (·.1) (stepRA s) (v6 - (j + 1)) (⟨(e' : Int), false⟩, l, z') = FD) := by
              show _ = _
              have := hst.out
              simp only [stepRA, Int.toNat_natCast, if_true, ho] at this
              exact this
            rw [hV]
            simp only
            have f11 := Ga.out.x.fz 11
            have g1 := (Ga.out.set AT.out (m' := ⟨v1, B1, B5, B2, B3, B4, B6, lq, la, ls, l, z'⟩) (p' := ⟨qa, qc, aa, ac, sa, sc, a, cap⟩) 11 (.int .i64 z') rfl)
            have d1 := g1.t.c1
            have fb1 := g1.t.fz 1
            simp only at d1
            have g2 : Hid (GS w r b c (c + 1) s ((wa.setCell ⟨c, 11, none⟩ (.int .i64 z')).setCell ⟨b, 1, none⟩ (.int .i64 e')) ⟨(e' : Int), false⟩ ⟨v1, B1, B5, B2, B3, B4, B6, lq, la, ls, l, z'⟩ ⟨qa, qc, aa, ac, sa, sc, a, cap⟩) :=
              g1.turn AT.out (g1.t.set1 (e' : Int) (fun _ => ⟨by omega, by omega⟩) ⟨by omega, by omega⟩) (Turn.set _ 1 _)
            have o2 : Hid (Recs ((wa.setCell ⟨c, 11, none⟩ (.int .i64 z')).setCell ⟨b, 1, none⟩ (.int .i64 e')) w12.heap.size (.slice a l.length cap) l) := row_set (row_set Oa.out hcd) hbl
            have F2 : Hid (Fr b c w12.heap.size w12 ((wa.setCell ⟨c, 11, none⟩ (.int .i64 z')).setCell ⟨b, 1, none⟩ (.int .i64 e'))) := (Fa.out.trans Fr.set).trans ⟨rfl, rfl, rfl, by simp, fun k _ hk _ => Below.heap_setCell _ _ _ _ hk⟩
            clear Ga Oa Fa hV ho hst he' g1
            go_wp2
            go_roundw
            case rel => exact ⟨j + 1, a, cap, l, z', ⟨(e' : Int), false⟩, by omega, by go_num, by omega, g2, o2, F2, hst2⟩
            case measure => simp [intOf]; omega
          | none =>
            have hcond : (optV s n).2.2 = false ∨ ((optV s n).2.2 = true ∧ (z == 0) = false) := by
              by_cases hz : z = 0
              · rw [if_pos hz] at ho
                left; unfold optV; rw [ho]
              · have hz' : (z == 0) = false := by simpa using hz
                cases h3 : (optV s n).2.2 with
                | false => exact .inl rfl
                | true => exact .inr ⟨rfl, hz'⟩
            obtain ⟨y1, r1, hr1⟩ : ∃ y1 r1, refR s ⟨(n : Int), false⟩ = (y1, r1) := ⟨_, _, rfl⟩
            have hst2 : Hid (iterK (·.1) (stepRA s) (v6 - (j + 1)) (y1, l ++ [r1], z) = FD) := by
              show _ = _
              have := hst.out
              simp only [stepRA, Int.toNat_natCast, ho, hr1] at this
              exact this
            have HR : Hid (∀ w, TkAt w b s ⟨(n : Int), false⟩ → Calls Tryz.prog 25 #[.pointer (some ⟨b, 0, none⟩), .int .i64 1] w fun e w' => ∃ u, e = .returned u ∧ (∃ g1 cap1, u = .slice (some ⟨g1, 0, none⟩) 1 cap1 ∧ Recs w' w.heap.size (.slice (some ⟨g1, 0, none⟩) 1 cap1) [r1] ∧ TkAt w' b s y1 ∧ Turn b w w')) := fun w h => by
              have := dRrs_c b s ⟨(n : Int), false⟩ 1 w hs h (by omega)
              simp only [iterK, Bool.false_eq_true, if_false, stepRR, hr1, List.nil_append, List.length_singleton] at this
              refine this.mono fun e w' ⟨a1, cap1, h1, h2, h3, h4⟩ => ?_
              obtain ⟨g1, hg1, _, _⟩ := row_cell h2 (by omega)
              subst hg1
              exact ⟨_, h1, g1, cap1, rfl, h2, h3, h4⟩
            have hL8 : (l ++ [r1]).length = l.length + 1 := by simp
            have hC8 : (l ++ [r1]).flatMap cellsR = l.flatMap cellsR ++ cellsR r1 := by simp
            have hM8 : ∀ (m : Msg), m.ad = l → { m with ad := l ++ [r1] } = { m with ad := l ++ [r1] } := fun _ _ => rfl
            obtain ⟨L8, hL⟩ : ∃ L8, l ++ [r1] = L8 := ⟨_, rfl⟩
            rw [hL] at hL8 hC8 hst2
            clear hM8 hL hst ho hr1
            have c10 := Ga.out.x.cell 10
            simp only [cellsM, List.getElem?_toArray, List.getElem?_cons_zero, List.getElem?_cons_succ] at c10
            have hle := Fa.out.size
            have hll : l.length ≤ 65536 := by omega
            have Oo : Hid (wa.ownsRow w12.heap.size 82 7 (.slice a l.length cap) l.length (l.flatMap cellsR)) := Oa
            have HL8 : Hid (L8.length = l.length + 1) := hL8
            have HC8 : Hid (L8.flatMap cellsR = l.flatMap cellsR ++ cellsR r1) := hC8
            have ltc0 : c < wa.heap.size := by omega
            generalize (optV s n).1 = o1 at *
            generalize (optV s n).2.1 = o2 at *
            generalize (optV s n).2.2 = o3 at *
            clear hL8 hC8 Oa
            rcases hcond with rfl | ⟨rfl, hz⟩
            all_goals
              go_upto_region 30 with fail
              clear c11
              go_region_law (first
                | (refine step_call2 (by rfl) 25 (.tmp 180) (.const (.int .i64 1)) _ (by rfl) _ _ (by rfl) (by rfl) entRrs _ (HR.out _ (drew_tk Ga.out.t)) ?_; rintro u wb ⟨g1, cap1, rfl, hR1, hT1, hU0⟩; have hU1 : Turn b wa wb := dn_turn hU0; have hT1' : Hid (TkAt wb b s y1) := hT1; have G1 : Hid (GS w r b c (c + 1) s wb y1 ⟨v1, B1, B5, B2, B3, B4, B6, lq, la, ls, l, z⟩ ⟨qa, qc, aa, ac, sa, sc, a, cap⟩) := Ga.out.turn AT.out hT1 hU1; have Q1 : Hid (wb.ownsRow w12.heap.size 82 7 (.slice a l.length cap) l.length (l.flatMap cellsR)) := row_turn Oo.out hU1 hbl; have F1 : Hid (Fr b c w12.heap.size w12 wb) := Fa.out.trans (Fr.of_turn hU1 hle); have S1 : Hid (Recs wb (wa.drewN 1).heap.size (.slice (some ⟨g1, 0, none⟩) 1 cap1) [r1]) := hR1; have k10 := (World.cell?_of_block (a := ⟨c, 10, none⟩) (hU1.oth c hcb ltc0)).trans c10; have hle1 : w12.heap.size ≤ wb.heap.size := Nat.le_trans hle hU1.bel.size; clear hR1 hT1 hU0 hU1)
                | (have hQQ := Q1.out; refine step_append_lies _ (by rfl) _ _ _ (by rfl) w12.heap.size 82 i0 _ 7 80 Tryz.underlying23 hi hz0 hz1 hz2 rfl (by omega) (.slice a l.length cap) l.length (l.flatMap cellsR) (by rfl) hQQ ⟨g1, 0, none⟩ 1 cap1 (cellsR r1) (by rfl) (by rfl) (news_of_recs S1.out) (cellsR_ones r1) (by omega) (by unfold maxLen; omega) (by omega) hle1 wb.heap.size rfl ?_; intro g2 cap2 wc hown2 hgrow hat hlt2; have BB : Below w12.heap.size wb wc := (Below.refl _ _).grown hgrow hle1 (fun k hk => (World.ownsRow.lt hQQ k hk).1); have G2 : Hid (GS w r b c (c + 1) s wc y1 ⟨v1, B1, B5, B2, B3, B4, B6, lq, la, ls, l, z⟩ ⟨qa, qc, aa, ac, sa, sc, a, cap⟩) := G1.out.below (BB.mono hbd) AT.out; have F2 : Hid (Fr b c w12.heap.size w12 wc) := F1.out.trans (Fr.of_below BB); have O2 : Hid (Recs wc w12.heap.size (.slice (some ⟨g2, 0, none⟩) (l.length + 1) cap2) L8) := recs_of hown2 HL8.out HC8.out; have f10 := G2.out.x.fz 10; have j10 := (World.cell?_of_block (a := ⟨c, 10, none⟩) (BB.block c hcd)).trans k10; clear hown2 hgrow hat hQQ))
              all_goals
                have G5 : Hid (GS w r b c (c + 1) s (wc.setCell ⟨c, 10, none⟩ (.slice (some ⟨g2, 0, none⟩) (l.length + 1) cap2)) y1 ⟨v1, B1, B5, B2, B3, B4, B6, lq, la, ls, L8, z⟩ ⟨qa, qc, aa, ac, sa, sc, some ⟨g2, 0, none⟩, cap2⟩) := G2.out.set AT.out 10 _ (by simp only [cellsM, HL8.out]; rfl)
                have O5 : Hid (Recs (wc.setCell ⟨c, 10, none⟩ (.slice (some ⟨g2, 0, none⟩) (l.length + 1) cap2)) w12.heap.size (.slice (some ⟨g2, 0, none⟩) L8.length cap2) L8) := by
                  show Recs _ _ _ _
                  rw [HL8.out]; exact row_set O2.out hcd
                have F5 : Hid (Fr b c w12.heap.size w12 (wc.setCell ⟨c, 10, none⟩ (.slice (some ⟨g2, 0, none⟩) (l.length + 1) cap2))) := F2.out.trans Fr.set
                clear Ga Oo Fa HR c10 G1 Q1 F1 S1 k10 G2 F2 O2 hT1' BB
                go_wp2
                go_roundw
                case rel => exact ⟨j + 1, some ⟨g2, 0, none⟩, cap2, L8, z, y1, by omega, by go_num, by rw [HL8.out]; omega, G5, O5, F5, hst2⟩
                case measure => simp [intOf]; omega
      · obtain rfl : j = v6 := by omega
        have HE : Hid ((y, l, z) = FD) := by
          show _ = _
          have := hI.out
          rw [Nat.sub_self] at this; exact this
        clear hI
        go_wp2_with fail
        go_meet
        rw [← HE.out]
        exact ⟨a, cap, hG, hO, hF⟩
  case rest =>
  obtain ⟨da, dc, GD, OD, FD2⟩ := hcut
  rename World => wx
  clear HD GB
  obtain ⟨yd, ld, zd⟩ := FD
  simp only at GD OD HM HMAY
  have R4 : Hid (Rows4 wx (c + 1) M ⟨qa, qc, aa, ac, sa, sc, da, dc⟩) := by
    show Rows4 _ _ _ _
    have hsz : c + 1 ≤ w12.heap.size := by
      have h1 := (Array.getElem?_eq_some_iff.1 GD.out.x).1
      exact hw12.out
    rw [HM.out]
    exact ⟨row_fr OQ3.out FD2.out AT.out.bl AT.out.cl (Nat.le_refl _), row_fr OA2.out FD2.out AT.out.bl AT.out.cl (Nat.le_refl _), row_fr OS.out FD2.out AT.out.bl AT.out.cl (Nat.le_refl _), row_base OD.out hsz⟩
  have G : Hid (GS w r b c (c + 1) s wx yd M ⟨qa, qc, aa, ac, sa, sc, da, dc⟩) := by
    show GS _ _ _ _ _ _ _ _ _ _
    rw [HM.out]; exact GD.out
  clear GD OD FD2 OQ3 OA2 OS HM
  have HB : Hid (yd.f = false → MsgFits M ∧ MsgBulk M 1048576) := fun h => by
    obtain ⟨m1, m2, m3, m4, m5, m6, m7, m8⟩ := HMAY.out h
    have hq : ∀ q ∈ M.qs, q.n.size ≤ 100 := fun q hq => by
      have := m1 q hq
      simp only [mayQ, Bool.and_eq_true] at this
      have := mayL_len this.1
      rw [length_bs] at this
      omega
    exact ⟨⟨fun q h => by have := hq q h; unfold maxLen; omega, fun r h => mayR_fits (m3 r h), fun r h => mayR_fits (m5 r h), fun r h => mayR_fits (m7 r h), by unfold maxLen; omega, by unfold maxLen; omega, by unfold maxLen; omega, by unfold maxLen; omega⟩,
      ⟨fun q h => by have := hq q h; omega, fun r h => mayR_bulk (m3 r h), fun r h => mayR_bulk (m5 r h), fun r h => mayR_bulk (m7 r h), by omega⟩⟩
  have HDM : Hid (yd.f = false → Calls Tryz.prog 12 #[mv M ⟨qa, qc, aa, ac, sa, sc, da, dc⟩] wx fun e w' => e = .returned (.bool (mayM M)) ∧ Below wx.heap.size wx w') := fun h => rDMay_c M _ wx (HB.out h).1 (HB.out h).2 R4.out.lies
  obtain ⟨may, hmay⟩ : ∃ may, mayM M = may := ⟨_, rfl⟩
  have Hmay : Hid (mayM M = may) := hmay
  rw [hmay] at HDM
  clear hmay HB HMAY
  simp only [mv, cellsM] at HDM
  obtain ⟨g0, g1, g2, g3, g4, g5, g6, g7, g8, g9, g10, g11⟩ := G.out.x.all
  have b1 := G.out.t.c1
  have b2 := G.out.t.c2
  obtain ⟨ya, yf⟩ := yd
  simp only at b1 b2 HDM
  go_upto_region 31 with fail
  go_cut [201] from 184 to 200 (fun v201 wy => v201 = .bool ((yf || !(ya == s.size)) || !may) ∧ Hid (Below wx.heap.size wx wy))
  case first =>
    have BX : Hid (Below wx.heap.size wx wx) := Below.refl _ _
    cases yf with
    | true =>
      clear HDM
      go_wp2_with fail
      go_meet
      exact ⟨by simp, BX⟩
    | false =>
      cases he : (ya == (s.size : Int)) with
      | false =>
        have he' : (ya != (s.size : Int)) = true := by simp [bne, he]
        clear HDM
        go_wp2_with fail
        go_meet
        exact ⟨by rw [he]; simp, BX⟩
      | true =>
        have he' : (ya != (s.size : Int)) = false := by simp [bne, he]
        go_wp2_with fail
        refine (HDM.out trivial).mono ?_; rintro e wy ⟨rfl, hby⟩
        have HY : Hid (Below wx.heap.size wx wy) := hby
        clear hby HDM
        go_wp2_with fail
        go_meet
        exact ⟨by rw [he]; simp, HY⟩
  case rest =>
  obtain ⟨rfl, HY⟩ := hcut
  rename World => wy
  have Z : Hid (BoxM wy r zeroM nilP) := G.out.z.below HY.out
  have X : Hid (BoxM wy c M ⟨qa, qc, aa, ac, sa, sc, da, dc⟩) := G.out.x.below HY.out
  have BY : Hid (Below w.heap.size w wy) := G.out.bel.trans (HY.out.mono G.out.bel.size)
  have RY : Hid (Rows4 wy (c + 1) M ⟨qa, qc, aa, ac, sa, sc, da, dc⟩) := R4.out.below HY.out
  have hrl := AT.out.rl
  have hrc := AT.out.rc
  have hr0 := AT.out.r0
  clear G R4 HY g0 g1 g2 g3 g4 g5 g6 g7 g8 g9 g10 g11 b1 b2 HDM
  cases hbad : ((yf || !(ya == (s.size : Int))) || !may) with
  | true =>
    have HBAD : Hid (((yf || !(ya == (s.size : Int))) || !mayM M) = true) := by show _ = _; rw [Hmay.out]; exact hbad
    obtain ⟨r0, r1, r2, r3, r4, r5, r6, r7, r8, r9, r10, r11⟩ := Z.out.all
    simp only [zeroM, nilP, List.length_nil] at r0 r1 r2 r3 r4 r5 r6 r7 r8 r9 r10 r11
    have p0 := Z.out.fz 0
    have p1 := Z.out.fz 1
    have p2 := Z.out.fz 2
    have p3 := Z.out.fz 3
    have p4 := Z.out.fz 4
    have p5 := Z.out.fz 5
    have p6 := Z.out.fz 6
    have p7 := Z.out.fz 7
    have p8 := Z.out.fz 8
    have p9 := Z.out.fz 9
    have p10 := Z.out.fz 10
    have p11 := Z.out.fz 11
    have Q := layM_box Z.out zeroM nilP
    have V0 := layM_below BY.out hr0 zeroM nilP
    obtain ⟨wz, hwz⟩ : ∃ wz, layM wy r zeroM nilP = wz := ⟨_, rfl⟩
    rw [hwz] at Q V0
    have V : Hid (Below w.heap.size w wz) := V0
    obtain ⟨a0, a1, a2, a3, a4, a5, a6, a7, a8, a9, a10, a11⟩ := Q.all
    simp only [layM, zeroM, nilP, List.length_nil] at hwz a0 a1 a2 a3 a4 a5 a6 a7 a8 a9 a10 a11
    clear Z X BY RY Q V0 hbad
    go_upto_region 32 with fail
    go_cut [3] from 202 to 202 (fun ev wt => ev = .int .i64 500 ∧ wz = wt)
    case first =>
      go_wp2_with fail
      go_meet
      exact ⟨rfl, rfl⟩
    case rest =>
    obtain ⟨rfl, rfl⟩ := hcut
    repeat go_step
    refine bodyPost_ret (v := .tuple #[.agg #[.int .i64 0, .bool false, .int .i64 0, .bool false, .bool false, .bool false, .int .i64 0, .slice none 0 0, .slice none 0 0, .slice none 0 0, .slice none 0 0, .int .i64 0], .int .i64 500]) (by simp [results, Tryz.results8, go_sem, a0, a1, a2, a3, a4, a5, a6, a7, a8, a9, a10, a11]) rfl ⟨fun _ => rfl, (fun h => by rw [HBAD.out] at h; cases h), V.out⟩
  | false =>
    have HBAD : Hid (((yf || !(ya == (s.size : Int))) || !mayM M) = false) := by show _ = _; rw [Hmay.out]; exact hbad
    obtain ⟨r0, r1, r2, r3, r4, r5, r6, r7, r8, r9, r10, r11⟩ := Z.out.all
    simp only [zeroM, nilP, List.length_nil] at r0 r1 r2 r3 r4 r5 r6 r7 r8 r9 r10 r11
    have p0 := Z.out.fz 0
    have p1 := Z.out.fz 1
    have p2 := Z.out.fz 2
    have p3 := Z.out.fz 3
    have p4 := Z.out.fz 4
    have p5 := Z.out.fz 5
    have p6 := Z.out.fz 6
    have p7 := Z.out.fz 7
    have p8 := Z.out.fz 8
    have p9 := Z.out.fz 9
    have p10 := Z.out.fz 10
    have p11 := Z.out.fz 11
    obtain ⟨g0, g1, g2, g3, g4, g5, g6, g7, g8, g9, g10, g11⟩ := X.out.all
    have hne : ¬ r = c := hrc
    have hne2 : ¬ c = r := fun e => hrc e.symm
    have Q := layM_box Z.out M ⟨qa, qc, aa, ac, sa, sc, da, dc⟩
    have V0 := layM_below BY.out hr0 M ⟨qa, qc, aa, ac, sa, sc, da, dc⟩
    have W0 : Rows4 (layM wy r M ⟨qa, qc, aa, ac, sa, sc, da, dc⟩) (c + 1) M ⟨qa, qc, aa, ac, sa, sc, da, dc⟩ := RY.out.keep fun g h1 _ => layM_other _ _ _ _ _ (by omega)
    obtain ⟨wz, hwz⟩ : ∃ wz, layM wy r M ⟨qa, qc, aa, ac, sa, sc, da, dc⟩ = wz := ⟨_, rfl⟩
    rw [hwz] at Q V0 W0
    have V : Hid (Below w.heap.size w wz) := V0
    have W : Hid (MsgLies wz M ⟨qa, qc, aa, ac, sa, sc, da, dc⟩) := W0.lies
    obtain ⟨a0, a1, a2, a3, a4, a5, a6, a7, a8, a9, a10, a11⟩ := Q.all
    simp only at a0 a1 a2 a3 a4 a5 a6 a7 a8 a9 a10 a11
    simp only [layM] at hwz
    clear Z X BY RY Q V0 W0 hbad
    go_upto_region 33 with fail
    go_cut [3] from 203 to 203 (fun ev wt => ev = .int .i64 0 ∧ wz = wt)
    case first =>
      go_wp2_with fail
      go_meet
      exact ⟨rfl, rfl⟩
    case rest =>
    obtain ⟨rfl, rfl⟩ := hcut
    repeat go_step
    refine bodyPost_ret (v := .tuple #[.agg #[.int .i64 M.id, .bool M.rsp, .int .i64 M.op, .bool M.au, .bool M.tr, .bool M.re, .int .i64 M.co, .slice qa M.qs.length qc, .slice aa M.an.length ac, .slice sa M.sv.length sc, .slice da M.ad.length dc, .int .i64 M.sz], .int .i64 0]) (by simp [results, Tryz.results8, go_sem, a0, a1, a2, a3, a4, a5, a6, a7, a8, a9, a10, a11]) rfl ⟨(fun h => by rw [HBAD.out] at h; cases h), fun _ => ⟨⟨qa, qc, aa, ac, sa, sc, da, dc⟩, rfl, W.out⟩, V.out⟩

/-- The document's own GetDns, at every text: it answers what getM tells. -/
theorem rGetDns_c (s : ByteArray) (w : World) (hs : s.size ≤ 1125899906842624) :
    Calls Tryz.prog 8 #[.string s] w fun e w' => (match getM s with | none => e = .returned (.tuple #[mv zeroM nilP, .int .i64 500]) | some m => ∃ p, e = .returned (.tuple #[mv m p, .int .i64 0]) ∧ MsgLies w' m p) ∧ Below w.heap.size w w' := by
  rw [(rfm_is s).2]
  refine (rget_on s w hs).mono fun e w' ⟨h1, h2, h3⟩ => ⟨?_, h3⟩
  cases hf : (((rfD s).1.f || !((rfD s).1.at_ == s.size)) || !mayM (rfM s)) with
  | true => simpa [hf] using h1 hf
  | false => simpa [hf] using h2 hf
end Go.Proofs.YtdmooggmoihggaaGreatDoor
