/-
  Contract of the document's own reader of messages: rrs, at every state.
-/
import Derived.Test.YtdmooggmoihggaaGreatDoorDnsRefPlain
import Derived.Test.YtdmooggmoihggaaGreatDoorDnsMsg
import Derived.Test.YtdmooggmoihggaaGreatDoorRrRefGet
import Derived.Deep.RegionHeld3
import Derived.Deep.DeepCutAuto
import Derived.Deep.CutRange
namespace Go.Proofs.YtdmooggmoihggaaGreatDoor
set_option maxRecDepth 100000
open Go.ChangeShapes Go.WideShapes Go.ChangeAt Go.RowKit Go.Pin Go.PlainAid

theorem Turn.then {b : Nat} {w w1 w2 : World} (h : Turn b w w1) (hb : Below w.heap.size w1 w2) (hl : b < w.heap.size) : Turn b w w2 := ⟨h.bel.trans (hb.mono (Nat.le_of_lt hl)), fun c hc hk => (hb.block c hk).trans (h.oth c hc hk), fun j hj => (hb.cell hl).trans (h.cel j hj)⟩
theorem TkAt.set2 {w : World} {b : Nat} {s : ByteArray} {x : Tk} (h : TkAt w b s x) (v : Bool) (hr : v = false → 0 ≤ x.at_ ∧ x.at_ ≤ s.size) : TkAt (w.setCell ⟨b, 2, none⟩ (.bool v)) b s { x with f := v } :=
  ⟨way_cell h.c0 h.c2, way_cell h.c1 h.c2, way_cell h.c2 h.c2, fun j => by rw [World.frozen?_setCell]; exact h.fz j, by simp; exact h.lt, hr, h.wf⟩
theorem TkAt.put {w : World} {b : Nat} {s : ByteArray} {x : Tk} (h : TkAt w b s x) (hx : x.f = false) (y : Tk) (hr : y.f = false → 0 ≤ y.at_ ∧ y.at_ ≤ s.size) (hw : -9223372036854775808 ≤ y.at_ ∧ y.at_ ≤ 9223372036854775807) :
    TkAt ((w.setCell ⟨b, 2, none⟩ (.bool y.f)).setCell ⟨b, 1, none⟩ (.int .i64 y.at_)) b s y :=
  (h.set2 y.f (fun _ => h.rg hx)).set1 y.at_ hr hw
set_option maxRecDepth 100000 in
set_option maxHeartbeats 4000000 in
theorem dRrs_c (b : Nat) (s : ByteArray) (x0 : Tk) (K : Nat) (w : World) (hs : s.size ≤ 1125899906842624) (h : TkAt w b s x0) (hK : K ≤ 100000) :
    Calls Tryz.prog 25 #[.pointer (some ⟨b, 0, none⟩), .int .i64 K] w fun e w' => ∃ a cap, e = .returned (.slice a (iterK (·.1) (stepRR s) K (x0, [])).2.length cap) ∧ Recs w' w.heap.size (.slice a (iterK (·.1) (stepRR s) K (x0, [])).2.length cap) (iterK (·.1) (stepRR s) K (x0, [])).2 ∧ TkAt w' b s (iterK (·.1) (stepRR s) K (x0, [])).1 ∧ Turn b w w' := by
  obtain ⟨i0, hi, hz0, hz1, hz2⟩ := info_parts Tryz.infoRR
  obtain ⟨R, hR⟩ : ∃ R, iterK (·.1) (stepRR s) K (x0, []) = R := ⟨_, rfl⟩
  rw [hR]
  have H0 : Hid (iterK (·.1) (stepRR s) K (x0, []) = R) := hR
  have T0 : Hid (TkAt w b s x0) := h
  have ltb := h.lt
  clear h hR
  go_enter Tryz.func25, Tryz.ntmps25
  go_wp2_with fail
  go_loopw [5, 6] (fun o i wr => ∃ (j : Nat) (a : Option Addr) (cap : Nat) (l : List Rec) (y : Tk), j ≤ K ∧ i = .int .i64 j ∧ o = .slice a l.length cap ∧ l.length ≤ j ∧ Hid (Recs wr w.heap.size (.slice a l.length cap) l) ∧ Hid (TkAt wr b s y) ∧ Hid (Turn b w wr) ∧ Hid (iterK (·.1) (stepRR s) (K - j) (y, l) = R)) (fun _ i _ => K - (intOf i).toNat)
  case atStart => exact ⟨0, none, 0, [], x0, Nat.zero_le _, rfl, rfl, by simp, World.ownsRow_nil _ _ _ _, T0, Turn.refl _ _, H0⟩
  case round =>
    obtain ⟨j, a, cap, l, y, hj, rfl, rfl, hlj, hO, hT, hU, hout⟩ := hrel
    have c2 := hT.out.c2
    by_cases hlt : j < K
    · cases hf : y.f with
      | true =>
        rw [hf] at c2
        have HE : Hid ((y, l) = R) := by
          show _ = _
          rw [← hout.out, iterK_f (tk := (·.1)) (st := (y, l)) hf]
        go_wp2_with fail
        go_ret
        rw [← HE.out]
        exact ⟨a, cap, rfl, hO.out, hT.out, hU.out⟩
      | false =>
        rw [hf] at c2
        have rg := hT.out.rg hf
        have hst : Hid (iterK (·.1) (stepRR s) (K - (j + 1)) ((refR s y).1, l ++ [(refR s y).2]) = R) := by
          show _ = _
          have := hout.out
          rw [show K - j = K - (j + 1) + 1 by omega, iterK] at this
          simp only [hf] at this
          exact this
        have HG : Hid (∀ w, _) := fun w => refGet_c s y.at_ w hs
        have htk := refR_tk (s := s) (x := y)
        have hval : ∃ r e er, gotR (getRec s y.at_) = .returned (.tuple #[.agg #[.string r.n, .int .i64 r.ty, .int .i64 r.ttl, .int .i64 r.ad, .string r.tg, .string r.tx, .int .i64 r.se], .int .i64 e, .int .i64 er]) ∧ refR s y = (⟨e, er != 0⟩, r) := by
          unfold refR
          cases hg : getRec s y.at_ with
          | none => exact ⟨zeroR, 0, _, rfl, by simp⟩
          | some q => obtain ⟨r, e⟩ := q; exact ⟨r, e, 0, rfl, by simp⟩
        obtain ⟨r, e, er, hv1, hv2⟩ := hval
        rw [hv1] at HG
        rw [hv2] at hst htk
        simp only at hst htk
        have c0 := hT.out.c0
        have c1 := hT.out.c1
        have ltw := hT.out.lt
        obtain ⟨n, ty, ttl, ad, tg, tx, se⟩ := r
        simp only at HG
        clear hv1 hv2 hout
        rename World => w0
        go_upto_region 5 with fail
        go_cut [7, 8, 9] from 10 to 47 (fun v7 v8 v9 wx => v8 = .int .i64 e ∧ v9 = .int .i64 er ∧ ∃ c6, v7 = .pointer (some ⟨c6, 0, none⟩) ∧ w0.heap.size ≤ c6 ∧ Hid (RecAt wx c6 ⟨n, ty, ttl, ad, tg, tx, se⟩) ∧ Hid (Below w0.heap.size w0 wx))
        case first =>
          have hZ0 : Hid (∀ w', Below (w0.alloc (.cells #[.string ⟨#[]⟩, .int .i64 0, .int .i64 0, .int .i64 0, .string ⟨#[]⟩, .string ⟨#[]⟩, .int .i64 0] 82)).heap.size (w0.alloc (.cells #[.string ⟨#[]⟩, .int .i64 0, .int .i64 0, .int .i64 0, .string ⟨#[]⟩, .string ⟨#[]⟩, .int .i64 0] 82)) w' → RecAt w' w0.heap.size zeroR) := fun w' hb => (RecAt.new w0 zeroR 82).below hb (by simp)
          have hne : ¬ b = w0.heap.size := by omega
          have hne' : ¬ w0.heap.size = b := by omega
          have lt := ltw
          clear hst htk rg hO hT hU T0 H0 c2
          go_region_held3 (fun w' => w'.cell? ⟨b, 0, none⟩ = some (.string s) ∧ w'.cell? ⟨b, 1, none⟩ = some (.int .i64 y.at_)) (go_keep)
            (first
              | (go_at_call 62; refine (HG.out (w0.drewN 1)).mono ?_; rintro e w1 ⟨rfl, hb1⟩; have hb1' : Below w0.heap.size w0 w1 := bel_trans (below_drewN (Below.refl w0.heap.size _) 1) hb1; have g0 := (hb1'.cell (p := ⟨b, 0, none⟩) lt).trans c0; have g1 := (hb1'.cell (p := ⟨b, 1, none⟩) lt).trans c1; have lt1 : b < w1.heap.size := Nat.lt_of_lt_of_le lt hb1'.size; have hn1 : ¬ b = w1.heap.size := by omega)
              | (go_at_call 62; refine (HG.out _).mono ?_; rintro e w1 ⟨rfl, hb1⟩; have hb1' : Below w0.heap.size w0 w1 := bel_trans (below_drewN ((Below.refl w0.heap.size w0).alloc (Nat.le_refl _) _) 1) hb1; have Y1 := hZ0.out w1 (bel_trans (below_drewN (Below.refl _ _) 1) hb1); have HY1 : Hid (RecAt w1 w0.heap.size zeroR) := Y1; obtain ⟨y0, y1, y2, y3, y4, y5, y6, fy, lty⟩ := Y1; simp only [zeroR] at y0 y1 y2 y3 y4 y5 y6; have p0 := fy 0; have p1 := fy 1; have p2 := fy 2; have p3 := fy 3; have p4 := fy 4; have p5 := fy 5; have p6 := fy 6; clear fy; have g0 := (hb1'.cell (p := ⟨b, 0, none⟩) lt).trans c0; have g1 := (hb1'.cell (p := ⟨b, 1, none⟩) lt).trans c1; have lt1 : b < w1.heap.size := Nat.lt_of_lt_of_le lt hb1'.size; have hn1 : ¬ b = w1.heap.size := by omega))
          all_goals go_wp2_with fail
          all_goals go_meet
          · exact ⟨rfl, rfl, _, rfl, hb1'.size, RecAt.new w1 ⟨n, ty, ttl, ad, tg, tx, se⟩ 82, hb1'.alloc hb1'.size _⟩
          · exact ⟨rfl, rfl, _, rfl, Nat.le_refl _, layR_rec HY1.out ⟨n, ty, ttl, ad, tg, tx, se⟩, layR_below hb1' (Nat.le_refl _) ⟨n, ty, ttl, ad, tg, tx, se⟩⟩
        case rest =>
        obtain ⟨rfl, rfl, c6, rfl, hc6, hR6, hB6⟩ := hcut
        rename World => w6
        have hbc : ¬ b = c6 := by omega
        have hcb : ¬ c6 = b := fun e => hbc e.symm
        have T6 := hT.out.below hB6.out ltw
        have U6 : Turn b w w6 := hU.out.trans (Turn.of_below hB6.out ltw)
        have O6 : Recs w6 w.heap.size (.slice a l.length cap) l := row_below hO.out hB6.out
        have d1 := T6.c1
        have d2 := T6.c2
        have f1 := T6.fz 1
        have f2 := T6.fz 2
        rw [hf] at d2
        obtain ⟨wz, hwz⟩ : ∃ wz, (w6.setCell ⟨b, 2, none⟩ (.bool (er != 0))).setCell ⟨b, 1, none⟩ (.int .i64 e) = wz := ⟨_, rfl⟩
        have T7 : Hid (TkAt wz b s ⟨e, er != 0⟩) := by
          show TkAt _ _ _ _
          rw [← hwz]; exact T6.put hf ⟨e, er != 0⟩ (fun _ => htk) ⟨by simp only; omega, by simp only; omega⟩
        have U7 : Hid (Turn b w wz) := by
          show Turn _ _ _
          rw [← hwz]; exact (U6.trans (Turn.set _ 2 _)).trans (Turn.set _ 1 _)
        have R7 : Hid (RecAt wz c6 ⟨n, ty, ttl, ad, tg, tx, se⟩) := by
          show RecAt _ _ _
          rw [← hwz]; exact (hR6.out.set hcb).set hcb
        have O7 : Hid (wz.ownsRow w.heap.size 82 7 (.slice a l.length cap) l.length (l.flatMap cellsR)) := by
          show World.ownsRow _ _ _ _ _ _ _
          rw [← hwz]; exact row_set (row_set O6 ltb) ltb
        have ltz := T7.out.lt
        obtain ⟨g0, g1, g2, g3, g4, g5, g6, _, ltc⟩ := R7.out
        simp only at g0 g1 g2 g3 g4 g5 g6
        have hle : w.heap.size ≤ wz.heap.size := U7.out.bel.size
        have HN : Hid (∀ w' v, Recs w' w.heap.size v (l ++ [(⟨n, ty, ttl, ad, tg, tx, se⟩ : Rec)]) → ∃ a' cap', v = .slice a' (l ++ [(⟨n, ty, ttl, ad, tg, tx, se⟩ : Rec)]).length cap') := fun w' v h => row_form h
        clear hT hU hO hR6 hB6 T6 U6 O6 c0 c1 c2 HG hs
        go_wp2_with (first
          | (at_builtin; refine wpList_append_own _ rfl _ _ 23 rfl w.heap.size 82 i0 (.agg #[.string ByteArray.empty, .int .i64 0, .int .i64 0, .int .i64 0, .string ByteArray.empty, .string ByteArray.empty, .int .i64 0]) 7 80 Tryz.underlying23 hi hz0 hz1 hz2 rfl (by decide) _ l.length (l.flatMap cellsR) rfl (World.ownsRow.alloc O7.out _) ⟨wz.heap.size, 0, none⟩ 1 1 [.string n, .int .i64 ty, .int .i64 ttl, .int .i64 ad, .string tg, .string tx, .int .i64 se] rfl rfl ?d1 ?d2 ?d3 ?d4 ?d5 ?_)
          | fail)
        case d1 =>
          intro j u hj
          match j, hj with
          | 0, hj => simp at hj; subst hj; exact new_at _ _ _ 0 _ _ rfl rfl
          | 1, hj => simp at hj; subst hj; exact new_at _ _ _ 1 _ _ rfl rfl
          | 2, hj => simp at hj; subst hj; exact new_at _ _ _ 2 _ _ rfl rfl
          | 3, hj => simp at hj; subst hj; exact new_at _ _ _ 3 _ _ rfl rfl
          | 4, hj => simp at hj; subst hj; exact new_at _ _ _ 4 _ _ rfl rfl
          | 5, hj => simp at hj; subst hj; exact new_at _ _ _ 5 _ _ rfl rfl
          | 6, hj => simp at hj; subst hj; exact new_at _ _ _ 6 _ _ rfl rfl
        case d2 => intro u hu; simp only [List.mem_cons, List.not_mem_nil, or_false] at hu; rcases hu with rfl | rfl | rfl | rfl | rfl | rfl | rfl <;> rfl
        case d3 => unfold maxLen; omega
        case d4 => omega
        case d5 => first | omega | (simp; omega)
        intro v8 w8 hown8 hgrow8 _
        have R8 : Recs w8 w.heap.size v8 (l ++ [⟨n, ty, ttl, ad, tg, tx, se⟩]) := by
          show w8.ownsRow _ _ _ _ _ _
          simpa [cellsR] using hown8
        obtain ⟨a8, cap8, rfl⟩ := HN.out _ _ R8
        have R8' : Hid (Recs w8 w.heap.size (.slice a8 (l ++ [(⟨n, ty, ttl, ad, tg, tx, se⟩ : Rec)]).length cap8) (l ++ [⟨n, ty, ttl, ad, tg, tx, se⟩])) := R8
        have F8 : ∀ k, k < w.heap.size → w8.heap[k]? = wz.heap[k]? := fun k hk => (hgrow8.block k (by simp; omega) (own_not O7.out hk)).trans (Below.heap_alloc _ _ _ (by omega))
        have B8 : Below w.heap.size wz w8 := ((Below.refl _ _).alloc hle _).grown hgrow8 (by simp; omega) (fun k hk => (World.ownsRow.lt O7.out k hk).1)
        have T8 : Hid (TkAt w8 b s ⟨e, er != 0⟩) := T7.out.below B8 ltb
        have U8 : Hid (Turn b w w8) := U7.out.then B8 ltb
        clear hown8 hgrow8 O7 R7 T7 U7 R8 B8 F8 g0 g1 g2 g3 g4 g5 g6
        go_wp2
        go_roundw
        case rel => exact ⟨j + 1, a8, cap8, l ++ [⟨n, ty, ttl, ad, tg, tx, se⟩], ⟨e, er != 0⟩, by omega, by go_num, rfl, by simp; omega, R8', T8, U8, hst⟩
        case measure => simp [intOf]; omega
    · obtain rfl : j = K := by omega
      have HE : Hid ((y, l) = R) := by
        show _ = _
        have := hout.out
        rw [Nat.sub_self] at this; exact this
      go_wp2_with fail
      go_ret
      rw [← HE.out]
      exact ⟨a, cap, rfl, hO.out, hT.out, hU.out⟩
end Go.Proofs.YtdmooggmoihggaaGreatDoor
