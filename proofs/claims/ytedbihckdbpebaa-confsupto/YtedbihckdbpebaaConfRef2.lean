/-
  Contract of the reference's ConfMay, at every configuration whose texts have at most 1048576 letters.
-/
import Derived.Test.YtedbihckdbpebaaConfRef
import Derived.Deep.QuietTactic
import Derived.BigQuiet
import Derived.Deep.RegionHeld3
import Derived.Deep.DeepCutAuto
import Derived.Deep.CutRange
namespace Go.Proofs.Ytedbihckdbpebaa
open Go.ChangeShapes Go.WideShapes Go.ChangeAt Go.RowKit Go.Pin Go.PlainAid

set_option maxRecDepth 100000 in
set_option maxHeartbeats 4000000 in
theorem rLoops_c (c : Cf) (p : CPl) (w : World) (hL : CfLies w c p) (hz : c.zo.size ≤ 1048576) (hs : ∀ r ∈ c.st, r.n.size ≤ 1048576 ∧ r.tg.size ≤ 1048576) (h : headB c = true) :
    Calls Try.prog 16 #[cv c p] w fun e w' => e = .returned (.bool (mayC c)) ∧ Below w.heap.size w w' := by
  have HN : Hid (∀ w, _) := fun w => nameMay_c c.zo w hz
  have HL : Hid (∀ w, _) := fun w => rlabels_c c.zo w hz
  obtain ⟨⟨r1, r2, r3, r4⟩, l1, l2, ⟨t1, t2⟩, ⟨z1, z2, z3⟩, l3⟩ := (headB_iff c).1 h
  have e0 := empty_no z1
  rw [z2] at HN
  have da1 : decide (c.fi < 2) = false := by simp; omega
  have da2 : decide (254 < c.la) = false := by simp; omega
  have da3 : decide (c.la < c.fi) = false := by simp; omega
  have da4 : decide (8 ≤ c.la - c.fi) = false := by simp; omega
  have da5 : decide (8 < (c.ex.length : Int)) = false := by simp; omega
  have da6 : decide (4 < (c.rs.length : Int)) = false := by simp; omega
  have da7 : decide (c.ti < 1) = false := by simp; omega
  have da8 : decide (1048576 < c.ti) = false := by simp; omega
  have da9 : decide (4 < ((labsL (bs c.zo)).length : Int)) = false := by simp; omega
  have da10 : decide (8 < (c.st.length : Int)) = false := by simp; omega
  have HE : Hid (∀ k n, c.ex[k]? = some n → ∀ w', Below w.heap.size w w' → ∃ x, p.ea = some x ∧ w'.cell? (x.add k) = some (.int .i64 n)) := fun k n hk w' hb => by
    rcases hL.e.below hb with h | ⟨x, h1, h2⟩
    · rw [h] at hk; simp at hk
    · exact ⟨x, h1, h2 k n hk⟩
  have HR : Hid (∀ k r, c.rs[k]? = some r → ∀ w', Below w.heap.size w w' → ∃ x, p.ra = some x ∧ RsvFrom w' (x.add (k * 2)) r) := fun k n hk w' hb => by
    rcases hL.r.below hb with h | ⟨x, h1, h2⟩
    · rw [h] at hk; simp at hk
    · exact ⟨x, h1, h2 k n hk⟩
  have HS : Hid (∀ k r, c.st[k]? = some r → ∀ w', Below w.heap.size w w' → ∃ x, p.sa = some x ∧ RecFrom w' (x.add (k * 7)) r) := fun k n hk w' hb => by
    rcases hL.s.below hb with h | ⟨x, h1, h2⟩
    · rw [h] at hk; simp at hk
    · exact ⟨x, h1, h2 k n hk⟩
  have HT : Hid (∀ k r, c.st[k]? = some r → ∀ w', _) := fun k r hk w' => rStatic_c r c.zo w' (hs r (List.mem_of_getElem? hk)).1 (hs r (List.mem_of_getElem? hk)).2 hz
  have N1 : Hid (∀ k n, c.ex[k]? = some n → n < c.fi → mayC c = false) := fun k n hk hn => Bool.eq_false_iff.2 fun hm => by have := (may_ex hm).1 n (List.mem_of_getElem? hk); omega
  have N2 : Hid (∀ k n, c.ex[k]? = some n → c.la < n → mayC c = false) := fun k n hk hn => Bool.eq_false_iff.2 fun hm => by have := (may_ex hm).1 n (List.mem_of_getElem? hk); omega
  have N3 : Hid (∀ i k n, i < k → c.ex[i]? = some n → c.ex[k]? = some n → mayC c = false) := fun i k n hik h1 h2 => Bool.eq_false_iff.2 fun hm => twice hik h1 h2 (may_ex hm).2
  have N4 : Hid (∀ k (r : Rsv), c.rs[k]? = some r → r.h < c.fi → mayC c = false) := fun k n hk hn => Bool.eq_false_iff.2 fun hm => by have := (may_rs hm).1.1 n (List.mem_of_getElem? hk); omega
  have N5 : Hid (∀ k (r : Rsv), c.rs[k]? = some r → c.la < r.h → mayC c = false) := fun k n hk hn => Bool.eq_false_iff.2 fun hm => by have := (may_rs hm).1.1 n (List.mem_of_getElem? hk); omega
  have N6 : Hid (∀ k (r : Rsv), c.rs[k]? = some r → clB (bs r.c) = false → mayC c = false) := fun k n hk hn => Bool.eq_false_iff.2 fun hm => by have := (may_rs hm).2.1 n (List.mem_of_getElem? hk); rw [this] at hn; cases hn
  have N7 : Hid (∀ i k (r s : Rsv), i < k → c.rs[i]? = some s → c.rs[k]? = some r → s.h = r.h → mayC c = false) := fun i k r s hik h1 h2 he => Bool.eq_false_iff.2 fun hm => twice (n := r.h) hik (by rw [List.getElem?_map, h1]; simp [he]) (by rw [List.getElem?_map, h2]; rfl) (may_rs hm).1.2
  have N8 : Hid (∀ i k (r s : Rsv), i < k → c.rs[i]? = some s → c.rs[k]? = some r → s.c = r.c → mayC c = false) := fun i k r s hik h1 h2 he => Bool.eq_false_iff.2 fun hm => twice (n := bs r.c) hik (by rw [List.getElem?_map, h1]; simp [he]) (by rw [List.getElem?_map, h2]; rfl) (may_rs hm).2.2
  have N9 : Hid (∀ k r, c.st[k]? = some r → statB c.zo r = false → mayC c = false) := fun k n hk hn => Bool.eq_false_iff.2 fun hm => by have := may_st hm n (List.mem_of_getElem? hk); rw [this] at hn; cases hn
  have Y : Hid (oft (fun n => c.fi ≤ n ∧ n ≤ c.la) c.ex c.ex.length → ofr c c.rs.length → (∀ k r, k < c.st.length → c.st[k]? = some r → statB c.zo r = true) → mayC c = true) := fun h1 h2 h3 => by
    obtain ⟨a1, a2⟩ := oft_all h1
    obtain ⟨b1, b2⟩ := ofr_all h2
    refine may_parts h ?_ b1 b2 (all_of_get fun j x hx => h3 j x (List.getElem?_eq_some_iff.1 hx).1 hx)
    simp only [hostsB, onceB, Bool.and_eq_true, decide_eq_true_eq, List.all_eq_true]
    exact ⟨fun x hx => (betw_iff _ _ _).2 (a1 x hx), a2⟩
  have A0 : Hid (Below w.heap.size w (w.alloc (.cells (cellsC c p) 26))) := (Below.refl _ _).alloc (Nat.le_refl _) _
  have BX : Hid (BoxC (w.alloc (.cells (cellsC c p) 26)) w.heap.size c p) := BoxC.new w c p
  have hcell : Hid (∀ (w' : World), BoxC w' w.heap.size c p → _) := fun w' hh => hh.all
  have hbel : Hid (∀ w' w'', BoxC w' w.heap.size c p → Below w'.heap.size w' w'' → BoxC w'' w.heap.size c p) := fun w' w'' h1 h2 => h1.below h2
  have hdr : Hid (∀ w' n, BoxC w' w.heap.size c p → BoxC (w'.drewN n) w.heap.size c p) := fun w' n h1 => h1.below (below_drewN (Below.refl _ _) n)
  have HP : Hid (∀ r : Rsv, rsvP c r ↔ (c.fi ≤ r.h ∧ r.h ≤ c.la) ∧ clB (bs r.c) = true) := fun r => Iff.rfl
  generalize mayC c = V at *
  generalize labsL (bs c.zo) = ls at *
  generalize mayL (bs c.zo) = mz at *
  clear h hz hs hL z1 z2 z3 t1 t2
  simp only [cv, cellsC] at *
  go_enter Try.func16, Try.ntmps16
  obtain ⟨w0, hw0⟩ : ∃ w0, w.alloc (.cells #[.int .i64 c.fi, .int .i64 c.la, .slice p.ea c.ex.length p.ec, .slice p.ra c.rs.length p.rc, .int .i64 c.ti, .string c.zo, .slice p.sa c.st.length p.sc] 26) = w0 := ⟨_, rfl⟩
  rw [hw0] at *
  clear hw0
  obtain ⟨c0, c1, c2, c3, c4, c5, c6⟩ := hcell.out _ BX.out
  go_wp2_with fail
  refine (HN.out _).mono ?_; rintro e w2 ⟨rfl, hb⟩
  have X2 : Hid (BoxC w2 w.heap.size c p) := hbel.out _ _ BX.out hb
  have B2 : Hid (Below w.heap.size w w2) := bel_trans A0.out hb
  clear c0 c1 c2 c3 c4 c5 c6 hb BX A0 HN
  obtain ⟨c0, c1, c2, c3, c4, c5, c6⟩ := hcell.out _ X2.out
  go_wp2_with fail
  refine (HL.out _).mono ?_; rintro e w3 ⟨⟨v, rfl, hT⟩, hb⟩
  obtain ⟨a, cap, rfl⟩ := hT.form
  have X3 : Hid (BoxC w3 w.heap.size c p) := hbel.out _ _ X2.out hb
  have B3 : Hid (Below w.heap.size w w3) := bel_trans B2.out hb
  clear c0 c1 c2 c3 c4 c5 c6 hb hT X2 B2 HL
  obtain ⟨c0, c1, c2, c3, c4, c5, c6⟩ := hcell.out _ X3.out
  go_wp2
  clear c0 c1 c2 c3 c4 c5 c6 da1 da2 da3 da4 da5 da6 da7 da8 da9 da10 e0 r4
  go_loopw [3] (fun i wr => ∃ j : Nat, j ≤ c.ex.length ∧ i = .int .i64 j ∧ Hid (oft (fun n => c.fi ≤ n ∧ n ≤ c.la) c.ex j) ∧ Hid (BoxC wr w.heap.size c p) ∧ Hid (Below w.heap.size w wr)) (fun i _ => c.ex.length - (intOf i).toNat)
  case atStart => exact ⟨0, Nat.zero_le _, rfl, oft_zero _ _, X3.out, B3.out⟩
  case round =>
    clear X3 B3
    obtain ⟨j, hj, rfl, G, X, B⟩ := hrel
    obtain ⟨c0, c1, c2, c3, c4, c5, c6⟩ := hcell.out _ X.out
    by_cases hlt : j < c.ex.length
    · obtain ⟨n, hn⟩ : ∃ n, c.ex[j]? = some n := ⟨_, List.getElem?_eq_getElem hlt⟩
      obtain ⟨x, hx, hc⟩ := HE.out j n hn wr B.out
      have Hn : Hid (c.ex[j]? = some n) := hn
      have Hx : Hid (p.ea = some x) := hx
      rw [hx] at c2
      have hjl : (j : Int) < (c.ex.length : Int) := by omega
      have XD : Hid (∀ m, BoxC (wr.drewN m) w.heap.size c p) := fun m => hdr.out _ _ X.out
      have BD : Hid (∀ m, Below w.heap.size w (wr.drewN m)) := fun m => below_drewN B.out m
      clear hn hx X B
      by_cases g1 : n < c.fi
      · have d1 : decide (n < c.fi) = true := by simpa using g1
        have hV : Hid (V = false) := N1.out j n Hn.out g1
        go_wp2
        go_quiet (fail)
        go_wp2
        go_ret
        exact ⟨ret_bool (by simp [hV.out]), BD.out _⟩
      have d1 : decide (n < c.fi) = false := by simpa using g1
      by_cases g2 : c.la < n
      · have d2 : decide (c.la < n) = true := by simpa using g2
        have hV : Hid (V = false) := N2.out j n Hn.out g2
        go_wp2
        go_quiet (fail)
        go_wp2
        go_ret
        exact ⟨ret_bool (by simp [hV.out]), BD.out _⟩
      have d2 : decide (c.la < n) = false := by simpa using g2
      go_wp2
      go_quiet (fail)
      clear c0 c1 c2 c3 c4 c5 c6 d1 d2
      go_wp2
      go_loopw [4] (fun i ws => ∃ k : Nat, k ≤ j ∧ i = .int .i64 k ∧ Hid (∀ i m, i < k → c.ex[i]? = some m → m ≠ n) ∧ Hid (BoxC ws w.heap.size c p) ∧ Hid (Below w.heap.size w ws)) (fun i _ => j - (intOf i).toNat)
      case atStart => exact ⟨0, Nat.zero_le _, rfl, fun i m hi => by omega, XD.out _, BD.out _⟩
      case round =>
        clear XD BD hc
        obtain ⟨k, hk, rfl, G2, X, B⟩ := hrel
        rename World => ws
        obtain ⟨c0, c1, c2, c3, c4, c5, c6⟩ := hcell.out _ X.out
        by_cases hlt2 : k < j
        · obtain ⟨m, hm⟩ : ∃ m, c.ex[k]? = some m := ⟨_, List.getElem?_eq_getElem (by omega)⟩
          obtain ⟨y, hy, hcm⟩ := HE.out k m hm ws B.out
          obtain ⟨y', hy', hcn⟩ := HE.out j n Hn.out ws B.out
          obtain rfl : x = y := by have := Hx.out; rw [hy] at this; exact (Option.some.inj this).symm
          obtain rfl : x = y' := by have := Hx.out; rw [hy'] at this; exact (Option.some.inj this).symm
          rw [hy] at c2
          have Hm : Hid (c.ex[k]? = some m) := hm
          have hkl : (k : Int) < (c.ex.length : Int) := by omega
          have hkj : (k : Int) < (j : Int) := by omega
          have XD : Hid (∀ m, BoxC (ws.drewN m) w.heap.size c p) := fun m => hdr.out _ _ X.out
          have BD : Hid (∀ m, Below w.heap.size w (ws.drewN m)) := fun m => below_drewN B.out m
          clear hm hy hy' X B
          by_cases hmn : m = n
          · have hV : Hid (V = false) := N3.out k j n hlt2 (by rw [Hm.out, hmn]) Hn.out
            have dm : (m == n) = true := by simpa using hmn
            go_wp2
            go_quiet (fail)
            go_wp2
            go_ret
            exact ⟨ret_bool (by simp [hV.out]), BD.out _⟩
          · have dm : (m == n) = false := by simpa using hmn
            go_wp2
            go_quiet (fail)
            go_wp2
            go_roundw
            case rel => exact ⟨k + 1, by omega, by go_num, (fun i m' hi hm' => by
              by_cases e : i = k
              · subst e; have := Hm.out; rw [hm'] at this; rw [Option.some.inj this]; exact hmn
              · exact G2.out i m' (by omega) hm'), XD.out _, BD.out _⟩
            case measure => simp [intOf]; omega
        · obtain rfl : k = j := by omega
          clear hlt2 hk
          go_wp2
          go_roundw
          case rel => exact ⟨k + 1, by omega, by go_num, oft_step G.out Hn.out ⟨by omega, by omega⟩ G2.out, X.out, B.out⟩
          case measure => simp [intOf]; omega
    · obtain rfl : j = c.ex.length := by omega
      have GE : Hid (oft (fun n => c.fi ≤ n ∧ n ≤ c.la) c.ex c.ex.length) := G.out
      clear hlt hj G
      go_wp2
      go_loopw [5] (fun i wr => ∃ j : Nat, j ≤ c.rs.length ∧ i = .int .i64 j ∧ Hid (ofr c j) ∧ Hid (BoxC wr w.heap.size c p) ∧ Hid (Below w.heap.size w wr)) (fun i _ => c.rs.length - (intOf i).toNat)
      case atStart => exact ⟨0, Nat.zero_le _, rfl, (fun k n hk => by omega), X.out, B.out⟩
      case round =>
        clear X B c0 c1 c2 c3 c4 c5 c6
        obtain ⟨j, hj, rfl, G, X, B⟩ := hrel
        rename World => wq
        obtain ⟨c0, c1, c2, c3, c4, c5, c6⟩ := hcell.out _ X.out
        by_cases hlt : j < c.rs.length
        · obtain ⟨⟨rc, rh⟩, hn⟩ : ∃ n, c.rs[j]? = some n := ⟨_, List.getElem?_eq_getElem hlt⟩
          obtain ⟨x, hx, h0, h1⟩ := HR.out j _ hn wq B.out
          have Hn : Hid (c.rs[j]? = some ⟨rc, rh⟩) := hn
          have Hx : Hid (p.ra = some x) := hx
          rw [hx] at c3
          simp only at h0 h1
          have hjl : (j : Int) < (c.rs.length : Int) := by omega
          obtain ⟨w1, hw1⟩ : ∃ w1, wq.alloc (.cells #[.string rc, .int .i64 rh] 47) = w1 := ⟨_, rfl⟩
          have Bq : Below wq.heap.size wq w1 := by rw [← hw1]; exact (Below.refl _ _).alloc (Nat.le_refl _) _
          have X1 : Hid (BoxC w1 w.heap.size c p) := hbel.out _ _ X.out Bq
          have B1 : Hid (Below w.heap.size w w1) := bel_trans B.out Bq
          have q0 : w1.cell? ⟨wq.heap.size, 0, none⟩ = some (.string rc) := by rw [← hw1]; exact new_cell _ _ _ 0 _ rfl
          have q1 : w1.cell? ⟨wq.heap.size, 1, none⟩ = some (.int .i64 rh) := by rw [← hw1]; exact new_cell _ _ _ 1 _ rfl
          have HQ : Hid (∀ w', Below w1.heap.size w1 w' → w'.cell? ⟨wq.heap.size, 0, none⟩ = some (.string rc) ∧ w'.cell? ⟨wq.heap.size, 1, none⟩ = some (.int .i64 rh)) := fun w' hb => ⟨(hb.cell (World.block_lt_of_cell? w1 _ q0)).trans q0, (hb.cell (World.block_lt_of_cell? w1 _ q1)).trans q1⟩
          have Hw1 : Hid (_ = w1) := hw1
          have HM : Hid (∀ w, _) := fun w => rClientMay_c rc w
          obtain ⟨cm, hcm⟩ : ∃ b, clB (bs rc) = b := ⟨_, rfl⟩
          rw [hcm] at HM
          have Hcm : Hid (clB (bs rc) = cm) := hcm
          clear hn hx X B q0 q1 hw1 hcm Bq
          go_upto_region 17 with fail
          rw [Hw1.out]
          clear h0 h1 c0 c1 c2 c3 c4 c5 c6 Hw1
          generalize wq.heap.size = d at *
          obtain ⟨c0, c1, c2, c3, c4, c5, c6⟩ := hcell.out _ X1.out
          obtain ⟨q0, q1⟩ := HQ.out w1 (Below.refl _ _)
          by_cases g1 : rh < c.fi
          · have d1 : decide (rh < c.fi) = true := by simpa using g1
            have hV : Hid (V = false) := N4.out j _ Hn.out g1
            go_wp2
            go_ret
            exact ⟨ret_bool (by simp [hV.out]), B1.out⟩
          have d1 : decide (rh < c.fi) = false := by simpa using g1
          by_cases g2 : c.la < rh
          · have d2 : decide (c.la < rh) = true := by simpa using g2
            have hV : Hid (V = false) := N5.out j _ Hn.out g2
            go_wp2
            go_ret
            exact ⟨ret_bool (by simp [hV.out]), B1.out⟩
          have d2 : decide (c.la < rh) = false := by simpa using g2
          go_wp2_with fail
          refine (HM.out _).mono ?_; rintro e w4 ⟨rfl, rfl⟩
          cases cm with
          | false =>
            have hV : Hid (V = false) := N6.out j _ Hn.out Hcm.out
            go_wp2
            go_ret
            exact ⟨ret_bool (by simp [hV.out]), B1.out⟩
          | true =>
            have HPj : Hid (rsvP c ⟨rc, rh⟩) := (HP.out _).2 ⟨⟨by simp only; omega, by simp only; omega⟩, Hcm.out⟩
            clear HM Hcm d1 d2
            go_wp2
            clear c0 c1 c2 c3 c4 c5 c6 q0 q1
            go_loopw [7] (fun i ws => ∃ k : Nat, k ≤ j ∧ i = .int .i64 k ∧ Hid (∀ i m, i < k → c.rs[i]? = some m → rsvNe m ⟨rc, rh⟩) ∧ Hid (BoxC ws w.heap.size c p) ∧ Hid (Below w.heap.size w ws) ∧ Hid (Below w4.heap.size w4 ws)) (fun i _ => j - (intOf i).toNat)
            case atStart => exact ⟨0, Nat.zero_le _, rfl, fun i m hi => by omega, X1.out, B1.out, Below.refl _ _⟩
            case round =>
              clear X1 B1
              obtain ⟨k, hk, rfl, G2, X, B, BQ⟩ := hrel
              rename World => ws
              obtain ⟨c0, c1, c2, c3, c4, c5, c6⟩ := hcell.out _ X.out
              by_cases hlt2 : k < j
              · obtain ⟨⟨mc, mh⟩, hm⟩ : ∃ m, c.rs[k]? = some m := ⟨_, List.getElem?_eq_getElem (by omega)⟩
                obtain ⟨y, hy, m0, m1⟩ := HR.out k _ hm ws B.out
                obtain ⟨q0, q1⟩ := HQ.out ws BQ.out
                rw [hy] at c3
                simp only at m0 m1
                have Hm : Hid (c.rs[k]? = some ⟨mc, mh⟩) := hm
                have hkl : (k : Int) < (c.rs.length : Int) := by omega
                have hkj : (k : Int) < (j : Int) := by omega
                have XD : Hid (∀ m, BoxC (ws.drewN m) w.heap.size c p) := fun m => hdr.out _ _ X.out
                have BD : Hid (∀ m, Below w.heap.size w (ws.drewN m)) := fun m => below_drewN B.out m
                have BQD : Hid (∀ m, Below w4.heap.size w4 (ws.drewN m)) := fun m => below_drewN BQ.out m
                clear hm hy X B BQ
                by_cases hh : mh = rh
                · have hV : Hid (V = false) := N7.out k j _ _ hlt2 Hm.out Hn.out hh
                  have dm : (mh == rh) = true := by simpa using hh
                  go_wp2
                  go_quiet (fail)
                  go_wp2
                  go_ret
                  exact ⟨ret_bool (by simp [hV.out]), BD.out _⟩
                have dm : (mh == rh) = false := by simpa using hh
                by_cases hcc : mc = rc
                · have hV : Hid (V = false) := N8.out k j _ _ hlt2 Hm.out Hn.out hcc
                  have dc : (mc.toList == rc.toList) = true := eq_yes hcc
                  go_wp2
                  go_quiet (fail)
                  go_wp2
                  go_ret
                  exact ⟨ret_bool (by simp [hV.out]), BD.out _⟩
                have dc : (mc.toList == rc.toList) = false := eq_no hcc
                go_wp2
                go_quiet (fail)
                go_wp2
                go_roundw
                case rel => exact ⟨k + 1, by omega, by go_num, (fun i m' hi hm' => by
                  by_cases e : i = k
                  · subst e; have := Hm.out; rw [hm'] at this; rw [Option.some.inj this]; exact ⟨hh, hcc⟩
                  · exact G2.out i m' (by omega) hm'), XD.out _, BD.out _, BQD.out _⟩
                case measure => simp [intOf]; omega
              · obtain rfl : k = j := by omega
                clear hlt2 hk
                go_wp2
                go_roundw
                case rel => exact ⟨k + 1, by omega, by go_num, ofr_step G.out Hn.out HPj.out G2.out, X.out, B.out⟩
                case measure => simp [intOf]; omega
        · obtain rfl : j = c.rs.length := by omega
          have GR : Hid (ofr c c.rs.length) := G.out
          clear hlt hj G
          go_wp2
          go_loopw [8] (fun i wr => ∃ j : Nat, j ≤ c.st.length ∧ i = .int .i64 j ∧ Hid (∀ k r, k < j → c.st[k]? = some r → statB c.zo r = true) ∧ Hid (BoxC wr w.heap.size c p) ∧ Hid (Below w.heap.size w wr)) (fun i _ => c.st.length - (intOf i).toNat)
          case atStart => exact ⟨0, Nat.zero_le _, rfl, (fun k n hk => by omega), X.out, B.out⟩
          case round =>
            clear X B c0 c1 c2 c3 c4 c5 c6
            obtain ⟨j, hj, rfl, G, X, B⟩ := hrel
            rename World => ws
            by_cases hlt : j < c.st.length
            · obtain ⟨r, hn⟩ : ∃ n, c.st[j]? = some n := ⟨_, List.getElem?_eq_getElem hlt⟩
              obtain ⟨x, hx, hrec⟩ := HS.out j _ hn ws B.out
              have HTj : Hid (∀ w', _) := fun w' => HT.out j r hn w'
              have Hn : Hid (c.st[j]? = some r) := hn
              have N9j : Hid (statB c.zo r = false → V = false) := N9.out j r hn
              have G' : Hid (statB c.zo r = true → ∀ k r, k < j + 1 → c.st[k]? = some r → statB c.zo r = true) := fun hs k s hk hk2 => by
                by_cases e : k = j
                · subst e; have := Hn.out; rw [hk2] at this; rw [Option.some.inj this]; exact hs
                · exact G.out k s (by omega) hk2
              generalize statB c.zo r = sb at *
              obtain ⟨a0, a1, a2, a3, a4, a5, a6⟩ := r
              have HSt : Hid (∀ w', Below ws.heap.size ws w' → (w'.cell? ⟨w.heap.size, 5, none⟩ = some (.string c.zo) ∧ w'.cell? ⟨w.heap.size, 6, none⟩ = some (.slice (some x) c.st.length p.sc)) ∧ (w'.cell? (x.add (j * 7)) = some (.string a0) ∧ w'.cell? ⟨(x.add (j * 7)).block, (x.add (j * 7)).off + 1, none⟩ = some (.int .i64 a1) ∧ w'.cell? ⟨(x.add (j * 7)).block, (x.add (j * 7)).off + 2, none⟩ = some (.int .i64 a2) ∧ w'.cell? ⟨(x.add (j * 7)).block, (x.add (j * 7)).off + 3, none⟩ = some (.int .i64 a3) ∧ w'.cell? ⟨(x.add (j * 7)).block, (x.add (j * 7)).off + 4, none⟩ = some (.string a4) ∧ w'.cell? ⟨(x.add (j * 7)).block, (x.add (j * 7)).off + 5, none⟩ = some (.string a5) ∧ w'.cell? ⟨(x.add (j * 7)).block, (x.add (j * 7)).off + 6, none⟩ = some (.int .i64 a6)) ∧ Below ws.heap.size ws w') := fun w' hb => by
                obtain ⟨_, _, _, _, _, k5, k6⟩ := hcell.out _ (hbel.out _ _ X.out hb)
                rw [hx] at k6
                exact ⟨⟨k5, k6⟩, hrec.below hb hrec.lt, hb⟩
              have XB : Hid (∀ w', Below ws.heap.size ws w' → BoxC w' w.heap.size c p ∧ Below w.heap.size w w') := fun w' hb => ⟨hbel.out _ _ X.out hb, bel_trans B.out hb⟩
              obtain ⟨⟨c5, c6⟩, _, _⟩ := HSt.out ws (Below.refl _ _)
              have hjl : (j : Int) < (c.st.length : Int) := by omega
              simp only [rv] at HTj
              clear hn hx hrec X B G Hn
              go_wp2
              clear c5 c6
              go_region_held3 (fun w' => (w'.cell? ⟨w.heap.size, 5, none⟩ = some (.string c.zo) ∧ w'.cell? ⟨w.heap.size, 6, none⟩ = some (.slice (some x) c.st.length p.sc)) ∧ (w'.cell? (x.add (j * 7)) = some (.string a0) ∧ w'.cell? ⟨(x.add (j * 7)).block, (x.add (j * 7)).off + 1, none⟩ = some (.int .i64 a1) ∧ w'.cell? ⟨(x.add (j * 7)).block, (x.add (j * 7)).off + 2, none⟩ = some (.int .i64 a2) ∧ w'.cell? ⟨(x.add (j * 7)).block, (x.add (j * 7)).off + 3, none⟩ = some (.int .i64 a3) ∧ w'.cell? ⟨(x.add (j * 7)).block, (x.add (j * 7)).off + 4, none⟩ = some (.string a4) ∧ w'.cell? ⟨(x.add (j * 7)).block, (x.add (j * 7)).off + 5, none⟩ = some (.string a5) ∧ w'.cell? ⟨(x.add (j * 7)).block, (x.add (j * 7)).off + 6, none⟩ = some (.int .i64 a6)) ∧ Below ws.heap.size ws w')
                (first | exact HSt.out _ (Below.refl _ _).drew | exact HSt.out _ sB)
                (first | (go_at_call 38; have tB := (‹_ ∧ _ ∧ Below ws.heap.size ws _›).2.2; refine (HTj.out _).mono ?_; rintro e wN ⟨rfl, hbN⟩; have sB := bel_trans tB hbN; clear tB hbN))
              all_goals
                have sF := (‹_ ∧ _ ∧ Below ws.heap.size ws _›).2.2
                obtain ⟨XF, BF⟩ := XB.out _ sF
                cases sb
                · have hV : Hid (V = false) := N9j.out rfl
                  go_wp2
                  go_ret
                  exact ⟨ret_bool (by simp [hV.out]), BF⟩
                · go_wp2
                  go_roundw
                  case rel => exact ⟨j + 1, by omega, by go_num, G'.out rfl, XF, BF⟩
                  case measure => simp [intOf]; omega
            · obtain rfl : j = c.st.length := by omega
              obtain ⟨c0, c1, c2, c3, c4, c5, c6⟩ := hcell.out _ X.out
              have hV : Hid (V = true) := Y.out GE.out GR.out G.out
              clear hlt hj G
              go_wp2
              go_ret
              exact ⟨ret_bool (by simp [hV.out]), B.out⟩
theorem rMay_c (c : Cf) (p : CPl) (w : World) (hL : CfLies w c p) (hz : c.zo.size ≤ 1048576) (hs : ∀ r ∈ c.st, r.n.size ≤ 1048576 ∧ r.tg.size ≤ 1048576) :
    Calls Try.prog 16 #[cv c p] w fun e w' => e = .returned (.bool (mayC c)) ∧ Below w.heap.size w w' := by
  cases h : headB c with
  | true => exact rLoops_c c p w hL hz hs h
  | false =>
    have : mayC c = false := Bool.eq_false_iff.2 fun hm => by rw [may_head hm] at h; cases h
    rw [this]
    exact rHead_no c p w hz h

end Go.Proofs.Ytedbihckdbpebaa
