/-
  Contracts of the document's own DnsMay and what it asks, at every message.
-/
import Derived.Test.YtdmooggmoihggaaGreatDoorDnsMem
import Derived.Test.YtdmooggmoihggaaGreatDoorDnsAsk
import Derived.Test.YtdmooggmoihggaaGreatDoorDnsOpen
import Derived.Test.YtdmooggmoihggaaGreatDoorRrRef
namespace Go.Proofs.YtdmooggmoihggaaGreatDoor
set_option maxRecDepth 100000
open Go.ChangeShapes Go.WideShapes Go.ChangeAt Go.RowKit Go.Pin Go.PlainAid

theorem dWithin_16 (x : Int) (w : World) : Calls Tryz.prog 34 #[.int .i64 x, .int .i64 16] w fun e w' => e = .returned (.bool (upB x 65535)) ∧ w' = w := by
  have hsh : ∀ w, (Op.shift BinOp.shl IntKind.i64 1 IntKind.i64 16).run Tryz.prog w = .ok (.int .i64 65536) w := fun _ => by kernel_rfl
  have hu : upB x 65535 = (decide (0 ≤ x) && decide (x < 65536)) := by unfold upB; congr 1; rw [Bool.eq_iff_iff]; simp; omega
  rw [hu]
  by_cases h0 : 0 ≤ x
  · have h1 : decide (0 ≤ x) = true := by simpa using h0
    rw [h1, Bool.true_and]
    go_enter Tryz.func34, Tryz.ntmps34
    go_wp2
    go_ret
    exact ⟨rfl, rfl⟩
  · have h1 : decide (0 ≤ x) = false := by simpa using h0
    rw [h1, Bool.false_and]
    go_enter Tryz.func34, Tryz.ntmps34
    go_wp2
    go_ret
    exact ⟨rfl, rfl⟩
theorem dWithin_4 (x : Int) (w : World) : Calls Tryz.prog 34 #[.int .i64 x, .int .i64 4] w fun e w' => e = .returned (.bool (upB x 15)) ∧ w' = w := by
  have hsh : ∀ w, (Op.shift BinOp.shl IntKind.i64 1 IntKind.i64 4).run Tryz.prog w = .ok (.int .i64 16) w := fun _ => by kernel_rfl
  have hu : upB x 15 = (decide (0 ≤ x) && decide (x < 16)) := by unfold upB; congr 1; rw [Bool.eq_iff_iff]; simp; omega
  rw [hu]
  by_cases h0 : 0 ≤ x
  · have h1 : decide (0 ≤ x) = true := by simpa using h0
    rw [h1, Bool.true_and]
    go_enter Tryz.func34, Tryz.ntmps34
    go_wp2
    go_ret
    exact ⟨rfl, rfl⟩
  · have h1 : decide (0 ≤ x) = false := by simpa using h0
    rw [h1, Bool.false_and]
    go_enter Tryz.func34, Tryz.ntmps34
    go_wp2
    go_ret
    exact ⟨rfl, rfl⟩

theorem rRows_c (a : Option Addr) (cap : Nat) (ks : List Rec) (w : World) (hl : ks.length ≤ maxLen) (hs : ∀ k ∈ ks, k.n.size ≤ 1048576 ∧ k.tg.size ≤ 1048576) (h : RecsLie w a ks) :
    Calls Tryz.prog 35 #[.slice a ks.length cap] w fun e w' => e = .returned (.bool (mayRs ks)) ∧ Below w.heap.size w w' := by
  have Hno : Hid (∀ (j : Nat) (r : Rec), ks[j]? = some r → mayR r = false → ks.all mayR = false) := fun j r => all_not
  have Hyes : Hid ((∀ (j : Nat) (r : Rec), ks[j]? = some r → mayR r = true) → ks.all mayR = true) := all_so
  have hv : mayRs ks = (ks.all mayR && decide (ks.length ≤ 32)) := rfl
  have hd : decide ((ks.length : Int) ≤ 32) = decide (ks.length ≤ 32) := by rw [Bool.eq_iff_iff]; simp; omega
  generalize mayRs ks = V at *
  generalize ks.all mayR = A at *
  generalize decide (ks.length ≤ 32) = D at *
  have HV : Hid (V = (A && D)) := hv
  have H : Hid (∀ (j : Nat) (r : Rec), ks[j]? = some r → ∃ x, a = some x ∧ RecFrom w (x.add (j * 7)) r) := fun j r hj => by
    rcases h with rfl | ⟨x, rfl, h⟩
    · simp at hj
    · exact ⟨x, rfl, h j r hj⟩
  have Hs : Hid (∀ (j : Nat) (k : Rec), ks[j]? = some k → k.n.size ≤ 1048576 ∧ k.tg.size ≤ 1048576) := fun j k hj => hs k (List.mem_of_getElem? hj)
  have hl2 : ks.length ≤ 9223372036854775807 := by unfold maxLen at hl; exact hl
  clear h hs hl hv
  go_enter Tryz.func35, Tryz.ntmps35
  go_wp2
  go_loopw [3] (fun i wr => ∃ j : Nat, j ≤ ks.length ∧ i = .int .i64 j ∧ Hid (∀ (i : Nat) (r : Rec), i < j → ks[i]? = some r → mayR r = true) ∧ Below w.heap.size w wr) (fun i _ => ks.length - (intOf i).toNat)
  case atStart => exact ⟨0, Nat.zero_le _, rfl, fun i r hi => by omega, Below.refl _ _⟩
  case round =>
    obtain ⟨j, hj, rfl, hall, B⟩ := hrel
    by_cases hlt : j < ks.length
    · obtain ⟨r, hr⟩ : ∃ r, ks[j]? = some r := ⟨ks[j], List.getElem?_eq_getElem hlt⟩
      obtain ⟨x, rfl, hrec⟩ := H.out j r hr
      have hrec2 : Hid (RecFrom wr (x.add (j * 7)) r) := hrec.keep (B.block _ hrec.lt)
      have hn : Hid (mayR r = false → A = false) := Hno.out j r hr
      have hsz := Hs.out j r hr
      have hall' : Hid (mayR r = true → ∀ (i : Nat) (q : Rec), i < j + 1 → ks[i]? = some q → mayR q = true) := fun hk i q hi hq => by
        by_cases e : i = j
        · subst e; rw [hr] at hq; cases hq; exact hk
        · exact hall.out i q (by omega) hq
      have HM : Hid (∀ w, Calls Tryz.prog 69 #[.agg #[.string r.n, .int .i64 r.ty, .int .i64 r.ttl, .int .i64 r.ad, .string r.tg, .string r.tx, .int .i64 r.se]] w fun e w' => e = .returned (.bool (mayR r)) ∧ Below w.heap.size w w') := fun w => refMay_c r w hsz.1 hsz.2
      obtain ⟨n, ty, ttl, ad, tg, tx, se⟩ := r
      obtain ⟨h0, h1, h2, h3, h4, h5, h6⟩ := hrec2.out
      simp only at h0 h1 h2 h3 h4 h5 h6 HM
      clear hall Hno hsz hrec hr hrec2 H
      cases hk : mayR ⟨n, ty, ttl, ad, tg, tx, se⟩ with
      | false =>
        rw [hk] at HM
        have HA : Hid (A = false) := hn.out hk
        clear hk hall' hn
        go_wp2_with fail
        refine (HM.out _).mono ?_; rintro e w1 ⟨rfl, hb1⟩
        replace B := B.trans (hb1.mono B.size)
        clear h0 h1 h2 h3 h4 h5 h6 hb1
        go_wp2
        go_ret
        exact ⟨by rw [HV.out, HA.out]; rfl, B⟩
      | true =>
        rw [hk] at HM
        have Hall : Hid (∀ (i : Nat) (q : Rec), i < j + 1 → ks[i]? = some q → mayR q = true) := hall'.out hk
        clear hk hall' hn
        go_wp2_with fail
        refine (HM.out _).mono ?_; rintro e w1 ⟨rfl, hb1⟩
        replace B := B.trans (hb1.mono B.size)
        clear h0 h1 h2 h3 h4 h5 h6 hb1
        go_wp2
        go_roundw
        case rel => exact ⟨j + 1, by omega, by go_num, Hall, B⟩
        case measure => simp [intOf]; omega
    · obtain rfl : j = ks.length := by omega
      have HA : Hid (A = true) := Hyes.out (fun i r hi => hall.out i r ((List.getElem?_eq_some_iff.1 hi).1) hi)
      go_wp2
      go_ret
      exact ⟨by rw [HV.out, HA.out, Bool.true_and]; rfl, B⟩

set_option maxRecDepth 100000 in
set_option maxHeartbeats 4000000 in
/-- The document's own DnsMay. -/
theorem rDMay_c (m : Msg) (p : Pl) (w : World) (hf : MsgFits m) (hk : MsgBulk m 1048576) (hl : MsgLies w m p) : Calls Tryz.prog 12 #[mv m p] w fun e w' => e = .returned (.bool (mayM m)) ∧ Below w.heap.size w w' := by
  have U1 : Hid (∀ w, _) := fun w => dWithin_16 m.id w
  have U2 : Hid (∀ w, _) := fun w => dWithin_4 m.op w
  have U3 : Hid (∀ w, _) := fun w => dWithin_4 m.co w
  have b2 : ∀ rs : List Rec, (∀ r ∈ rs, r.n.size + r.tg.size + r.tx.size ≤ 1048576) → ∀ r ∈ rs, r.n.size ≤ 1048576 ∧ r.tg.size ≤ 1048576 := fun rs h r hr => by have := h r hr; omega
  have HA : Hid (∀ w', Below w.heap.size w w' → _) := fun w' hb => rRows_c p.aa p.ac m.an w' hf.al (b2 _ hk.a) (hl.a.below hb)
  have HS : Hid (∀ w', Below w.heap.size w w' → _) := fun w' hb => rRows_c p.sa p.sc m.sv w' hf.sl (b2 _ hk.s) (hl.s.below hb)
  have HD : Hid (∀ w', Below w.heap.size w w' → _) := fun w' hb => rRows_c p.da p.dc m.ad w' hf.dl (b2 _ hk.d) (hl.d.below hb)
  have hv : mayM m = (m.qs.all mayQ && upB m.id 65535 && upB m.op 15 && upB m.co 15 && decide (m.qs.length ≤ 4) && mayRs m.an && mayRs m.sv && mayRs m.ad && (decide (m.sz = 0) || (decide (512 ≤ m.sz) && decide (m.sz ≤ 65535)))) := rfl
  have hql : m.qs.length ≤ 9223372036854775807 := by have := hf.ql; unfold maxLen at this; exact this
  have BX : Hid (BoxM (w.alloc (.cells (cellsM m p) 25)) w.heap.size m p) := BoxM.new w m p
  have Hno : Hid (∀ (j : Nat) (r : Qn), m.qs[j]? = some r → mayQ r = false → m.qs.all mayQ = false) := fun j r => all_not
  have Hyes : Hid ((∀ (j : Nat) (r : Qn), m.qs[j]? = some r → mayQ r = true) → m.qs.all mayQ = true) := all_so
  have H : Hid (∀ (j : Nat) (r : Qn), m.qs[j]? = some r → ∃ x, p.qa = some x ∧ QnFrom w (x.add (j * 2)) r) := fun j r hj => by
    rcases hl.q with h | ⟨x, h0, h⟩
    · rw [h] at hj; simp at hj
    · exact ⟨x, h0, h j r hj⟩
  have Hs : Hid (∀ (j : Nat) (k : Qn), m.qs[j]? = some k → k.n.size ≤ 1048576) := fun j k hj => hk.q k (List.mem_of_getElem? hj)
  have h4d : decide ((m.qs.length : Int) ≤ 4) = decide (m.qs.length ≤ 4) := by rw [Bool.eq_iff_iff]; simp; omega
  have hz1 : (m.sz == 0) = decide (m.sz = 0) := by rw [Bool.eq_iff_iff]; simp
  generalize mayM m = V at *
  generalize m.qs.all mayQ = A at *
  generalize mayRs m.an = r1 at *
  generalize mayRs m.sv = r2 at *
  generalize mayRs m.ad = r3 at *
  generalize upB m.id 65535 = ea at *
  generalize upB m.op 15 = eb at *
  generalize upB m.co 15 = ec at *
  generalize decide (m.qs.length ≤ 4) = D4 at *
  generalize decide (m.sz = 0) = Z0 at *
  have hcell : Hid (∀ w', BoxM w' w.heap.size m p → _) := fun w' h => h.all
  have hbel : Hid (∀ w' w'', BoxM w' w.heap.size m p → Below w'.heap.size w' w'' → BoxM w'' w.heap.size m p) := fun w' w'' h1 h2 => h1.below h2
  have HV : Hid (_) := hv
  clear hf hl hk b2 hv
  simp only [mv, cellsM] at *
  obtain ⟨qa, qc, aa, ac, sa, sc, da, dc⟩ := p
  simp only at HA HS HD BX H hcell hbel ⊢
  go_enter Tryz.func12, Tryz.ntmps12
  go_wp2_with fail
  have B0 : Hid (Below w.heap.size w _) := (Below.refl w.heap.size w).alloc (Nat.le_refl _) (.cells #[.int .i64 m.id, .bool m.rsp, .int .i64 m.op, .bool m.au, .bool m.tr, .bool m.re, .int .i64 m.co, .slice qa m.qs.length qc, .slice aa m.an.length ac, .slice sa m.sv.length sc, .slice da m.ad.length dc, .int .i64 m.sz] 25)
  generalize w.alloc (.cells #[.int .i64 m.id, .bool m.rsp, .int .i64 m.op, .bool m.au, .bool m.tr, .bool m.re, .int .i64 m.co, .slice qa m.qs.length qc, .slice aa m.an.length ac, .slice sa m.sv.length sc, .slice da m.ad.length dc, .int .i64 m.sz] 25) = w0 at *
  go_loopw [3] (fun i wr => ∃ j : Nat, j ≤ m.qs.length ∧ i = .int .i64 j ∧ Hid (∀ (i : Nat) (r : Qn), i < j → m.qs[i]? = some r → mayQ r = true) ∧ Hid (Below w.heap.size w wr) ∧ Hid (BoxM wr w.heap.size m ⟨qa, qc, aa, ac, sa, sc, da, dc⟩)) (fun i _ => m.qs.length - (intOf i).toNat)
  case atStart => exact ⟨0, Nat.zero_le _, rfl, fun i r hi => by omega, B0, BX⟩
  case round =>
    obtain ⟨j, hj, rfl, hall, B, X⟩ := hrel
    obtain ⟨c0, c1, c2, c3, c4, c5, c6, c7, c8, c9, c10, c11⟩ := hcell.out _ X.out
    by_cases hlt : j < m.qs.length
    · obtain ⟨r, hr⟩ : ∃ r, m.qs[j]? = some r := ⟨m.qs[j], List.getElem?_eq_getElem hlt⟩
      obtain ⟨x, rfl, hrec⟩ := H.out j r hr
      have hrec2 : Hid (QnFrom wr (x.add (j * 2)) r) := hrec.keep (B.out.block _ hrec.lt)
      have hn : Hid (mayQ r = false → A = false) := Hno.out j r hr
      have hsz := Hs.out j r hr
      have hall' : Hid (mayQ r = true → ∀ (i : Nat) (q : Qn), i < j + 1 → m.qs[i]? = some q → mayQ q = true) := fun hk i q hi hq => by
        by_cases e : i = j
        · subst e; rw [hr] at hq; cases hq; exact hk
        · exact hall.out i q (by omega) hq
      have HN : Hid (∀ w, _) := fun w => nameMay_c r.n w hsz
      have HU : Hid (∀ w, _) := fun w => dWithin_16 r.ty w
      have hmq : mayQ r = (mayL (bs r.n) && upB r.ty 65535) := rfl
      have hQ2 : Hid (∀ w', Below wr.heap.size wr w' → QnFrom w' (x.add (j * 2)) r) := fun w' hb => hrec2.out.keep (hb.block _ hrec2.out.lt)
      generalize mayL (bs r.n) = g1 at *
      generalize upB r.ty 65535 = g2 at *
      have hu : Hid (∀ (w' : World), QnFrom w' (x.add (j * 2)) r → _) := fun w' h => h
      obtain ⟨n, ty⟩ := r
      obtain ⟨h0, h1⟩ := hrec2.out
      simp only at h0 h1 HN HU
      rw [hmq] at hn hall'
      clear hall Hno hsz hrec hr hrec2 H hmq
      cases g1
      · have HF : Hid (A = false) := hn.out rfl
        clear hall' hn HU
        go_wp2_with fail
        refine (HN.out _).mono ?_; rintro e w1 ⟨rfl, hb1⟩
        replace B := bel_trans B.out hb1
        clear h0 h1 hb1 c0 c1 c2 c3 c4 c5 c6 c7 c8 c9 c10 c11
        go_wp2
        go_ret
        exact ⟨by rw [HV.out, HF.out]; simp, B⟩
      · cases g2
        · have HF : Hid (A = false) := hn.out rfl
          clear hall' hn
          go_wp2_with fail
          refine (HN.out _).mono ?_; rintro e w1 ⟨rfl, hb1⟩
          have B1 : Hid (Below w.heap.size w w1) := bel_trans B.out hb1
          have X1 := hbel.out _ _ X.out hb1
          obtain ⟨k0, k1⟩ := hQ2.out _ hb1
          simp only at k0 k1
          clear h0 h1 hb1 c0 c1 c2 c3 c4 c5 c6 c7 c8 c9 c10 c11 B X
          obtain ⟨c0, c1, c2, c3, c4, c5, c6, c7, c8, c9, c10, c11⟩ := hcell.out _ X1
          go_wp2_with fail
          refine (HU.out _).mono ?_; rintro e w2 ⟨rfl, rfl⟩
          clear k0 k1 c0 c1 c2 c3 c4 c5 c6 c7 c8 c9 c10 c11
          go_wp2
          go_ret
          exact ⟨by rw [HV.out, HF.out]; simp, B1.out⟩
        · have Hall : Hid (∀ (i : Nat) (q : Qn), i < j + 1 → m.qs[i]? = some q → mayQ q = true) := hall'.out rfl
          clear hall' hn
          go_wp2_with fail
          refine (HN.out _).mono ?_; rintro e w1 ⟨rfl, hb1⟩
          have B1 : Hid (Below w.heap.size w w1) := bel_trans B.out hb1
          have X1 : Hid (_) := hbel.out _ _ X.out hb1
          obtain ⟨k0, k1⟩ := hQ2.out _ hb1
          simp only at k0 k1
          clear h0 h1 hb1 c0 c1 c2 c3 c4 c5 c6 c7 c8 c9 c10 c11 B X
          obtain ⟨c0, c1, c2, c3, c4, c5, c6, c7, c8, c9, c10, c11⟩ := hcell.out _ X1.out
          go_wp2_with fail
          refine (HU.out _).mono ?_; rintro e w2 ⟨rfl, rfl⟩
          clear k0 k1 c0 c1 c2 c3 c4 c5 c6 c7 c8 c9 c10 c11
          go_wp2
          go_roundw
          case rel => exact ⟨j + 1, by omega, by go_num, Hall, B1, X1⟩
          case measure => simp [intOf]; omega
    · obtain rfl : j = m.qs.length := by omega
      have HF : Hid (A = true) := Hyes.out (fun i r hi => hall.out i r ((List.getElem?_eq_some_iff.1 hi).1) hi)
      have di : decide ((m.qs.length : Int) < (m.qs.length : Int)) = false := by simp
      clear hall H Hno Hyes Hs
      go_wp2_with fail
      refine (U1.out _).mono ?_; rintro e w' ⟨rfl, rfl⟩
      cases ea
      · go_wp2
        go_ret
        exact ⟨by rw [HV.out, HF.out]; simp, B.out⟩
      go_wp2_with fail
      refine (U2.out _).mono ?_; rintro e w' ⟨rfl, rfl⟩
      cases eb
      · go_wp2
        go_ret
        exact ⟨by rw [HV.out, HF.out]; simp, B.out⟩
      go_wp2_with fail
      refine (U3.out _).mono ?_; rintro e w' ⟨rfl, rfl⟩
      cases ec
      · go_wp2
        go_ret
        exact ⟨by rw [HV.out, HF.out]; simp, B.out⟩
      cases D4
      · go_wp2
        go_ret
        exact ⟨by rw [HV.out, HF.out]; simp, B.out⟩
      go_wp2_with fail
      refine (HA.out _ B.out).mono ?_; rintro e w1 ⟨rfl, hb⟩
      have B1 : Hid (Below w.heap.size w w1) := bel_trans B.out hb
      have X1 : Hid (_) := hbel.out _ _ X.out hb
      clear c0 c1 c2 c3 c4 c5 c6 c7 c8 c9 c10 c11 hb B X HA
      obtain ⟨c0, c1, c2, c3, c4, c5, c6, c7, c8, c9, c10, c11⟩ := hcell.out _ X1.out
      cases r1
      · go_wp2
        go_ret
        exact ⟨by rw [HV.out, HF.out]; simp, B1.out⟩
      go_wp2_with fail
      refine (HS.out _ B1.out).mono ?_; rintro e w2 ⟨rfl, hb⟩
      have B2 : Hid (Below w.heap.size w w2) := bel_trans B1.out hb
      have X2 : Hid (_) := hbel.out _ _ X1.out hb
      clear c0 c1 c2 c3 c4 c5 c6 c7 c8 c9 c10 c11 hb B1 X1 HS
      obtain ⟨c0, c1, c2, c3, c4, c5, c6, c7, c8, c9, c10, c11⟩ := hcell.out _ X2.out
      cases r2
      · go_wp2
        go_ret
        exact ⟨by rw [HV.out, HF.out]; simp, B2.out⟩
      go_wp2_with fail
      refine (HD.out _ B2.out).mono ?_; rintro e w3 ⟨rfl, hb⟩
      have B3 : Hid (Below w.heap.size w w3) := bel_trans B2.out hb
      have X3 : Hid (_) := hbel.out _ _ X2.out hb
      clear c0 c1 c2 c3 c4 c5 c6 c7 c8 c9 c10 c11 hb B2 X2 HD
      obtain ⟨c0, c1, c2, c3, c4, c5, c6, c7, c8, c9, c10, c11⟩ := hcell.out _ X3.out
      cases r3
      · go_wp2
        go_ret
        exact ⟨by rw [HV.out, HF.out]; simp, B3.out⟩
      cases Z0
      · cases d5 : decide (512 ≤ m.sz)
        · go_wp2
          go_ret
          exact ⟨by rw [HV.out, HF.out, d5]; simp, B3.out⟩
        · go_wp2
          go_ret
          exact ⟨by rw [HV.out, HF.out, d5]; simp, B3.out⟩
      · go_wp2
        go_ret
        exact ⟨by rw [HV.out, HF.out]; simp, B3.out⟩
end Go.Proofs.YtdmooggmoihggaaGreatDoor
