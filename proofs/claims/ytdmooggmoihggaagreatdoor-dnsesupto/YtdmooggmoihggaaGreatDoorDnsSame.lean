/-
  Contracts of the laws' SameQuestions, SameRRs and SameDns, at lists and messages that are alike.
-/
import Derived.Test.YtdmooggmoihggaaGreatDoorDnsMem
import Derived.Deep.QuietTactic
import Derived.BigQuiet
import Derived.WalkSmall
namespace Go.Proofs.YtdmooggmoihggaaGreatDoor
set_option maxRecDepth 100000
open Go.ChangeShapes Go.WideShapes Go.ChangeAt Go.RowKit Go.Pin Go.PlainAid

theorem sameRs_none (a b : Option Addr) (c d : Nat) (w : World) :
    Calls Tryz.prog 28 #[.slice a 0 c, .slice b 0 d] w fun e w' => e = .returned (.bool true) ∧ w' = w := by
  go_enter Tryz.func28, Tryz.ntmps28
  go_wp2
  go_rounds 1
  go_ret
  exact ⟨rfl, rfl⟩
theorem sameQs_none (a b : Option Addr) (c d : Nat) (w : World) :
    Calls Tryz.prog 27 #[.slice a 0 c, .slice b 0 d] w fun e w' => e = .returned (.bool true) ∧ w' = w := by
  go_enter Tryz.func27, Tryz.ntmps27
  go_wp2
  go_rounds 1
  go_ret
  exact ⟨rfl, rfl⟩
theorem QnFrom.below {w w' : World} {y : Addr} {r : Qn} (h : QnFrom w y r) {n : Nat} (hb : Below n w w') (hn : y.block < n) : QnFrom w' y r :=
  ⟨(hb.cell hn).trans h.1, (hb.cell (p := ⟨y.block, y.off + 1, none⟩) hn).trans h.2⟩

theorem sameQs_from (x y : Addr) (c d : Nat) (rs : List Qn) (w : World) (hl : rs.length ≤ 1000000000) (hx : ∀ j r, rs[j]? = some r → QnFrom w (x.add (j * 2)) r) (hy : ∀ j r, rs[j]? = some r → QnFrom w (y.add (j * 2)) r) :
    Calls Tryz.prog 27 #[.slice (some x) rs.length c, .slice (some y) rs.length d] w fun e w' => e = .returned (.bool true) ∧ Below w.heap.size w w' := by
  have HX : Hid (∀ j r, rs[j]? = some r → QnFrom w (x.add (j * 2)) r) := hx
  have HY : Hid (∀ j r, rs[j]? = some r → QnFrom w (y.add (j * 2)) r) := hy
  clear hx hy
  go_enter Tryz.func27, Tryz.ntmps27
  go_wp2
  go_loopw [5] (fun i wr => ∃ j : Nat, j ≤ rs.length ∧ i = .int .i64 j ∧ Below w.heap.size w wr) (fun i _ => rs.length - (intOf i).toNat)
  case atStart => exact ⟨0, Nat.zero_le _, rfl, Below.refl _ _⟩
  case round =>
    obtain ⟨j, hj, rfl, B⟩ := hrel
    by_cases hlt : j < rs.length
    · obtain ⟨r, hr⟩ : ∃ r, rs[j]? = some r := ⟨_, List.getElem?_eq_getElem hlt⟩
      have X := HX.out j r hr
      have Y := HY.out j r hr
      obtain ⟨h0, h1⟩ := X.below B X.lt
      obtain ⟨g0, g1⟩ := Y.below B Y.lt
      have hlt' : (j : Int) < (rs.length : Int) := by omega
      clear X Y hr
      obtain ⟨n, a⟩ := r
      simp only at h0 h1 g0 g1
      go_wp2
      go_quiet (fail)
      go_wp2
      exact ⟨⟨j + 1, by omega, by go_num, below_drewN B _⟩, by simp [intOf]; omega⟩
    · obtain rfl : j = rs.length := by omega
      go_wp2
      go_ret
      exact ⟨rfl, B⟩

theorem sameRs_from (x y : Addr) (c d : Nat) (rs : List Rec) (w : World) (hl : rs.length ≤ 1000000000) (hx : ∀ j r, rs[j]? = some r → RecFrom w (x.add (j * 7)) r) (hy : ∀ j r, rs[j]? = some r → RecFrom w (y.add (j * 7)) r) :
    Calls Tryz.prog 28 #[.slice (some x) rs.length c, .slice (some y) rs.length d] w fun e w' => e = .returned (.bool true) ∧ Below w.heap.size w w' := by
  have HX : Hid (∀ j r, rs[j]? = some r → RecFrom w (x.add (j * 7)) r) := hx
  have HY : Hid (∀ j r, rs[j]? = some r → RecFrom w (y.add (j * 7)) r) := hy
  clear hx hy
  go_enter Tryz.func28, Tryz.ntmps28
  go_wp2
  go_loopw [5] (fun i wr => ∃ j : Nat, j ≤ rs.length ∧ i = .int .i64 j ∧ Below w.heap.size w wr) (fun i _ => rs.length - (intOf i).toNat)
  case atStart => exact ⟨0, Nat.zero_le _, rfl, Below.refl _ _⟩
  case round =>
    obtain ⟨j, hj, rfl, B⟩ := hrel
    by_cases hlt : j < rs.length
    · obtain ⟨r, hr⟩ : ∃ r, rs[j]? = some r := ⟨_, List.getElem?_eq_getElem hlt⟩
      have X := HX.out j r hr
      have Y := HY.out j r hr
      obtain ⟨h0, h1, h2, h3, h4, h5, h6⟩ := X.below B X.lt
      obtain ⟨g0, g1, g2, g3, g4, g5, g6⟩ := Y.below B Y.lt
      have hlt' : (j : Int) < (rs.length : Int) := by omega
      have hq := eql_rec r r
      rw [(sameR_iff r r).2 rfl] at hq
      clear X Y hr
      obtain ⟨n, ty, ttl, ad, tg, tx, se⟩ := r
      simp only [rv] at h0 h1 h2 h3 h4 h5 h6 g0 g1 g2 g3 g4 g5 g6 hq
      go_wp2
      go_quiet (fail)
      go_wp2
      exact ⟨⟨j + 1, by omega, by go_num, below_drewN B _⟩, by simp [intOf]; omega⟩
    · obtain rfl : j = rs.length := by omega
      go_wp2
      go_ret
      exact ⟨rfl, B⟩

theorem sameQs_c (a b : Option Addr) (n m c d : Nat) (ks : List Qn) (w : World) (hn : n = ks.length) (hm : m = ks.length) (hl : ks.length ≤ 1000000000) (ha : QuesLie w a ks) (hb : QuesLie w b ks) :
    Calls Tryz.prog 27 #[.slice a n c, .slice b m d] w fun e w' => e = .returned (.bool true) ∧ Below w.heap.size w w' := by
  subst hn hm
  rcases ha with rfl | ⟨x, rfl, ha⟩
  · exact (sameQs_none a b c d w).mono fun e w' ⟨h1, h2⟩ => ⟨h1, by rw [h2]; exact Below.refl _ _⟩
  · rcases hb with rfl | ⟨y, rfl, hb⟩
    · exact (sameQs_none _ b c d w).mono fun e w' ⟨h1, h2⟩ => ⟨h1, by rw [h2]; exact Below.refl _ _⟩
    · exact sameQs_from x y c d ks w hl ha hb
theorem sameRs_c (a b : Option Addr) (n m c d : Nat) (ks : List Rec) (w : World) (hn : n = ks.length) (hm : m = ks.length) (hl : ks.length ≤ 1000000000) (ha : RecsLie w a ks) (hb : RecsLie w b ks) :
    Calls Tryz.prog 28 #[.slice a n c, .slice b m d] w fun e w' => e = .returned (.bool true) ∧ Below w.heap.size w w' := by
  subst hn hm
  rcases ha with rfl | ⟨x, rfl, ha⟩
  · exact (sameRs_none a b c d w).mono fun e w' ⟨h1, h2⟩ => ⟨h1, by rw [h2]; exact Below.refl _ _⟩
  · rcases hb with rfl | ⟨y, rfl, hb⟩
    · exact (sameRs_none _ b c d w).mono fun e w' ⟨h1, h2⟩ => ⟨h1, by rw [h2]; exact Below.refl _ _⟩
    · exact sameRs_from x y c d ks w hl ha hb

set_option maxHeartbeats 1000000 in
theorem sameDns_c (m : Msg) (p q : Pl) (w : World) (h1 : m.qs.length ≤ 1000000000) (h2 : m.an.length ≤ 1000000000) (h3 : m.sv.length ≤ 1000000000) (h4 : m.ad.length ≤ 1000000000) (hp : MsgLies w m p) (hq : MsgLies w m q) :
    Calls Tryz.prog 10 #[mv m p, mv m q] w fun e w' => e = .returned (.bool true) ∧ Below w.heap.size w w' := by
  have HQ : Hid (∀ w', Below w.heap.size w w' → _) := fun w' hb => sameQs_c p.qa q.qa _ _ p.qc q.qc m.qs w' rfl rfl h1 (hp.q.below hb) (hq.q.below hb)
  have HA : Hid (∀ w', Below w.heap.size w w' → _) := fun w' hb => sameRs_c p.aa q.aa _ _ p.ac q.ac m.an w' rfl rfl h2 (hp.a.below hb) (hq.a.below hb)
  have HS : Hid (∀ w', Below w.heap.size w w' → _) := fun w' hb => sameRs_c p.sa q.sa _ _ p.sc q.sc m.sv w' rfl rfl h3 (hp.s.below hb) (hq.s.below hb)
  have HD : Hid (∀ w', Below w.heap.size w w' → _) := fun w' hb => sameRs_c p.da q.da _ _ p.dc q.dc m.ad w' rfl rfl h4 (hp.d.below hb) (hq.d.below hb)
  have B0 : Hid (Below w.heap.size w ((w.alloc (.cells (cellsM m p) 25)).alloc (.cells (cellsM m q) 25))) := ((Below.refl w.heap.size w).alloc (Nat.le_refl _) _).alloc (by simp) _
  have XP : Hid (BoxM ((w.alloc (.cells (cellsM m p) 25)).alloc (.cells (cellsM m q) 25)) w.heap.size m p) := (BoxM.new w m p).below ((Below.refl _ _).alloc (Nat.le_refl _) _)
  have XQ : Hid (BoxM ((w.alloc (.cells (cellsM m p) 25)).alloc (.cells (cellsM m q) 25)) (w.heap.size + 1) m q) := by
    have := BoxM.new (w.alloc (.cells (cellsM m p) 25)) m q
    show BoxM _ _ _ _
    simpa using this
  have hbelP : Hid (∀ w' w'', BoxM w' w.heap.size m p → Below w'.heap.size w' w'' → BoxM w'' w.heap.size m p) := fun w' w'' h1 h2 => h1.below h2
  have hbelQ : Hid (∀ w' w'', BoxM w' (w.heap.size + 1) m q → Below w'.heap.size w' w'' → BoxM w'' (w.heap.size + 1) m q) := fun w' w'' h1 h2 => h1.below h2
  have hcP : Hid (∀ w', BoxM w' w.heap.size m p → _) := fun w' h => h.all
  have hcQ : Hid (∀ w', BoxM w' (w.heap.size + 1) m q → _) := fun w' h => h.all
  clear hp hq
  obtain ⟨id, rsp, op, au, tr, re, co, qs, an, sv, ad, sz⟩ := m
  obtain ⟨pqa, pqc, paa, pac, psa, psc, pda, pdc⟩ := p
  obtain ⟨qqa, qqc, qaa, qac, qsa, qsc, qda, qdc⟩ := q
  simp only [mv, cellsM] at *
  go_enter Tryz.func10, Tryz.ntmps10
  go_wp2_with fail
  refine (HQ.out _ B0.out).mono ?_; rintro e w1 ⟨rfl, hb1⟩
  have B1 : Hid (Below w.heap.size w w1) := bel_trans B0.out hb1
  have XP1 : Hid (_) := hbelP.out _ _ XP.out hb1
  have XQ1 : Hid (_) := hbelQ.out _ _ XQ.out hb1
  clear hb1 B0 XP XQ 
  obtain ⟨c0, c1, c2, c3, c4, c5, c6, c7, c8, c9, c10, c11⟩ := hcP.out _ XP1.out
  obtain ⟨d0, d1, d2, d3, d4, d5, d6, d7, d8, d9, d10, d11⟩ := hcQ.out _ XQ1.out
  go_wp2_with fail
  refine (HA.out _ B1.out).mono ?_; rintro e w2 ⟨rfl, hb2⟩
  have B2 : Hid (Below w.heap.size w w2) := bel_trans B1.out hb2
  have XP2 : Hid (_) := hbelP.out _ _ XP1.out hb2
  have XQ2 : Hid (_) := hbelQ.out _ _ XQ1.out hb2
  clear hb2 B1 XP1 XQ1 c0 c1 c2 c3 c4 c5 c6 c7 c8 c9 c10 c11 d0 d1 d2 d3 d4 d5 d6 d7 d8 d9 d10 d11
  obtain ⟨c0, c1, c2, c3, c4, c5, c6, c7, c8, c9, c10, c11⟩ := hcP.out _ XP2.out
  obtain ⟨d0, d1, d2, d3, d4, d5, d6, d7, d8, d9, d10, d11⟩ := hcQ.out _ XQ2.out
  go_wp2_with fail
  refine (HS.out _ B2.out).mono ?_; rintro e w3 ⟨rfl, hb3⟩
  have B3 : Hid (Below w.heap.size w w3) := bel_trans B2.out hb3
  have XP3 : Hid (_) := hbelP.out _ _ XP2.out hb3
  have XQ3 : Hid (_) := hbelQ.out _ _ XQ2.out hb3
  clear hb3 B2 XP2 XQ2 c0 c1 c2 c3 c4 c5 c6 c7 c8 c9 c10 c11 d0 d1 d2 d3 d4 d5 d6 d7 d8 d9 d10 d11
  obtain ⟨c0, c1, c2, c3, c4, c5, c6, c7, c8, c9, c10, c11⟩ := hcP.out _ XP3.out
  obtain ⟨d0, d1, d2, d3, d4, d5, d6, d7, d8, d9, d10, d11⟩ := hcQ.out _ XQ3.out
  go_wp2_with fail
  refine (HD.out _ B3.out).mono ?_; rintro e w4 ⟨rfl, hb4⟩
  have B4 : Hid (Below w.heap.size w w4) := bel_trans B3.out hb4
  clear hb4
  go_wp2
  go_ret
  exact ⟨rfl, B4.out⟩

end Go.Proofs.YtdmooggmoihggaaGreatDoor
