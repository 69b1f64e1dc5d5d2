/-
  Contracts of the laws' SameInts, SameReserves and SameConfig, at lists and configurations that are alike.
-/
import Derived.Test.YtedbihckdbpebaaConfMem
import Derived.Test.YtedbihckdbpebaaRecSame
namespace Go.Proofs.Ytedbihckdbpebaa
open Go.ChangeShapes Go.WideShapes Go.ChangeAt Go.RowKit Go.Pin Go.PlainAid

theorem sameNs_none (a b : Option Addr) (c d : Nat) (w : World) :
    Calls Try.prog 40 #[.slice a 0 c, .slice b 0 d] w fun e w' => e = .returned (.bool true) ∧ w' = w := by
  go_enter Try.func40, Try.ntmps40
  go_wp2
  go_rounds 1
  go_ret
  exact ⟨rfl, rfl⟩
theorem sameNs_from (x y : Addr) (c d : Nat) (rs : List Int) (w : World) (hl : rs.length ≤ 10000000000000) (hx : ∀ j r, rs[j]? = some r → w.cell? (x.add j) = some (.int .i64 r)) (hy : ∀ j r, rs[j]? = some r → w.cell? (y.add j) = some (.int .i64 r)) :
    Calls Try.prog 40 #[.slice (some x) rs.length c, .slice (some y) rs.length d] w fun e w' => e = .returned (.bool true) ∧ Below w.heap.size w w' := by
  have HX : Hid (∀ j r, rs[j]? = some r → w.cell? (x.add j) = some (.int .i64 r)) := hx
  have HY : Hid (∀ j r, rs[j]? = some r → w.cell? (y.add j) = some (.int .i64 r)) := hy
  clear hx hy
  go_enter Try.func40, Try.ntmps40
  go_wp2
  go_loopw [5] (fun i wr => ∃ j : Nat, j ≤ rs.length ∧ i = .int .i64 j ∧ Below w.heap.size w wr) (fun i _ => rs.length - (intOf i).toNat)
  case atStart => exact ⟨0, Nat.zero_le _, rfl, Below.refl _ _⟩
  case round =>
    obtain ⟨j, hj, rfl, B⟩ := hrel
    by_cases hlt : j < rs.length
    · obtain ⟨r, hr⟩ : ∃ r, rs[j]? = some r := ⟨_, List.getElem?_eq_getElem hlt⟩
      have X := HX.out j r hr
      have Y := HY.out j r hr
      have h0 := (B.cell (World.block_lt_of_cell? w _ X)).trans X
      have g0 := (B.cell (World.block_lt_of_cell? w _ Y)).trans Y
      have hlt' : (j : Int) < (rs.length : Int) := by omega
      clear X Y hr
      go_wp2
      go_quiet (fail)
      go_wp2
      exact ⟨⟨j + 1, by omega, by go_num, below_drewN B _⟩, by simp [intOf]; omega⟩
    · obtain rfl : j = rs.length := by omega
      go_wp2
      go_ret
      exact ⟨rfl, B⟩
theorem sameNs_c (a b : Option Addr) (n m c d : Nat) (ks : List Int) (w : World) (hn : n = ks.length) (hm : m = ks.length) (hl : ks.length ≤ 10000000000000) (ha : NumsLie w a ks) (hb : NumsLie w b ks) :
    Calls Try.prog 40 #[.slice a n c, .slice b m d] w fun e w' => e = .returned (.bool true) ∧ Below w.heap.size w w' := by
  subst hn hm
  rcases ha with rfl | ⟨x, rfl, ha⟩
  · exact (sameNs_none a b c d w).mono fun e w' ⟨h1, h2⟩ => ⟨h1, by rw [h2]; exact Below.refl _ _⟩
  · rcases hb with rfl | ⟨y, rfl, hb⟩
    · exact (sameNs_none _ b c d w).mono fun e w' ⟨h1, h2⟩ => ⟨h1, by rw [h2]; exact Below.refl _ _⟩
    · exact sameNs_from x y c d ks w hl ha hb

theorem Try.rsvFields : Try.prog.underlying 47 = some (.struct (Try.prog.fieldsOf 47)) := by kernel_rfl
theorem Try.rsvHeld : Try.prog.stoodInHeld 47 = false := by kernel_rfl
theorem eql_rsv (a : Rsv) (w : World) : (binOp .eql 47 (qv a) (qv a)).run Try.prog w = .ok (.bool true) w := by
  obtain ⟨a1, a2⟩ := a
  simp only [qv]
  rw [run_eql_struct, run_equalIn_agg _ _ _ _ _ Try.rsvFields Try.rsvHeld]
  simp [go_sem, Try.underlying47]
theorem sameVs_none (a b : Option Addr) (c d : Nat) (w : World) :
    Calls Try.prog 41 #[.slice a 0 c, .slice b 0 d] w fun e w' => e = .returned (.bool true) ∧ w' = w := by
  go_enter Try.func41, Try.ntmps41
  go_wp2
  go_rounds 1
  go_ret
  exact ⟨rfl, rfl⟩
theorem sameVs_from (x y : Addr) (c d : Nat) (rs : List Rsv) (w : World) (hl : rs.length ≤ 10000000000000) (hx : ∀ j r, rs[j]? = some r → RsvFrom w (x.add (j * 2)) r) (hy : ∀ j r, rs[j]? = some r → RsvFrom w (y.add (j * 2)) r) :
    Calls Try.prog 41 #[.slice (some x) rs.length c, .slice (some y) rs.length d] w fun e w' => e = .returned (.bool true) ∧ Below w.heap.size w w' := by
  have HX : Hid (∀ j r, rs[j]? = some r → RsvFrom w (x.add (j * 2)) r) := hx
  have HY : Hid (∀ j r, rs[j]? = some r → RsvFrom w (y.add (j * 2)) r) := hy
  clear hx hy
  go_enter Try.func41, Try.ntmps41
  go_wp2
  go_loopw [5] (fun i wr => ∃ j : Nat, j ≤ rs.length ∧ i = .int .i64 j ∧ Below w.heap.size w wr) (fun i _ => rs.length - (intOf i).toNat)
  case atStart => exact ⟨0, Nat.zero_le _, rfl, Below.refl _ _⟩
  case round =>
    obtain ⟨j, hj, rfl, B⟩ := hrel
    by_cases hlt : j < rs.length
    · obtain ⟨r, hr⟩ : ∃ r, rs[j]? = some r := ⟨_, List.getElem?_eq_getElem hlt⟩
      obtain ⟨h0, h1⟩ := (HX.out j r hr).below B
      obtain ⟨g0, g1⟩ := (HY.out j r hr).below B
      have hlt' : (j : Int) < (rs.length : Int) := by omega
      have hq := eql_rsv r
      clear hr
      obtain ⟨rc, rh⟩ := r
      simp only [qv] at h0 h1 g0 g1 hq
      go_wp2
      go_quiet (fail)
      go_wp2
      exact ⟨⟨j + 1, by omega, by go_num, below_drewN B _⟩, by simp [intOf]; omega⟩
    · obtain rfl : j = rs.length := by omega
      go_wp2
      go_ret
      exact ⟨rfl, B⟩
theorem sameVs_c (a b : Option Addr) (n m c d : Nat) (ks : List Rsv) (w : World) (hn : n = ks.length) (hm : m = ks.length) (hl : ks.length ≤ 10000000000000) (ha : RsvsLie w a ks) (hb : RsvsLie w b ks) :
    Calls Try.prog 41 #[.slice a n c, .slice b m d] w fun e w' => e = .returned (.bool true) ∧ Below w.heap.size w w' := by
  subst hn hm
  rcases ha with rfl | ⟨x, rfl, ha⟩
  · exact (sameVs_none a b c d w).mono fun e w' ⟨h1, h2⟩ => ⟨h1, by rw [h2]; exact Below.refl _ _⟩
  · rcases hb with rfl | ⟨y, rfl, hb⟩
    · exact (sameVs_none _ b c d w).mono fun e w' ⟨h1, h2⟩ => ⟨h1, by rw [h2]; exact Below.refl _ _⟩
    · exact sameVs_from x y c d ks w hl ha hb

set_option maxHeartbeats 1000000 in
theorem sameCf_c (m : Cf) (p q : CPl) (w : World) (h1 : m.ex.length ≤ 10000000000000) (h2 : m.rs.length ≤ 10000000000000) (h3 : m.st.length ≤ 1000000000) (hp : CfLies w m p) (hq : CfLies w m q) :
    Calls Try.prog 22 #[cv m p, cv m q] w fun e w' => e = .returned (.bool true) ∧ Below w.heap.size w w' := by
  have HQ : Hid (∀ w', Below w.heap.size w w' → _) := fun w' hb => sameNs_c p.ea q.ea _ _ p.ec q.ec m.ex w' rfl rfl h1 (hp.e.below hb) (hq.e.below hb)
  have HA : Hid (∀ w', Below w.heap.size w w' → _) := fun w' hb => sameVs_c p.ra q.ra _ _ p.rc q.rc m.rs w' rfl rfl h2 (hp.r.below hb) (hq.r.below hb)
  have HS : Hid (∀ w', Below w.heap.size w w' → _) := fun w' hb => sameRs_c p.sa q.sa _ _ p.sc q.sc m.st w' rfl rfl h3 (hp.s.below hb) (hq.s.below hb)
  have B0 : Hid (Below w.heap.size w ((w.alloc (.cells (cellsC m p) 26)).alloc (.cells (cellsC m q) 26))) := ((Below.refl w.heap.size w).alloc (Nat.le_refl _) _).alloc (by simp) _
  have XP : Hid (BoxC ((w.alloc (.cells (cellsC m p) 26)).alloc (.cells (cellsC m q) 26)) w.heap.size m p) := (BoxC.new w m p).below ((Below.refl _ _).alloc (Nat.le_refl _) _)
  have XQ : Hid (BoxC ((w.alloc (.cells (cellsC m p) 26)).alloc (.cells (cellsC m q) 26)) (w.heap.size + 1) m q) := by
    have := BoxC.new (w.alloc (.cells (cellsC m p) 26)) m q
    show BoxC _ _ _ _
    simpa using this
  have hbelP : Hid (∀ w' w'', BoxC w' w.heap.size m p → Below w'.heap.size w' w'' → BoxC w'' w.heap.size m p) := fun w' w'' h1 h2 => h1.below h2
  have hbelQ : Hid (∀ w' w'', BoxC w' (w.heap.size + 1) m q → Below w'.heap.size w' w'' → BoxC w'' (w.heap.size + 1) m q) := fun w' w'' h1 h2 => h1.below h2
  have hcP : Hid (∀ w', BoxC w' w.heap.size m p → _) := fun w' h => h.all
  have hcQ : Hid (∀ w', BoxC w' (w.heap.size + 1) m q → _) := fun w' h => h.all
  clear hp hq h1 h2 h3
  obtain ⟨fi, la, ex, rs, ti, zo, st⟩ := m
  obtain ⟨pea, pec, pra, prc, psa, psc⟩ := p
  obtain ⟨qea, qec, qra, qrc, qsa, qsc⟩ := q
  simp only [cv, cellsC] at *
  go_enter Try.func22, Try.ntmps22
  go_wp2_with fail
  refine (HQ.out _ B0.out).mono ?_; rintro e w1 ⟨rfl, hb1⟩
  have B1 : Hid (Below w.heap.size w w1) := bel_trans B0.out hb1
  have XP1 : Hid (_) := hbelP.out _ _ XP.out hb1
  have XQ1 : Hid (_) := hbelQ.out _ _ XQ.out hb1
  clear hb1 B0 XP XQ
  obtain ⟨c0, c1, c2, c3, c4, c5, c6⟩ := hcP.out _ XP1.out
  obtain ⟨d0, d1, d2, d3, d4, d5, d6⟩ := hcQ.out _ XQ1.out
  go_wp2_with fail
  refine (HA.out _ B1.out).mono ?_; rintro e w2 ⟨rfl, hb2⟩
  have B2 : Hid (Below w.heap.size w w2) := bel_trans B1.out hb2
  have XP2 : Hid (_) := hbelP.out _ _ XP1.out hb2
  have XQ2 : Hid (_) := hbelQ.out _ _ XQ1.out hb2
  clear hb2 B1 XP1 XQ1 c0 c1 c2 c3 c4 c5 c6 d0 d1 d2 d3 d4 d5 d6
  obtain ⟨c0, c1, c2, c3, c4, c5, c6⟩ := hcP.out _ XP2.out
  obtain ⟨d0, d1, d2, d3, d4, d5, d6⟩ := hcQ.out _ XQ2.out
  go_wp2_with fail
  refine (HS.out _ B2.out).mono ?_; rintro e w3 ⟨rfl, hb3⟩
  have B3 : Hid (Below w.heap.size w w3) := bel_trans B2.out hb3
  clear hb3
  go_wp2
  go_ret
  exact ⟨rfl, B3.out⟩

end Go.Proofs.Ytedbihckdbpebaa
