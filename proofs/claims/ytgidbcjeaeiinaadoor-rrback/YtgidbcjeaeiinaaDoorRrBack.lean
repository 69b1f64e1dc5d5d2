/-
  pinfoldlaw4.RrBack, at every list of records: it returns true; what came in reads as it did. No condition; the row's listed variable (rr.soaTimes) is tied to the program's text by the given tie.
-/
import Derived.Test.YtgidbcjeaeiinaaDoorCards
import Derived.Test.YtgidbcjeaeiinaaDoorTie
import Derived.Test.YtgidbcjeaeiinaaDoorAwake4
import Derived.Test.YtgidbcjeaeiinaaDoorRrOpen
import Derived.Deep.RegionHeld3
import Derived.WalkKit
import Derived.ProofKit
import Derived.OpenShut
import Derived.Carry
import Derived.Deep.DeepHandedRow
import Derived.Lib.LaidTab
namespace Go.Proofs.YtgidbcjeaeiinaaDoor
set_option maxRecDepth 100000
namespace rrBack
open Go.ChangeShapes Go.WideShapes Go.ChangeAt Go.RowKit Go.Pin Go.PlainAid

/-! ### what is put, one behind the other -/
abbrev En := Nat × Rec
def enAt (es : List En) (i : Nat) : En := es.getD i (0, zeroR)
def nextAt (es : List En) (n : Nat) (i : Nat) : Nat := if i + 1 < es.length then (enAt es (i + 1)).1 else n
structure Back (sL : List UInt8) (ks : List Kn) (es : List En) : Prop where
  good : Go.Pin.Good sL ks
  len : sL.length ≤ 500 * es.length
  klen : ks.length ≤ 24 * es.length
  kl : ∀ k ∈ ks, k.1.length ≤ 72
  told : ∀ i, i < es.length → ∀ t, getRec (mk (sL ++ t)) ((enAt es i).1 : Nat) = some ((enAt es i).2, ((nextAt es sL.length i : Nat) : Int))
theorem good_all {s : List UInt8} {ks : List Kn} (h : Go.Pin.Good s ks) : ks.all knownL = true := List.all_eq_true.2 fun k hk => (h k hk).1
theorem putL_some {A : List UInt8} {ks : List Kn} {r : Rec} (hg : Go.Pin.Good A ks) (hA : A.length ≤ 60000) (hm : mayR r = true) : ∃ P ks', putL (A.length : Nat) ks r = some (P, ks') := by
  have hmm := hm
  simp only [mayR, Bool.and_eq_true] at hmm
  have hn := hmm.1.1.1.1.1.2
  have ht := hmm.1.1.2
  have hp : mayPutL (A.length : Nat) ks (bs r.n) = true := by simp [mayPutL, hn, good_all hg]; omega
  have g1 := good_name hg (bs r.n)
  have l1 := putS_len ks (labsL (bs r.n)) (fun x hx => labsL_ok hx)
  have l2 := labsL_len (bs r.n)
  unfold putL
  rw [hm, hp]
  simp only [Bool.and_self, if_true]
  generalize putS ks (labsL (bs r.n)) = N at *
  generalize ks ++ putN ks (A.length : Nat) (labsL (bs r.n)) = k1 at *
  obtain ⟨D, ks', hd⟩ : ∃ D ks', dataL ((A.length : Nat) + (N.length : Nat) + 10) k1 r = some (D, ks') := by
    unfold dataL
    by_cases h1 : r.ty = 1
    · rw [if_pos h1]; exact ⟨_, _, rfl⟩
    · rw [if_neg h1]
      have hq : mayPutL ((A.length : Nat) + (N.length : Nat) + 10) k1 (bs r.tg) = true := by simp [mayPutL, ht, good_all g1]; omega
      by_cases h2 : isN r.ty = true
      · rw [if_pos h2, if_pos hq]; exact ⟨_, _, rfl⟩
      · rw [if_neg h2]
        by_cases h3 : r.ty = 6
        · rw [if_pos h3, if_pos hq]
          have g2 : Go.Pin.Good (A ++ N ++ List.replicate 10 0) k1 := g1.more _
          have g3 := good_name g2 (bs r.tg)
          have e : (((A ++ N ++ List.replicate 10 0).length : Nat) : Int) = (A.length : Nat) + (N.length : Nat) + 10 := by simp; omega
          rw [e] at g3
          have m1 := putS_len k1 (labsL (bs r.tg)) (fun x hx => labsL_ok hx)
          have m2 := labsL_len (bs r.tg)
          have hq2 : mayPutL ((A.length : Nat) + (N.length : Nat) + 10 + (putS k1 (labsL (bs r.tg))).length) (k1 ++ putN k1 ((A.length : Nat) + (N.length : Nat) + 10) (labsL (bs r.tg))) (bs r.tg) = true := by simp only [mayPutL, ht, good_all g3, Bool.and_true, Bool.and_eq_true, decide_eq_true_eq]; omega
          rw [if_pos hq2]
          exact ⟨_, _, rfl⟩
        · rw [if_neg h3]
          split
          · exact ⟨_, _, rfl⟩
          · exact ⟨_, _, rfl⟩
  rw [hd]
  exact ⟨_, _, rfl⟩
theorem Back.next {sL : List UInt8} {ks : List Kn} {es : List En} {r : Rec} {P : List UInt8} {ks' : List Kn} (h : Back sL ks es) (hp : putL (sL.length : Nat) ks r = some (P, ks')) : Back (sL ++ P) ks' (es ++ [(sL.length, r)]) := by
  have hg := put_get h.good hp []
  have hl := putL_len hp
  refine ⟨hg.2, by have := h.len; simp; omega, by have := h.klen; simp; omega, fun k hk => ?_, fun i hi t => ?_⟩
  · rcases hl.2.2.2 k hk with h1 | h1
    · exact h1
    · exact h.kl k h1
  · simp only [List.length_append, List.length_singleton] at hi
    by_cases hlt : i < es.length
    · have e1 : enAt (es ++ [(sL.length, r)]) i = enAt es i := by unfold enAt; rw [List.getD_eq_getElem?_getD, List.getElem?_append_left hlt, ← List.getD_eq_getElem?_getD]
      have e2 : nextAt (es ++ [(sL.length, r)]) (sL ++ P).length i = nextAt es sL.length i := by
        unfold nextAt
        rw [if_pos (by simp; omega)]
        by_cases h1 : i + 1 < es.length
        · rw [if_pos h1]; unfold enAt; rw [List.getD_eq_getElem?_getD, List.getElem?_append_left h1, ← List.getD_eq_getElem?_getD]
        · rw [if_neg h1]
          have : i + 1 = es.length := by omega
          unfold enAt; rw [this]; simp [List.getD]
      rw [e1, e2, List.append_assoc]
      exact h.told i hlt (P ++ t)
    · obtain rfl : i = es.length := by omega
      have e1 : enAt (es ++ [(sL.length, r)]) es.length = (sL.length, r) := by unfold enAt; simp [List.getD]
      have e2 : nextAt (es ++ [(sL.length, r)]) (sL ++ P).length es.length = (sL ++ P).length := by unfold nextAt; rw [if_neg (by simp)]
      rw [e1, e2]
      exact (put_get h.good hp t).1

/-! ### rows in memory -/
theorem Tryd.infoInt : (Tryd.prog.info? 3).map (fun i => (i.zero, i.size, i.bytes)) = some (some (.int .i64 0), 1, 8) := by kernel_rfl
theorem Tryd.infoRR : (Tryd.prog.info? 24).map (fun i => (i.zero, i.size, i.bytes)) = some (some (.agg #[.string ByteArray.empty, .int .i64 0, .int .i64 0, .int .i64 0, .string ByteArray.empty, .string ByteArray.empty, .int .i64 0]), 7, 80) := by kernel_rfl
def Nums (w : World) (base : Nat) (v : Value) (ns : List Nat) : Prop := w.ownsRow base 3 1 v ns.length (ns.map fun n : Nat => Value.int .i64 (n : Int))
def Recs (w : World) (base : Nat) (v : Value) (rs : List Rec) : Prop := w.ownsRow base 24 7 v rs.length (rs.flatMap cellsR)
theorem row_below {w w' : World} {base : Nat} {e : TypeId} {s : Nat} {v : Value} {n : Nat} {xs : List Value} (h : w.ownsRow base e s v n xs) (hb : Below w.heap.size w w') : w'.ownsRow base e s v n xs := by
  obtain ⟨h1, h2⟩ := h
  refine ⟨h1, ?_⟩
  rcases h2 with h2 | ⟨g, cap, cur, hv, hg, hh, r⟩
  · exact .inl h2
  · exact .inr ⟨g, cap, cur, hv, hg, (hb.block g (Array.getElem?_eq_some_iff.1 hh).1).trans hh, r⟩
theorem row_form {w : World} {base : Nat} {e : TypeId} {s : Nat} {v : Value} {n : Nat} {xs : List Value} (h : w.ownsRow base e s v n xs) : ∃ a cap, v = .slice a n cap := by
  obtain ⟨_, h | ⟨g, cap, cur, hv, _⟩⟩ := h
  · exact ⟨none, 0, by rw [h.1, h.2]⟩
  · exact ⟨_, cap, hv⟩
theorem row_cell {w : World} {base : Nat} {e : TypeId} {s : Nat} {a : Option Addr} {n cap : Nat} {xs : List Value} (h : w.ownsRow base e s (.slice a n cap) n xs) (hn : 0 < n) : ∃ g, a = some ⟨g, 0, none⟩ ∧ g < w.heap.size ∧ ∀ j, j < n * s → w.cell? ⟨g, j, none⟩ = xs[j]? := by
  have hh := h
  obtain ⟨_, h | ⟨g, cap', cur, hv, hb, hg, _⟩⟩ := h
  · omega
  · simp only [Value.slice.injEq, true_and] at hv
    obtain ⟨rfl, rfl⟩ := hv
    exact ⟨g, rfl, (Array.getElem?_eq_some_iff.1 hg).1, fun j hj => World.ownsRow.cellAt hh j hj⟩
theorem owns_apart {w : World} {b1 b2 : Nat} {e1 e2 : TypeId} {s1 s2 : Nat} {v1 v2 : Value} {n1 n2 : Nat} {xs1 xs2 : List Value} (h1 : w.ownsRow b1 e1 s1 v1 n1 xs1) (h2 : w.ownsRow b2 e2 s2 v2 n2 xs2) (hne : e1 ≠ e2) : v1.ownBlock = none ∨ v1.ownBlock ≠ v2.ownBlock := by
  rcases h1.2 with ⟨rfl, _⟩ | ⟨g, cap, cur, rfl, _, hg, _⟩
  · exact .inl rfl
  · right
    rcases h2.2 with ⟨rfl, _⟩ | ⟨g2, cap2, cur2, rfl, _, hg2, _⟩
    · simp [Value.ownBlock]
    · simp only [Value.ownBlock, ne_eq, Option.some.injEq]
      rintro rfl
      rw [hg] at hg2
      simp only [Option.some.injEq, Obj.cells.injEq] at hg2
      exact hne hg2.2.1
theorem flat_at : ∀ (l : List Rec) (I : Nat) (r : Rec) (j : Nat), l[I]? = some r → j < 7 → (l.flatMap cellsR)[I * 7 + j]? = (cellsR r)[j]?
  | [], _, _, _, h, _ => by simp at h
  | a :: l, 0, r, j, h, hj => by
    simp only [List.getElem?_cons_zero, Option.some.injEq] at h
    subst h
    rw [List.flatMap_cons, Nat.zero_mul, Nat.zero_add, List.getElem?_append_left (by simp [cellsR]; omega)]
  | a :: l, I + 1, r, j, h, hj => by
    simp only [List.getElem?_cons_succ] at h
    rw [List.flatMap_cons, List.getElem?_append_right (by simp [cellsR]; omega)]
    have : (I + 1) * 7 + j - (cellsR a).length = I * 7 + j := by simp [cellsR]; omega
    rw [this]
    exact flat_at l I r j h hj
/-- From y on there lies a record. -/
def RecFrom (w : World) (y : Addr) (r : Rec) : Prop := w.cell? y = some (.string r.n) ∧ w.cell? ⟨y.block, y.off + 1, none⟩ = some (.int .i64 r.ty) ∧ w.cell? ⟨y.block, y.off + 2, none⟩ = some (.int .i64 r.ttl) ∧ w.cell? ⟨y.block, y.off + 3, none⟩ = some (.int .i64 r.ad) ∧ w.cell? ⟨y.block, y.off + 4, none⟩ = some (.string r.tg) ∧ w.cell? ⟨y.block, y.off + 5, none⟩ = some (.string r.tx) ∧ w.cell? ⟨y.block, y.off + 6, none⟩ = some (.int .i64 r.se)
theorem RecFrom.lt {w : World} {y : Addr} {r : Rec} (h : RecFrom w y r) : y.block < w.heap.size := World.block_lt_of_cell? w _ h.1
theorem RecFrom.below {w w' : World} {y : Addr} {r : Rec} (h : RecFrom w y r) {n : Nat} (hb : Below n w w') (hn : y.block < n) : RecFrom w' y r := by
  obtain ⟨h0, h1, h2, h3, h4, h5, h6⟩ := h
  exact ⟨(hb.cell hn).trans h0, (hb.cell (p := ⟨y.block, y.off + 1, none⟩) hn).trans h1, (hb.cell (p := ⟨y.block, y.off + 2, none⟩) hn).trans h2, (hb.cell (p := ⟨y.block, y.off + 3, none⟩) hn).trans h3, (hb.cell (p := ⟨y.block, y.off + 4, none⟩) hn).trans h4, (hb.cell (p := ⟨y.block, y.off + 5, none⟩) hn).trans h5, (hb.cell (p := ⟨y.block, y.off + 6, none⟩) hn).trans h6⟩
theorem from_recs {w : World} {x : Addr} {i : Nat} {r : Rec} (h : ∀ j, j < 7 → w.cell? (x.add (i * 7 + j)) = (cellsR r)[j]?) : RecFrom w (x.add (i * 7)) r := by
  have e : ∀ j, 0 < j → (⟨(x.add (i * 7)).block, (x.add (i * 7)).off + j, none⟩ : Addr) = x.add (i * 7 + j) := by
    intro j hj
    unfold Addr.add
    rw [if_neg (by omega : ¬ (i * 7 + j = 0))]
    by_cases hz : i * 7 = 0
    · rw [if_pos hz, hz]; simp
    · rw [if_neg hz]; simp only [Addr.mk.injEq, and_true, true_and]; omega
  refine ⟨h 0 (by omega), ?_, ?_, ?_, ?_, ?_, ?_⟩
  · rw [e 1 (by omega)]; exact h 1 (by omega)
  · rw [e 2 (by omega)]; exact h 2 (by omega)
  · rw [e 3 (by omega)]; exact h 3 (by omega)
  · rw [e 4 (by omega)]; exact h 4 (by omega)
  · rw [e 5 (by omega)]; exact h 5 (by omega)
  · rw [e 6 (by omega)]; exact h 6 (by omega)

set_option maxHeartbeats 4000000 in
theorem walk (a : Option Addr) (len cap : Nat) (R : Nat → Rec) (w : World) (hrs : IsRecs w a len R) (hL : Laid w) : Calls Tryd.prog 4 #[.slice a len cap] w fun e w' => e = .returned (.bool true) ∧ Below w.heap.size w w' := by
  have hlm : len ≤ 9223372036854775807 := by
    rcases hrs with ⟨_, h⟩ | ⟨_, _, h, _⟩
    · omega
    · unfold maxLen at h; exact h
  have HC : Hid (∀ i, i < len → ∃ x, a = some x ∧ IsRec (R i) ∧ RecFrom w (x.add (i * 7)) (R i)) := by
    intro i hi
    rcases hrs with ⟨_, h⟩ | ⟨x, rfl, _, h⟩
    · omega
    · exact ⟨x, rfl, (h i hi).1, from_recs (h i hi).2⟩
  have HL : Hid (Laid w) := hL
  obtain ⟨i0, hi0, hz0, hz1, hz2⟩ := info_parts Tryd.infoInt
  obtain ⟨i1, hi1, hy0, hy1, hy2⟩ := info_parts Tryd.infoRR
  clear hrs hL
  go_enter Tryd.func4, Tryd.ntmps4
  go_wp2_with fail
  refine (awake_yes _ HL.out).mono ?_; rintro e x1 ⟨rfl, B0⟩
  go_wp2_with fail
  have HB0 : Hid (Back [] [] []) := ⟨good_nil, by simp, by simp, by simp, fun i hi => by simp at hi⟩
  go_loopw [3, 4, 5, 6, 7] (fun s k p t i wr => ∃ (j : Nat) (sL : List UInt8) (ks : List Kn) (es : List En), j ≤ len ∧ j ≤ 12 ∧ es.length ≤ j ∧ i = .int .i64 j ∧ s = .string (mk sL) ∧ Hid (Knowns wr w.heap.size k ks) ∧ Hid (Nums wr w.heap.size p (es.map (·.1))) ∧ Hid (Recs wr w.heap.size t (es.map (·.2))) ∧ Below w.heap.size w wr ∧ Hid (Back sL ks es)) (fun _ _ _ _ i _ => 12 - (intOf i).toNat)
  case atStart => exact ⟨0, [], [], [], Nat.zero_le _, by omega, by simp, rfl, rfl, World.ownsRow_nil _ _ _ _, World.ownsRow_nil _ _ _ _, World.ownsRow_nil _ _ _ _, B0, HB0⟩
  case round =>
    clear B0 HB0
    obtain ⟨j, sL, ks, es, hj, hj12, hes, rfl, rfl, hkn, hnu, hte, B, hback⟩ := hrel
    have hsl := hback.out.len
    have hsz := size_mk sL
    obtain ⟨ka, kc, rfl, hkl⟩ := hkn.out.lies
    obtain ⟨pa, pc, rfl⟩ := row_form hnu.out
    obtain ⟨ta, tc, rfl⟩ := row_form hte.out
    have hcl : (es.map (·.2)).length = es.length := by simp
    have hcl1 : (es.map (·.1)).length = es.length := by simp
    rw [hcl1] at hnu
    rw [hcl] at hte
    rw [hcl1, hcl]
    clear hcl hcl1
    by_cases hlt : j < len ∧ j < 12
    · obtain ⟨hlt, hlt12⟩ := hlt
      obtain ⟨x, rfl, hir, hrec⟩ := HC.out j hlt
      have hrec2 : Hid (RecFrom wr (x.add (j * 7)) (R j)) := hrec.below B hrec.lt
      have hltr : (x.add (j * 7)).block < wr.heap.size := hrec2.out.lt
      have Hrec : Hid (RecFrom w (x.add (j * 7)) (R j)) := hrec
      have hltw : (x.add (j * 7)).block < w.heap.size := hrec.lt
      have hltj : (j : Int) < (len : Int) := by omega
      clear hrec
      generalize R j = r at *
      have hkl8 := hback.out.klen
      have hkm := hback.out.kl
      cases hmay : mayR r with
      | false =>
        have HP : Hid (Laid wr → _) := fun hL => rrPut_no (sL.length : Nat) ka ks.length kc ks r wr rfl hir.1 hir.2.1 ⟨by omega, by omega⟩ (by omega) (fun k hk => by have := hkm k hk; unfold maxLen; omega) hkl hL (putL_not hmay)
        have HM : Hid (∀ w, _) := fun w => rrMay_is r false w hir.1 hir.2.1 hmay
        obtain ⟨c0, c1, c2, c3, c4, c5, c6⟩ := hrec2.out
        obtain ⟨n, ty, ttl, ad, tg, tx, se⟩ := r
        simp only [rv] at *
        clear hkl hmay hkm
        go_wp2_with fail
        refine (HP.out (HL.out.below B)).mono ?_; rintro e w2 ⟨rfl, hb⟩
        have R1 : Hid (Knowns w2 w.heap.size (.slice ka ks.length kc) ks) := hkn.out.below hb
        have R2 : Hid (w2.ownsRow w.heap.size 3 1 (.slice pa es.length pc) es.length ((es.map (·.1)).map fun n : Nat => Value.int .i64 (n : Int))) := by have := row_below hnu.out hb; rwa [List.length_map] at this
        have R3 : Hid (w2.ownsRow w.heap.size 24 7 (.slice ta es.length tc) es.length ((es.map (·.2)).flatMap cellsR)) := by have := row_below hte.out hb; rwa [List.length_map] at this
        have hr2 : Hid (RecFrom w2 (x.add (j * 7)) ⟨n, ty, ttl, ad, tg, tx, se⟩) := hrec2.out.below hb hltr
        have hlt2 : (x.add (j * 7)).block < w2.heap.size := hr2.out.lt
        have B2 : Hid (Below w.heap.size w w2) := bel_trans B hb
        clear hb c0 c1 c2 c3 c4 c5 c6 HP hkn hnu hte B hrec2 hltr
        go_wp2_with fail
        go_region_held3 (fun w' => w'.cell? (x.add (j * 7)) = some (.string n) ∧ w'.cell? ⟨(x.add (j * 7)).block, (x.add (j * 7)).off + 1, none⟩ = some (.int .i64 ty) ∧ w'.cell? ⟨(x.add (j * 7)).block, (x.add (j * 7)).off + 2, none⟩ = some (.int .i64 ttl) ∧ w'.cell? ⟨(x.add (j * 7)).block, (x.add (j * 7)).off + 3, none⟩ = some (.int .i64 ad) ∧ w'.cell? ⟨(x.add (j * 7)).block, (x.add (j * 7)).off + 4, none⟩ = some (.string tg) ∧ w'.cell? ⟨(x.add (j * 7)).block, (x.add (j * 7)).off + 5, none⟩ = some (.string tx) ∧ w'.cell? ⟨(x.add (j * 7)).block, (x.add (j * 7)).off + 6, none⟩ = some (.int .i64 se)) (first | exact hr2.out | exact hr4)
          (first
            | (go_at_call 14; refine (num_any _ _).mono ?_; rintro e w3 ⟨rfl, rfl⟩)
            | (go_at_call 15; refine (HM.out _).mono ?_; rintro e w4 ⟨rfl, hb4⟩; have hb4' : Below w2.heap.size w2 w4 := bel_trans (below_drewN (Below.refl w2.heap.size _) 1) hb4; have hr4 : RecFrom w4 (x.add (j * 7)) ⟨n, ty, ttl, ad, tg, tx, se⟩ := hr2.out.below hb4' hlt2))
        all_goals
          have B4 := bel_trans B2.out hb4'
          have Q1 : Hid (Knowns w4 w.heap.size (.slice ka ks.length kc) ks) := R1.out.below hb4'
          have Q2 : Hid (Nums w4 w.heap.size (.slice pa es.length pc) (es.map (·.1))) := by have := row_below R2.out hb4'; show w4.ownsRow _ _ _ _ _ _; rwa [List.length_map]
          have Q3 : Hid (Recs w4 w.heap.size (.slice ta es.length tc) (es.map (·.2))) := by have := row_below R3.out hb4'; show w4.ownsRow _ _ _ _ _ _; rwa [List.length_map]
          clear hb4 hb4' hr4
          go_wp2_with (go_at_call 14; refine (num_any _ _).mono ?_; rintro e w5 ⟨rfl, rfl⟩)
          go_roundw
          case rel => exact ⟨j + 1, sL, ks, es, by omega, by omega, by omega, by go_num, rfl, Q1, Q2, Q3, B4, hback⟩
          case measure => simp [intOf]; omega
      | true =>
        obtain ⟨P, ks2, hput⟩ := putL_some hback.out.good (by omega) hmay
        have Hnext : Hid (Back (sL ++ P) ks2 (es ++ [(sL.length, r)])) := hback.out.next hput
        have hPl := putL_len hput
        have hPz := size_mk P
        have HP : Hid (Laid wr → _) := fun hL => rrPut_yes (sL.length : Nat) ka ks.length kc ks ks2 r (mk P) wr rfl hir.1 hir.2.1 ⟨by omega, by omega⟩ (by omega) (fun k hk => by have := hkm k hk; unfold maxLen; omega) hkl hL (by rw [bs_mk]; exact hput)
        have HM : Hid (∀ w, _) := fun w => rrMay_is r true w hir.1 hir.2.1 hmay
        obtain ⟨c0, c1, c2, c3, c4, c5, c6⟩ := hrec2.out
        obtain ⟨n, ty, ttl, ad, tg, tx, se⟩ := r
        simp only [rv] at *
        clear hkl hmay hkm hput
        go_wp2_with fail
        refine (HP.out (HL.out.below B)).mono ?_; rintro e w2 ⟨⟨v2, rfl, hk2⟩, hb⟩
        obtain ⟨oa, oc, rfl, _⟩ := hk2.lies
        have R1 : Hid (Knowns w2 w.heap.size (.slice oa ks2.length oc) ks2) := hk2.base B.size
        have R2 : Hid (w2.ownsRow w.heap.size 3 1 (.slice pa es.length pc) es.length ((es.map (·.1)).map fun n : Nat => Value.int .i64 (n : Int))) := by have := row_below hnu.out hb; rwa [List.length_map] at this
        have R3 : Hid (w2.ownsRow w.heap.size 24 7 (.slice ta es.length tc) es.length ((es.map (·.2)).flatMap cellsR)) := by have := row_below hte.out hb; rwa [List.length_map] at this
        have hr2 : Hid (RecFrom w2 (x.add (j * 7)) ⟨n, ty, ttl, ad, tg, tx, se⟩) := hrec2.out.below hb hltr
        have hlt2 : (x.add (j * 7)).block < w2.heap.size := hr2.out.lt
        have B2 : Hid (Below w.heap.size w w2) := bel_trans B hb
        clear hb c0 c1 c2 c3 c4 c5 c6 HP hkn hnu hte B hrec2 hltr hk2
        go_wp2_with fail
        go_region_held3 (fun w' => w'.cell? (x.add (j * 7)) = some (.string n) ∧ w'.cell? ⟨(x.add (j * 7)).block, (x.add (j * 7)).off + 1, none⟩ = some (.int .i64 ty) ∧ w'.cell? ⟨(x.add (j * 7)).block, (x.add (j * 7)).off + 2, none⟩ = some (.int .i64 ttl) ∧ w'.cell? ⟨(x.add (j * 7)).block, (x.add (j * 7)).off + 3, none⟩ = some (.int .i64 ad) ∧ w'.cell? ⟨(x.add (j * 7)).block, (x.add (j * 7)).off + 4, none⟩ = some (.string tg) ∧ w'.cell? ⟨(x.add (j * 7)).block, (x.add (j * 7)).off + 5, none⟩ = some (.string tx) ∧ w'.cell? ⟨(x.add (j * 7)).block, (x.add (j * 7)).off + 6, none⟩ = some (.int .i64 se)) (first | exact hr2.out | exact hr4)
          (first
            | (go_at_call 14; refine (num_any _ _).mono ?_; rintro e w3 ⟨rfl, rfl⟩)
            | (go_at_call 15; refine (HM.out _).mono ?_; rintro e w4 ⟨rfl, hb4⟩; have hb4' : Below w2.heap.size w2 w4 := bel_trans (below_drewN (Below.refl w2.heap.size _) 1) hb4; have hr4 : RecFrom w4 (x.add (j * 7)) ⟨n, ty, ttl, ad, tg, tx, se⟩ := hr2.out.below hb4' hlt2))
        all_goals
          have B4 := bel_trans B2.out hb4'
          have Q1 : Hid (Knowns w4 w.heap.size (.slice oa ks2.length oc) ks2) := R1.out.below hb4'
          have Q2 : Hid (w4.ownsRow w.heap.size 3 1 (.slice pa es.length pc) es.length ((es.map (·.1)).map fun n : Nat => Value.int .i64 (n : Int))) := row_below R2.out hb4'
          have Q3 : Hid (w4.ownsRow w.heap.size 24 7 (.slice ta es.length tc) es.length ((es.map (·.2)).flatMap cellsR)) := row_below R3.out hb4'
          clear hb4 hb4' hr4
          go_wp2_with (first
            | (go_at_call 14; refine (num_any _ _).mono ?_; rintro e w5 ⟨rfl, rfl⟩)
            | (at_builtin; refine wpList_append_own _ rfl _ _ 42 rfl w.heap.size 3 i0 (.int .i64 0) 1 8 Tryd.underlying42 hi0 hz0 hz1 hz2 rfl (by decide) _ es.length _ rfl (World.ownsRow.alloc Q2.out _) ⟨_, 0, none⟩ 1 1 [.int .i64 sL.length] rfl rfl ?c1 ?c2 ?c3 ?c4 ?c5 ?_))
          case c1 =>
            intro j u hj
            match j, hj with
            | 0, hj => simp at hj; subst hj; simp [Addr.add]
          case c2 => intro u hu; simp at hu; subst hu; rfl
          case c3 => unfold maxLen; omega
          case c4 => omega
          case c5 => simp; have := B4.size; omega
          intro v6 w6 hown6 hgrow6 _
          have B6 : Below w.heap.size w w6 := (B4.alloc B4.size _).grown hgrow6 (by simp; have := B4.size; omega) (fun k hk => (World.ownsRow.lt Q2.out k hk).1)
          have U0 : Hid (Knowns w6 w.heap.size (.slice oa ks2.length oc) ks2) := World.ownsRow.kept (World.ownsRow.alloc Q1.out _) hgrow6 (owns_apart Q1.out Q2.out (by decide))
          have U3 : Hid (w6.ownsRow w.heap.size 24 7 (.slice ta es.length tc) es.length ((es.map (·.2)).flatMap cellsR)) := World.ownsRow.kept (World.ownsRow.alloc Q3.out _) hgrow6 (owns_apart Q3.out Q2.out (by decide))
          have U2 : Hid (w6.ownsRow w.heap.size 3 1 v6 (es.length + 1) (((es.map (·.1)).map fun n : Nat => Value.int .i64 (n : Int)) ++ [.int .i64 sL.length])) := by unfold Hid; rw [List.map_map]; exact hown6
          have hr6 : Hid (RecFrom w6 (x.add (j * 7)) ⟨n, ty, ttl, ad, tg, tx, se⟩) := Hrec.out.below B6 hltw
          obtain ⟨d0, d1, d2, d3, d4, d5, d6⟩ := hr6.out
          clear hown6 hgrow6 Q1 Q2 Q3 B4
          go_wp2_with (first
            | (at_builtin; refine wpList_append_own _ rfl _ _ 41 rfl w.heap.size 24 i1 (.agg #[.string ByteArray.empty, .int .i64 0, .int .i64 0, .int .i64 0, .string ByteArray.empty, .string ByteArray.empty, .int .i64 0]) 7 80 Tryd.underlying41 hi1 hy0 hy1 hy2 rfl (by decide) _ es.length _ rfl (World.ownsRow.alloc U3.out _) ⟨w6.heap.size, 0, none⟩ 1 1 [.string n, .int .i64 ty, .int .i64 ttl, .int .i64 ad, .string tg, .string tx, .int .i64 se] rfl rfl ?d1 ?d2 ?d3 ?d4 ?d5 ?_)
            | go_in)
          case d2 => exact ⟨rfl, rfl, rfl, rfl, rfl, rfl, rfl⟩
          case d3 => unfold maxLen; omega
          case d4 => omega
          case d5 => have := B6.size; omega
          intro v7 w7 hown7 hgrow7 _
          have B7 : Below w.heap.size w w7 := (B6.alloc B6.size _).grown hgrow7 (by simp; have := B6.size; omega) (fun k hk => (World.ownsRow.lt U3.out k hk).1)
          have Z0 : Hid (Knowns w7 w.heap.size (.slice oa ks2.length oc) ks2) := World.ownsRow.kept (World.ownsRow.alloc U0.out _) hgrow7 (owns_apart U0.out U3.out (by decide))
          have Z2 : Hid (Nums w7 w.heap.size v6 ((es ++ [(sL.length, (⟨n, ty, ttl, ad, tg, tx, se⟩ : Rec))]).map (·.1))) := by
            show w7.ownsRow _ _ _ _ _ _
            have := World.ownsRow.kept (World.ownsRow.alloc U2.out _) hgrow7 (owns_apart U2.out U3.out (by decide))
            simpa using this
          have Z3 : Hid (Recs w7 w.heap.size v7 ((es ++ [(sL.length, (⟨n, ty, ttl, ad, tg, tx, se⟩ : Rec))]).map (·.2))) := by
            show w7.ownsRow _ _ _ _ _ _
            simpa [cellsR] using hown7
          clear hown7 hgrow7 U0 U2 U3 d0 d1 d2 d3 d4 d5 d6 hr6 B6
          go_wp2
          refine ⟨⟨j + 1, sL ++ P, ks2, es ++ [(sL.length, ⟨n, ty, ttl, ad, tg, tx, se⟩)], by omega, by omega, by simp; omega, by go_num, ?_, Z0, Z2, Z3, B7, Hnext⟩, by simp [intOf]; omega⟩
          rw [mk_append]
    · have hend : decide ((j : Int) < (len : Int)) = true → decide ((j : Int) < 12) = false := by simp; omega
      have B1 : Hid (Below w.heap.size w wr) := B
      have HT : Hid (_) := hback.out.told
      have hkl8 := hback.out.klen
      have Hnu : Hid (wr.ownsRow w.heap.size 3 1 (.slice pa es.length pc) es.length ((es.map (·.1)).map fun n : Nat => Value.int .i64 (n : Int))) := by have := hnu.out; unfold Nums at this; rwa [List.length_map] at this
      have Hte : Hid (wr.ownsRow w.heap.size 24 7 (.slice ta es.length tc) es.length ((es.map (·.2)).flatMap cellsR)) := by have := hte.out; unfold Recs at this; rwa [List.length_map] at this
      clear hkn hnu hte hkl hback B
      have hgd : ¬ j < len ∨ ((j : Int) < (len : Int) ∧ decide ((j : Int) < 12) = false) := by
        by_cases hjl : j < len
        · right; exact ⟨by omega, by simp; omega⟩
        · left; exact hjl
      rename World => wq
      rcases hgd with h1 | ⟨h1, h2⟩
      all_goals
        go_wp2_with fail
        go_loopw [11] (fun i wi => ∃ m : Nat, m ≤ es.length ∧ i = .int .i64 m ∧ Below wq.heap.size wq wi) (fun i _ => es.length - (intOf i).toNat)
        case atStart => exact ⟨0, Nat.zero_le _, rfl, Below.refl _ _⟩
        case round =>
          obtain ⟨m, hm, rfl, Bi⟩ := hrel
          have Bw : Hid (Below w.heap.size w wr) := bel_trans B1.out Bi
          by_cases hmlt : m < es.length
          · have hltm : (m : Int) < (es.length : Int) := by omega
            obtain ⟨g, rfl, hgl, hgc⟩ := row_cell Hnu.out (by omega)
            obtain ⟨g2, rfl, hgl2, hgc2⟩ := row_cell Hte.out (by omega)
            have hen : es[m]? = some (enAt es m) := by unfold enAt; rw [List.getD_eq_getElem?_getD, List.getElem?_eq_getElem hmlt]; rfl
            have hp : wq.cell? ⟨g, m, none⟩ = some (.int .i64 ((enAt es m).1 : Nat)) := by rw [hgc m (by omega)]; simp [hen]
            have hrm : ∀ i, i < 7 → wq.cell? ⟨g2, m * 7 + i, none⟩ = (cellsR (enAt es m).2)[i]? := fun i hi => by
              rw [hgc2 (m * 7 + i) (by omega)]
              exact flat_at _ m _ i (by simp [hen]) hi
            have hgot := HT.out m hmlt []
            rw [List.append_nil] at hgot
            have hpos : (enAt es m).1 ≤ 6000 := by
              obtain ⟨_, _, m', k', g', _⟩ := get_inrec hgot
              have := get_ends g'
              rw [bs_mk, Int.toNat_natCast] at this
              omega
            have HG : Hid (∀ w, Laid w → _) := fun w hL => rrGet_yes (mk sL) ((enAt es m).1 : Nat) (enAt es m).2 _ w (by omega) hL ⟨by omega, by omega⟩ hgot
            have hnx : nextAt es sL.length m = if m + 1 < es.length then (enAt es (m + 1)).1 else sL.length := rfl
            have hpi := (Bi.cell (p := ⟨g, m, none⟩) hgl).trans hp
            generalize nextAt es sL.length m = nx at *
            generalize (enAt es m).1 = ps at *
            generalize (enAt es m).2 = rr at *
            have c0 := hrm 0 (by omega)
            have c1 := hrm 1 (by omega)
            have c2 := hrm 2 (by omega)
            have c3 := hrm 3 (by omega)
            have c4 := hrm 4 (by omega)
            have c5 := hrm 5 (by omega)
            have c6 := hrm 6 (by omega)
            have hq : ∀ w, (binOp .neq 24 (rv rr) (rv rr)).run Tryd.prog w = .ok (.bool false) w := fun w => by
              have h := eql_rec rr rr w
              rw [(sameR_iff rr rr).2 rfl] at h
              simp only [rv] at h ⊢
              rw [run_neq_struct]
              rw [run_eql_struct] at h
              cases hr : (Op.equalIn 10000 24 (.agg #[.string rr.n, .int .i64 rr.ty, .int .i64 rr.ttl, .int .i64 rr.ad, .string rr.tg, .string rr.tx, .int .i64 rr.se]) (.agg #[.string rr.n, .int .i64 rr.ty, .int .i64 rr.ttl, .int .i64 rr.ad, .string rr.tg, .string rr.tx, .int .i64 rr.se])).run Tryd.prog w with
              | ok b w1 =>
                rw [hr] at h
                simp only [Result.andThen_ok, Result.ok.injEq, Value.bool.injEq] at h
                obtain ⟨rfl, rfl⟩ := h
                rfl
              | halt x w1 => rw [hr] at h; simp [Result.andThen] at h
            have hnc : m + 1 < es.length → wq.cell? ⟨g, m + 1, none⟩ = some (.int .i64 ((enAt es (m + 1)).1 : Nat)) := fun h => by
              have hen : es[m + 1]? = some (enAt es (m + 1)) := by unfold enAt; rw [List.getD_eq_getElem?_getD, List.getElem?_eq_getElem h]; rfl
              rw [hgc (m + 1) (by omega)]; simp [hen]
            obtain ⟨n, ty, ttl, ad, tg, tx, se⟩ := rr
            simp only [cellsR, rv, Nat.add_zero, List.getElem?_cons_zero, List.getElem?_cons_succ] at *
            clear hgc hgc2 hen hp hrm hgot
            go_wp2_with fail
            refine (HG.out _ (HL.out.below Bw.out)).mono ?_; rintro e w2 ⟨rfl, hb⟩
            have B2 : Below wq.heap.size wq w2 := bel_trans Bi hb
            have d0 := (B2.cell (p := ⟨g2, m * 7, none⟩) hgl2).trans c0
            have d1 := (B2.cell (p := ⟨g2, m * 7 + 1, none⟩) hgl2).trans c1
            have d2 := (B2.cell (p := ⟨g2, m * 7 + 2, none⟩) hgl2).trans c2
            have d3 := (B2.cell (p := ⟨g2, m * 7 + 3, none⟩) hgl2).trans c3
            have d4 := (B2.cell (p := ⟨g2, m * 7 + 4, none⟩) hgl2).trans c4
            have d5 := (B2.cell (p := ⟨g2, m * 7 + 5, none⟩) hgl2).trans c5
            have d6 := (B2.cell (p := ⟨g2, m * 7 + 6, none⟩) hgl2).trans c6
            have hg2 : g2 < w2.heap.size := World.block_lt_of_cell? w2 _ d0
            have hg1 : g < w2.heap.size := by have := B2.size; omega
            have B2' : Hid (Below wq.heap.size wq w2) := B2
            clear c0 c1 c2 c3 c4 c5 c6 hpi hb Bi HG Bw
            by_cases hlast : m + 1 < es.length
            · rw [if_pos hlast] at hnx
              have hm1 := (B2.cell (p := ⟨g, m + 1, none⟩) hgl).trans (hnc hlast)
              rw [← hnx] at hm1
              have g1 : ((m : Int) + 1 < (es.length : Int)) := by omega
              have g2' : decide ((m : Int) + 1 < (es.length : Int)) = true := by simpa using g1
              have g3 : (((m : Int) + 1 == (es.length : Int)) : Bool) = false := by simp; omega
              clear hnc B2 hnx
              go_wp2_with fail
              go_quiet ((go_at_call 14; exact Calls.quiet_of_same (num_any _ _)))
              go_wp2
              exact ⟨⟨m + 1, by omega, by go_num, below_drewN (B2'.out.alloc B2'.out.size _) _⟩, by simp [intOf]; omega⟩
            · rw [if_neg hlast] at hnx
              have g2' : decide ((m : Int) + 1 < (es.length : Int)) = false := by simp; omega
              have g3 : (((m : Int) + 1 == (es.length : Int)) : Bool) = true := by simp; omega
              clear hnc B2
              subst hnx
              go_wp2_with fail
              go_quiet ((go_at_call 14; exact Calls.quiet_of_same (num_any _ _)))
              go_wp2
              exact ⟨⟨m + 1, by omega, by go_num, below_drewN (B2'.out.alloc B2'.out.size _) _⟩, by simp [intOf]; omega⟩
          · obtain rfl : m = es.length := by omega
            go_wp2
            go_ret
            exact ⟨rfl, Bw.out⟩

theorem own : ownKnob Tryd.prog.godebug = none := by kernel_rfl
theorem laidOut : laidOutB Tryd.prog = true := by kernel_rfl
theorem gTab : Tryd.prog.globalNamed "pinfold/rr.soaTimes" = some 0 := by kernel_rfl
theorem gTabType : (Tryd.prog.globals[0]?).map (·.type) = some 84 := by kernel_rfl
theorem cellsTab : Tryd.prog.cellsOf 84 = 4 := by kernel_rfl
theorem cellsInt : Tryd.prog.cellsOf 3 = 1 := by kernel_rfl
/-- What the row's list gives. -/
theorem table {W : World} (h : laidMetH Tryd.prog Rows.rrBackRow.laid W) : Laid W := by
  have t : Lib.TabIs Tryd.prog W "pinfold/rr.soaTimes" .i64 [60, 60, 600, 60] := Lib.tabIs_of_head (rest := []) gTab gTabType Tryd.underlying84 Tryd.underlying3 cellsInt cellsTab h
  exact ⟨t.cell gTab 0 (by decide), t.cell gTab 1 (by decide), t.cell gTab 2 (by decide), t.cell gTab 3 (by decide)⟩
/-- A world for the witness: the table holds what its initialiser lays. -/
noncomputable def laidWorld (os : Os) : World :=
  { World.holding Tryd.prog os ⟨#[], #[], []⟩ with heap := (World.holding Tryd.prog os ⟨#[], #[], []⟩).heap.modify 0 fun
      | .cells _ t frozen => .cells #[.int .i64 60, .int .i64 60, .int .i64 600, .int .i64 60] t frozen
      | o => o }
theorem laid_met (os : Os) : laidMet Tryd.prog Rows.rrBackRow.laid ((laidWorld os).forCall (fun _ _ => 0) ⟨#[], #[.slice none 0 0], []⟩).memory :=
  laidMet_of_run' 8 (by kernel_rfl) (by kernel_rfl)
theorem reads (os : Os) {H : Type} (enc : TypeId × Value → H) : ∃ places, DataW.whole enc Tryd.prog ((laidWorld os).forCall (fun _ _ => 0) ⟨#[], #[.slice none 0 0], []⟩).memory Tryd.f4.params.toList Rows.rrBackSpec.vars false (#[.slice none 0 0] : Array Value).toList 8 = some ([.nil], [], places) :=
  ⟨[], by kernel_rfl⟩

/-! ### The row's step -/
set_option maxRecDepth 100000 in
theorem lifted (os : Os) (started : os.Started) (H : Type) (enc : TypeId × Value → H) (F : Stop.Interp) :
    ReturnsInHanded {} Tryd.checked os 4 .any ((OpenSpec.ofChange Rows.rrBackSpec).preRow enc Tryd.prog Tryd.f4 Rows.rrBackRow.domain false Rows.rrBackRow.laid) (((OpenSpec.ofChange Rows.rrBackSpec).at F).post enc Tryd.prog Tryd.f4 false true false false) := by
  obtain ⟨places, hx⟩ := reads os enc
  refine returnsInHanded_of_row (C := Tryd.checked) (s := OpenSpec.ofChange Rows.rrBackSpec) own started (by kernel_rfl) Tryd.func4
    (witness_row_at (enc := enc) (C := Tryd.checked) false (laidWorld os) #[.slice none 0 0] rfl (by kernel_rfl) (by kernel_rfl) (by kernel_rfl)
      (OpenSpec.preRow_of_cond 8 hx (by kernel_rfl) (fun k hk => by cases hk) (by kernel_rfl) (laid_met os))) ?_
  intro W base args ds gs before hval0 hW _ hcond hsz0 hL _ _
  have hLaid := table hL
  have hval : ∀ (j : Nat) t v, Tryd.f4.params[j]? = some t → args[j]? = some v → Value.okWide Tryd.prog W .any base t v := hval0
  have hsz : (DataW.weightsEach Tryd.prog (Tryd.f4.params.toList ++ Rows.rrBackSpec.plain.varTypes Tryd.prog) (ds ++ gs)).all (· ≤ reachBytes) = true := hsz0
  have hW' := hW
  obtain ⟨p, q, hA0, hV, rfl, _, _⟩ := hW
  have hA : DataW.TrodAll enc Tryd.prog W 0 (fun _ => true) true Tryd.f4.params.toList args.toList ds p := hA0
  rw [Tryd.params4] at hA hval hsz
  obtain ⟨v0, vs0, d0, ds0, p0, q0, hargs, rfl, rfl, h0, r0⟩ := trodAll_cons hA
  obtain ⟨rfl, rfl, rfl⟩ := trodAll_nil r0
  obtain rfl : args = #[v0] := by cases args; simp_all
  obtain ⟨rfl, rfl⟩ := trodVars_none hV
  have k0 := h0
  have lt0 : ∀ x ∈ p0, x.block < W.heap.size := by obtain ⟨m, hm⟩ := k0; exact DataW.trod_lt m _ _ _ hm
  obtain ⟨a0, len0, cap0, rfl⟩ := okWide_slice Tryd.underlying41 (hval 0 41 v0 rfl rfl)
  obtain ⟨z0, w0⟩ := open_recs h0
  clear hA0 hval0 hsz0 hcond
  refine (walk a0 len0 cap0 z0 W w0 hLaid).mono fun e W' ⟨he, bel⟩ => ?_
  subst he
  exact ⟨_, rfl, _, _, _, [], _, [], hW', trodAll_mk1 (shut_bool Tryd.underlying4 _), (trodAll_cons_mk (Below.trod laidOut (by kernel_rfl) (of_decide_eq_true (by kernel_rfl)) k0 bel lt0) trodAll_mk0), rfl, bel.frame _, fun h => by cases h⟩

theorem said : Rows.RrBackSaid :=
  OpenClaim.holds_of_cond 4 Tryd.f4 rfl rfl rfl rfl rfl rfl rfl ⟨rfl, rfl, rfl, rfl, rfl⟩ rfl rfl rfl rfl rfl (by kernel_rfl) Tryd.func4 (by kernel_rfl)
    (of_decide_eq_true (by kernel_rfl)) (by unfold Func.isWrapper; first | (rw [if_pos (by decide +kernel)]; kernel_rfl) | (rw [if_neg (by decide +kernel)]; exact ⟨rfl, rfl⟩))
    (fun os started H enc _ F => by rw [OpenClaim.pre_eq_preRow]; exact lifted os started H enc F)
/-- No parameter wants a stand-in. -/
theorem plain (f : FuncId) (fn : Func) (hf : Tryd.pinned.checked.prog.funcNamed "pinfold/pinfoldlaw4.RrBack" = some f) (hfn : Tryd.pinned.checked.prog.funcs[f]? = some fn) :
    false = Tryd.pinned.checked.prog.looks [] ∧ ∀ (j : Nat) t, fn.params[j]? = some t → Tryd.pinned.checked.prog.wantsStandIn t = false := by
  obtain rfl : f = 4 := Option.some.inj ((show Tryd.prog.funcNamed "pinfold/pinfoldlaw4.RrBack" = some 4 by kernel_rfl).symm.trans hf) |>.symm
  obtain rfl : fn = Tryd.f4 := (Option.some.inj (Tryd.func4.symm.trans hfn)).symm
  refine ⟨by kernel_rfl, fun j t ht => ?_⟩
  rw [Tryd.params4] at ht
  have hm := Array.mem_of_getElem? ht
  simp at hm
  subst hm
  exact (show Tryd.prog.wantsStandIn 41 = false by kernel_rfl)
/-- The given statement. -/
theorem card : Rows.RrBackCardSaid :=
  Claim7.holds_tied_plain_at .later [] _ _ _ _ said (fun _ h => by cases h) (by kernel_rfl) (fun _ h => by cases h) rrBack_row_tie rfl ⟨rfl, rfl⟩ (by kernel_rfl) rfl plain (by kernel_rfl)

end rrBack
theorem rrBack_proved : Rows.RrBackCardSaid := rrBack.card
end Go.Proofs.YtgidbcjeaeiinaaDoor
