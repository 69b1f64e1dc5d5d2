/-
  Proved here: pinfoldlaw9.IdentForms answers true for every two numbers (P9.1, P9.2: who is nobody).
  Conditions: none but the row's own.
-/
import Derived.Test.YtkohojifnmklmaaAwake9
import Derived.Test.YtkohojifnmklmaaPackForms
import Derived.Test.YtkohojifnmklmaaMade
import Derived.Test.YtkohojifnmklmaaWays
import Derived.WalkKit
import Derived.ProofKit
import Derived.OpenShut
import Derived.ShutString
import Derived.ChangeOld
import Derived.SizedLaws
import Derived.Carry
namespace Go.Proofs.Ytkohojifnmklmaa
namespace identForms
open Go.ChangeShapes Go.WideShapes Go.ChangeAt Go.RowKit Go.Pin Go.PlainAid Go.ChangeMaps

def Is (x : Value) : Value → World → Prop := fun v _ => v = x
def RowZ (n : Nat) : Value → World → Prop := fun v w => ∃ g, v = .slice (some ⟨g, 0, none⟩) n n ∧ ∀ j, j < n → w.cell? ⟨g, j, none⟩ = some (.int .u8 0)
def OneOp (os : List Opn) : Value → World → Prop := fun v w => ∃ g, v = .slice (some ⟨g, 0, none⟩) 1 1 ∧ OpLies w (some ⟨g, 0, none⟩) os
def PkOp (p : Pk) : Value → World → Prop := fun v w => ∃ g, v = pv p (some ⟨g, 0, none⟩) 1 ∧ OpLies w (some ⟨g, 0, none⟩) p.os
theorem stays_is (x : Value) : Stays (Is x) := fun _ _ _ h _ => h
theorem stays_row (n : Nat) : Stays (RowZ n) := fun _ _ _ ⟨g, h1, h2⟩ hb => ⟨g, h1, fun j hj => (hb.cell (World.block_lt_of_cell? _ _ (h2 j hj))).trans (h2 j hj)⟩
theorem stays_op (os : List Opn) : Stays (OneOp os) := fun _ _ _ ⟨g, h1, h2⟩ hb => ⟨g, h1, h2.below hb⟩
theorem stays_pk (p : Pk) : Stays (PkOp p) := fun _ _ _ ⟨g, h1, h2⟩ hb => ⟨g, h1, h2.below hb⟩
/-- The rows of the table. -/
def p1 (T : ByteArray) : Pk := { zeroP with ch := T }
def p2 : Pk := { zeroP with ch := ⟨#[97]⟩, os := [(61, [])] }
def p3 (T : ByteArray) : Pk := { zeroP with ch := ⟨#[97]⟩, os := [(61, bs T)] }
def p4 (k : Int) : Pk := { zeroP with ch := ⟨#[97]⟩, op := k }
def rows (T16 TN : ByteArray) (k : Int) (a b : Option Addr) : List RowP := [(zeroP, none, 0), (p1 T16, none, 0), (p2, a, 1), (p3 TN, b, 1), (p4 k, none, 0)]
def Five (T16 TN : ByteArray) (k : Int) : Value → World → Prop := fun v w => ∃ g a b, v = .slice (some ⟨g, 0, none⟩) 5 5 ∧ OpLies w a p2.os ∧ OpLies w b (p3 TN).os ∧
  ∀ I r j, (rows T16 TN k a b)[I]? = some r → j < 12 → w.cell? ⟨g, I * 12 + j, none⟩ = (cellsP r.1 r.2.1 r.2.2)[j]?
theorem stays_five (T16 TN : ByteArray) (k : Int) : Stays (Five T16 TN k) := fun _ _ _ ⟨g, a, b, h1, h2, h3, h4⟩ hb =>
  ⟨g, a, b, h1, h2.below hb, h3.below hb, fun I r j hr hj => by
    have h5 := h4 I r j hr hj
    cases hv : (cellsP r.1 r.2.1 r.2.2)[j]? with
    | none => rw [Array.getElem?_eq_none_iff] at hv; simp [cellsP] at hv; omega
    | some v =>
      rw [hv] at h5
      exact (hb.cell (World.block_lt_of_cell? _ _ h5)).trans h5⟩

theorem no_client {p : Pk} (h : mayP p = false ∨ okI (toldI p) = false) : clientA p = (⟨#[]⟩, 900) := by
  unfold clientA
  rcases h with h | h <;> rw [h] <;> simp
theorem rows_no (T16 TN : ByteArray) (k : Int) (a b : Option Addr) (h16 : T16.size = 16) (hN : 16 < TN.size) (hN2 : TN.size ≤ 1000) (hk : 255 < k) : ∀ r ∈ rows T16 TN k a b, clientA r.1 = (⟨#[]⟩, 900) ∧ r.1.ch.size ≤ maxLen ∧ (r.1.os = [] ∨ (r.2.1 = a ∧ r.1.os = p2.os) ∨ (r.2.1 = b ∧ r.1.os = (p3 TN).os)) := by
  intro r hr
  simp only [rows, List.mem_cons, List.not_mem_nil, or_false] at hr
  rcases hr with rfl | rfl | rfl | rfl | rfl
  · exact ⟨no_client (.inr rfl), by unfold maxLen; decide, .inl rfl⟩
  · refine ⟨no_client (.inr ?_), by show T16.size ≤ maxLen; unfold maxLen; omega, .inl rfl⟩
    have e : toldI (p1 T16) = if T16.size = 0 then [] else byteO 0 :: bs T16 := rfl
    rw [e, if_neg (by omega)]
    have := length_bs T16
    simp [okI, this]
    omega
  · exact ⟨no_client (.inr rfl), by show (⟨#[97]⟩ : ByteArray).size ≤ maxLen; unfold maxLen; decide, .inr (.inl ⟨rfl, rfl⟩)⟩
  · refine ⟨no_client (.inr ?_), by show (⟨#[97]⟩ : ByteArray).size ≤ maxLen; unfold maxLen; decide, .inr (.inr ⟨rfl, rfl⟩)⟩
    have e : toldI (p3 TN) = bs TN := rfl
    have := length_bs TN
    rw [e]
    simp [okI, this]
    omega
  · refine ⟨no_client (.inl ?_), by show (⟨#[97]⟩ : ByteArray).size ≤ maxLen; unfold maxLen; decide, .inl rfl⟩
    cases hm : mayP (p4 k) with
    | false => rfl
    | true =>
      have h8 := ((mayP_iff _).1 hm).1 k (by simp [p4])
      unfold inB at h8
      omega
theorem make_row (n : Nat) (hn : n ≤ 100000) (w : World) : ∃ w', (Instr.makeSlice 37 (.int .i64 n) (.int .i64 n)).run Try.prog w = .ok (.slice (some ⟨w.heap.size, 0, none⟩) n n) w' ∧ Below w.heap.size w w' ∧ ∀ j, j < n → w'.cell? ⟨w.heap.size, j, none⟩ = some (.int .u8 0) := by
  obtain ⟨i0, hi, hz0, hz1, hz2⟩ := info_parts Try.infoU8
  have e : madeCells (Value.int .u8 0).cells n = (List.replicate n (Value.int .u8 0)).toArray := by
    apply Array.ext
    · simp [size_madeCells]
    · intro i h1 h2
      simp [madeCells, Value.cells, Nat.mod_one]
  have hr := run_make (P := Try.prog) w 37 5 i0 (.int .u8 0) Try.underlying37 hi hz0 .i64 .i64 (n : Int) (n : Int) (by omega) (Int.le_refl _) (by rw [hz2]; omega) (by omega)
  rw [Int.toNat_natCast, hz1, Nat.mul_one, e] at hr
  exact ⟨_, hr, (Below.refl _ _).alloc (Nat.le_refl _) _, fun j hj => new_cell _ _ _ _ _ (by simp [hj])⟩
theorem conv_row (n g : Nat) (w : World) (h : ∀ j, j < n → w.cell? ⟨g, j, none⟩ = some (.int .u8 0)) : (convert 37 9 (.slice (some ⟨g, 0, none⟩) n n)).run Try.prog w = .ok (.string (mk (List.replicate n 0))) w := by
  have := conv_cells (P := Try.prog) w 37 9 5 ⟨g, 0, none⟩ n (List.replicate n 0) Try.underlying37 Try.underlying5 Try.underlying9 (by
    intro j v hj
    rw [addr_add, Nat.zero_add]
    rw [List.map_replicate, List.getElem?_replicate] at hj
    split at hj
    · rename_i hjn
      cases hj
      exact h j hjn
    · cases hj)
  rw [List.length_replicate] at this
  have e2 : str (List.replicate n 0) = mk (List.replicate n 0) := by simp [str, mk]
  rw [e2] at this
  exact this
theorem five_at (T16 TN : ByteArray) (k : Int) (a b : Option Addr) (w : World) (t : TypeId) : ∀ I r j, (rows T16 TN k a b)[I]? = some r → j < 12 →
    (w.alloc (.cells ((rows T16 TN k a b).flatMap fun r => (cellsP r.1 r.2.1 r.2.2).toList).toArray t)).cell? ⟨w.heap.size, I * 12 + j, none⟩ = (cellsP r.1 r.2.1 r.2.2)[j]? := by
  intro I r j hr hj
  have h7 := flat_12 (rows T16 TN k a b) I r j hr hj
  cases hv : (cellsP r.1 r.2.1 r.2.2)[j]? with
  | none => rw [Array.getElem?_eq_none_iff] at hv; simp [cellsP] at hv; omega
  | some v =>
    rw [hv] at h7
    refine new_cell _ _ _ _ _ ?_
    rw [← List.getElem?_toArray] at h7
    exact h7

set_option maxRecDepth 100000 in
set_option maxHeartbeats 8000000 in
theorem walk (a0 a1 : Int) (w : World) (_w0 : (Lit.int .i64 a0).wf = true) (_w1 : (Lit.int .i64 a1).wf = true) : Calls Try.prog 4 #[.int .i64 a0, .int .i64 a1] w fun e w' => e = .returned (.bool true) ∧ Below w.heap.size w w' := by
  obtain ⟨J, hJ, hJ5⟩ := pick_mod a0 5 (by omega) (by omega)
  obtain ⟨d, hd, hd0, hd1⟩ : ∃ d : Int, bits .and .i64 a1 15 = d ∧ 0 ≤ d ∧ d < 16 := ⟨a1 % 16, i64_mask 4 a1 (by omega), by omega, by omega⟩
  obtain ⟨N, hN⟩ : ∃ N : Nat, 16 + (1 + d) = N := ⟨(16 + (1 + d)).toNat, by omega⟩
  have HW : Hid (∀ w, _) := fun w => awake9_yes w
  go_enter Try.func4, Try.ntmps4
  go_wp2_with fail
  refine (HW.out _).mono ?_; rintro e x1 ⟨rfl, hb1⟩
  have B1 : Hid (Below w.heap.size w x1) := hb1
  clear hb1
  go_wp2_with fail
  refine wp_region_way [Is (pv zeroP none 0), RowZ 16, Is (.string (mk (List.replicate 16 0))), Is (pv (p1 (mk (List.replicate 16 0))) none 0), Is (.agg #[.int .i64 61, .string ⟨#[]⟩]), OneOp [(61, [])], PkOp p2, Is (.int .i64 (1 + d)), Is (.int .i64 N), RowZ N,
    Is (.string (mk (List.replicate N 0))), Is (.agg #[.int .i64 61, .string (mk (List.replicate N 0))]), OneOp [(61, List.replicate N 0)], PkOp (p3 (mk (List.replicate N 0))), Is (.int .i64 (1 + d)), Is (.int .i64 (255 + (1 + d))), Is (pv (p4 (255 + (1 + d))) none 0),
    Five (mk (List.replicate 16 0)) (mk (List.replicate N 0)) (255 + (1 + d)), Five (mk (List.replicate 16 0)) (mk (List.replicate N 0)) (255 + (1 + d))] (by kernel_rfl) (by kernel_rfl) ?_ ?_ ?_
  · intro p hp
    simp only [List.mem_cons, List.not_mem_nil, or_false] at hp
    rcases hp with rfl | rfl | rfl | rfl | rfl | rfl | rfl | rfl | rfl | rfl | rfl | rfl | rfl | rfl | rfl | rfl | rfl | rfl | rfl
    all_goals (first | exact stays_is _ | exact stays_row _ | exact stays_op _ | exact stays_pk _ | exact stays_five _ _ _)
  · refine StepsW.cons (k := 0) rfl (fun ρ w hc hb hd hf => .inl ⟨pv zeroP none 0, w, ?_, Below.refl _ _, rfl⟩) ?_
    · go_simp
      rfl
    refine StepsW.cons (k := 1) rfl (fun ρ w hc hb hd hf => ?_) ?_
    · obtain ⟨w', h1, h2, h3⟩ := make_row 16 (by omega) w
      refine .inl ⟨_, w', ?_, h2, ⟨_, rfl, h3⟩⟩
      replace h1 : (Instr.makeSlice 37 (.int .i64 16) (.int .i64 16)).run Try.prog w = _ := h1
      go_simp
    refine StepsW.cons (k := 2) rfl (fun ρ w hc hb hd hf => ?_) ?_
    · obtain ⟨g, h1, h2⟩ : RowZ 16 (ρ (.tmp 19)) w := hd 1 19 (by kernel_rfl)
      have h3 := conv_row 16 g w h2
      refine .inl ⟨_, w, ?_, Below.refl _ _, rfl⟩
      generalize mk (List.replicate 16 0) = T at *
      clear h2 hd hf
      go_simp
    refine StepsW.cons (k := 3) rfl (fun ρ w hc hb hd hf => ?_) ?_
    · have h1 : ρ (.tmp 20) = .string (mk (List.replicate 16 0)) := hd 2 20 (by kernel_rfl)
      refine .inl ⟨_, w, ?_, Below.refl _ _, rfl⟩
      generalize mk (List.replicate 16 0) = T at *
      clear hd hf
      go_simp
      rfl
    refine StepsW.cons (k := 4) rfl (fun ρ w hc hb hd hf => .inl ⟨_, w, ?_, Below.refl _ _, rfl⟩) ?_
    · go_simp
    refine StepsW.cons (k := 5) rfl (fun ρ w hc hb hd hf => ?_) ?_
    · have h1 : ρ (.tmp 22) = .agg #[.int .i64 61, .string ⟨#[]⟩] := hd 4 22 (by kernel_rfl)
      refine .inl ⟨_, w.alloc (.cells #[.int .i64 61, .string ⟨#[]⟩] 39), ?_, (Below.refl _ _).alloc (Nat.le_refl _) _, ⟨w.heap.size, rfl, op_one w 61 ⟨#[]⟩ 39⟩⟩
      clear hd hf
      go_simp
    refine StepsW.cons (k := 6) rfl (fun ρ w hc hb hd hf => ?_) ?_
    · obtain ⟨g, h1, h2⟩ : OneOp [(61, [])] (ρ (.tmp 23)) w := hd 5 23 (by kernel_rfl)
      refine .inl ⟨_, w, ?_, Below.refl _ _, ⟨g, rfl, h2⟩⟩
      clear hd hf h2
      go_simp
      rfl
    refine StepsW.cons (k := 7) rfl (fun ρ w hc hb hd hf => ?_) ?_
    · have h1 : ρ (.tmp 5) = .int .i64 (1 + d) := hf 5 (by kernel_rfl)
      refine .inl ⟨_, w, ?_, Below.refl _ _, rfl⟩
      clear hd hf
      go_simp
    refine StepsW.cons (k := 8) rfl (fun ρ w hc hb hd hf => ?_) ?_
    · have h1 : ρ (.tmp 25) = .int .i64 (1 + d) := hd 7 25 (by kernel_rfl)
      refine .inl ⟨_, w, ?_, Below.refl _ _, rfl⟩
      clear hd hf
      go_simp
      have hw := wrap_in (N : Int) (by omega) (by omega)
      first | exact hw | (rw [hN]; exact hw)
    refine StepsW.cons (k := 9) rfl (fun ρ w hc hb hd hf => ?_) ?_
    · have h0 : ρ (.tmp 26) = .int .i64 N := hd 8 26 (by kernel_rfl)
      obtain ⟨w', h1, h2, h3⟩ := make_row N (by omega) w
      refine .inl ⟨_, w', ?_, h2, ⟨_, rfl, h3⟩⟩
      clear hd hf
      go_simp
    refine StepsW.cons (k := 10) rfl (fun ρ w hc hb hd hf => ?_) ?_
    · obtain ⟨g, h1, h2⟩ : RowZ N (ρ (.tmp 27)) w := hd 9 27 (by kernel_rfl)
      have h3 := conv_row N g w h2
      refine .inl ⟨_, w, ?_, Below.refl _ _, rfl⟩
      generalize mk (List.replicate N 0) = T at *
      clear h2 hd hf
      go_simp
    refine StepsW.cons (k := 11) rfl (fun ρ w hc hb hd hf => ?_) ?_
    · have h1 : ρ (.tmp 28) = .string (mk (List.replicate N 0)) := hd 10 28 (by kernel_rfl)
      refine .inl ⟨_, w, ?_, Below.refl _ _, rfl⟩
      generalize mk (List.replicate N 0) = T at *
      clear hd hf
      go_simp
    refine StepsW.cons (k := 12) rfl (fun ρ w hc hb hd hf => ?_) ?_
    · have h1 : ρ (.tmp 29) = .agg #[.int .i64 61, .string (mk (List.replicate N 0))] := hd 11 29 (by kernel_rfl)
      refine .inl ⟨_, w.alloc (.cells #[.int .i64 61, .string (mk (List.replicate N 0))] 39), ?_, (Below.refl _ _).alloc (Nat.le_refl _) _, ⟨w.heap.size, rfl, by have := op_one w 61 (mk (List.replicate N 0)) 39; rwa [bs_mk] at this⟩⟩
      generalize mk (List.replicate N 0) = T at *
      clear hd hf
      go_simp
    refine StepsW.cons (k := 13) rfl (fun ρ w hc hb hd hf => ?_) ?_
    · obtain ⟨g, h1, h2⟩ : OneOp [(61, List.replicate N 0)] (ρ (.tmp 30)) w := hd 12 30 (by kernel_rfl)
      refine .inl ⟨_, w, ?_, Below.refl _ _, ⟨g, rfl, by show OpLies w _ [(61, bs (mk (List.replicate N 0)))]; rw [bs_mk]; exact h2⟩⟩
      clear hd hf h2
      go_simp
      rfl
    refine StepsW.cons (k := 14) rfl (fun ρ w hc hb hd hf => ?_) ?_
    · have h1 : ρ (.tmp 5) = .int .i64 (1 + d) := hf 5 (by kernel_rfl)
      refine .inl ⟨_, w, ?_, Below.refl _ _, rfl⟩
      clear hd hf
      go_simp
    refine StepsW.cons (k := 15) rfl (fun ρ w hc hb hd hf => ?_) ?_
    · have h1 : ρ (.tmp 32) = .int .i64 (1 + d) := hd 14 32 (by kernel_rfl)
      refine .inl ⟨_, w, ?_, Below.refl _ _, rfl⟩
      clear hd hf
      go_simp
      exact wrap_in _ (by omega) (by omega)
    refine StepsW.cons (k := 16) rfl (fun ρ w hc hb hd hf => ?_) ?_
    · have h1 : ρ (.tmp 33) = .int .i64 (255 + (1 + d)) := hd 15 33 (by kernel_rfl)
      refine .inl ⟨_, w, ?_, Below.refl _ _, rfl⟩
      clear hd hf
      go_simp
      rfl
    refine StepsW.cons (k := 17) rfl (fun ρ w hc hb hd hf => ?_) ?_
    · have h0 : ρ (.tmp 18) = pv zeroP none 0 := hd 0 18 (by kernel_rfl)
      have h1 : ρ (.tmp 21) = pv (p1 (mk (List.replicate 16 0))) none 0 := hd 3 21 (by kernel_rfl)
      obtain ⟨g2, h2, l2⟩ : PkOp p2 (ρ (.tmp 24)) w := hd 6 24 (by kernel_rfl)
      obtain ⟨g3, h3, l3⟩ : PkOp (p3 (mk (List.replicate N 0))) (ρ (.tmp 31)) w := hd 13 31 (by kernel_rfl)
      have h4 : ρ (.tmp 34) = pv (p4 (255 + (1 + d))) none 0 := hd 16 34 (by kernel_rfl)
      have hbn : Below w.heap.size w (w.alloc (.cells ((rows (mk (List.replicate 16 0)) (mk (List.replicate N 0)) (255 + (1 + d)) (some ⟨g2, 0, none⟩) (some ⟨g3, 0, none⟩)).flatMap fun r => (cellsP r.1 r.2.1 r.2.2).toList).toArray 24)) := (Below.refl _ _).alloc (Nat.le_refl _) _
      refine .inl ⟨.slice (some ⟨w.heap.size, 0, none⟩) 5 5, _, ?_, hbn, ⟨w.heap.size, some ⟨g2, 0, none⟩, some ⟨g3, 0, none⟩, rfl, l2.below hbn, l3.below hbn, five_at _ _ _ _ _ w 24⟩⟩
      generalize mk (List.replicate N 0) = T at *
      generalize mk (List.replicate 16 0) = T2 at *
      clear hd hf l2 l3 hbn
      simp only [pv, cellsP, zeroP, p1, p2, p3, p4, List.length_cons, List.length_nil] at h0 h1 h2 h3 h4
      simp only [rows, List.flatMap_cons, List.flatMap_nil, cellsP, zeroP, p1, p2, p3, p4, List.length_cons, List.length_nil, List.cons_append, List.nil_append]
      go_simp
    refine StepsW.cons (k := 18) rfl (fun ρ w hc hb hd hf => ?_) (StepsW.nil (by decide))
    · have h1 : Five (mk (List.replicate 16 0)) (mk (List.replicate N 0)) (255 + (1 + d)) (ρ (.tmp 35)) w := hd 17 35 (by kernel_rfl)
      refine .inl ⟨_, w, ?_, Below.refl _ _, h1⟩
      clear hd hf h1
      go_simp
  · intro vs w2 hl hb hv
    match vs, hl with
    | [v0, v1, v2, v3, v4, v5, v6, v7, v8, v9, v10, v11, v12, v13, v14, v15, v16, v17, v18], _ =>
    obtain ⟨g, a, b, h6, hp2, hp3, hcells⟩ : Five (mk (List.replicate 16 0)) (mk (List.replicate N 0)) (255 + (1 + d)) v18 w2 := hv 18 (by decide)
    clear hv
    intro A hA
    simp only [putL, Act.put, List.setIfInBounds_toArray, List.set_cons_succ, List.set_cons_zero] at hA
    subst hA
    subst h6
    have z16 : (mk (List.replicate 16 (0 : UInt8))).size = 16 := by rw [size_mk, List.length_replicate]
    have zN : (mk (List.replicate N (0 : UInt8))).size = N := by rw [size_mk, List.length_replicate]
    obtain ⟨r, hr⟩ : ∃ r, (rows (mk (List.replicate 16 0)) (mk (List.replicate N 0)) (255 + (1 + d)) a b)[J]? = some r := ⟨_, List.getElem?_eq_getElem (by simp [rows]; omega)⟩
    obtain ⟨hno, hch, hos⟩ := rows_no _ _ _ a b z16 (by rw [zN]; omega) (by rw [zN]; omega) (by omega) r (List.mem_of_getElem? hr)
    have hcell := fun j => hcells J r j hr
    have LW : Hid (OpLies w2 r.2.1 r.1.os) := by
      show OpLies _ _ _
      rcases hos with h | ⟨h1, h2⟩ | ⟨h1, h2⟩
      · exact .inl h
      · rw [h1, h2]; exact hp2
      · rw [h1, h2]; exact hp3
    have BW : Hid (Below w.heap.size w w2) := bel_trans B1.out hb
    obtain ⟨cs, hmk, hcv⟩ := made_all N (by omega)
    have HD : Hid (∀ w, _) := fun w => dhcid_is (mk (List.replicate N 0)) ⟨#[97]⟩ ⟨#[]⟩ 900 w (by unfold maxLen; decide) (by
      unfold dhcA
      rw [bs_mk]
      have : okI (List.replicate N (0 : UInt8)) = false := by simp [okI]; omega
      rw [this]; rfl)
    have HE : Hid (∀ w, _) := fun w => dhcid_is ⟨#[97]⟩ ⟨#[65]⟩ ⟨#[]⟩ 900 w (by unfold maxLen; decide) (by decide +kernel)
    clear hcells hp2 hp3 hr hos hb B1 z16 zN HW hl
    obtain ⟨p, pa, pc⟩ := r
    simp only at hno hch hcell
    have HC : Hid (∀ w, OpLies w pa p.os → _) := fun w hL => client_is p pa pc _ _ w hL hch hno
    have c0 : w2.cell? ⟨g, J * 12, none⟩ = some (.int .i64 p.op) := hcell 0 (by omega)
    have c1 : w2.cell? ⟨g, J * 12 + 1, none⟩ = some (.int .i64 p.ht) := hcell 1 (by omega)
    have c2 : w2.cell? ⟨g, J * 12 + 2, none⟩ = some (.int .i64 p.ho) := hcell 2 (by omega)
    have c3 : w2.cell? ⟨g, J * 12 + 3, none⟩ = some (.int .i64 p.xid) := hcell 3 (by omega)
    have c4 : w2.cell? ⟨g, J * 12 + 4, none⟩ = some (.int .i64 p.sc) := hcell 4 (by omega)
    have c5 : w2.cell? ⟨g, J * 12 + 5, none⟩ = some (.int .i64 p.fl) := hcell 5 (by omega)
    have c6 : w2.cell? ⟨g, J * 12 + 6, none⟩ = some (.int .i64 p.ci) := hcell 6 (by omega)
    have c7 : w2.cell? ⟨g, J * 12 + 7, none⟩ = some (.int .i64 p.yi) := hcell 7 (by omega)
    have c8 : w2.cell? ⟨g, J * 12 + 8, none⟩ = some (.int .i64 p.si) := hcell 8 (by omega)
    have c9 : w2.cell? ⟨g, J * 12 + 9, none⟩ = some (.int .i64 p.gi) := hcell 9 (by omega)
    have c10 : w2.cell? ⟨g, J * 12 + 10, none⟩ = some (.string p.ch) := hcell 10 (by omega)
    have c11 : w2.cell? ⟨g, J * 12 + 11, none⟩ = some (.slice pa p.os.length pc) := hcell 11 (by omega)
    clear hcell hno hch
    simp only [pv, cellsP] at HC
    go_wp2_with fail
    refine (HC.out _ LW.out).mono ?_; rintro e w3 ⟨rfl, hb⟩
    have B3 : Hid (Below w.heap.size w w3) := bel_trans BW.out hb
    clear hb c0 c1 c2 c3 c4 c5 c6 c7 c8 c9 c10 c11 HC LW BW
    generalize mk (List.replicate N 0) = TN at *
    have B4 : Hid (Below w.heap.size w (w3.alloc (.cells cs 5))) := B3.out.alloc B3.out.size _
    go_wp2_with fail
    refine (HD.out _).mono ?_; rintro e w5 ⟨rfl, hb⟩
    have B5 : Hid (Below w.heap.size w w5) := bel_trans B4.out hb
    clear hb B4 B3 hmk hcv HD
    go_wp2_with fail
    refine (HE.out _).mono ?_; rintro e w6 ⟨rfl, hb⟩
    have B6 : Hid (Below w.heap.size w w6) := bel_trans B5.out hb
    clear hb B5 HE
    go_wp2_with (go_at_call 12; refine (num_any _ _).mono ?_; rintro e w7 ⟨rfl, rfl⟩)
    go_ret
    exact ⟨rfl, B6.out⟩

theorem own : ownKnob Try.prog.godebug = none := by kernel_rfl
theorem laidOut : laidOutB Try.prog = true := by kernel_rfl

/-! ### The row's step -/
set_option maxRecDepth 100000 in
theorem lifted (os : Os) (started : os.Started) (H : Type) (enc : TypeId × Value → H) :
    ReturnsInHanded {} Try.checked os 4 .any (Rows.identFormsSpec.pre6 enc Try.prog Try.f4 Rows.identFormsRow.domain false) (Rows.identFormsSpec.post enc Try.prog Try.f4 false true false false) := by
  refine returnsInHanded_of_change_sized (C := Try.checked) own started (by kernel_rfl) Try.func4
    (ChangeSpec.witness6 (enc := enc) (C := Try.checked) false ⟨#[], #[.int .i64 0, .int .i64 0], []⟩ 8 (by kernel_rfl) (by kernel_rfl) (by kernel_rfl) (by kernel_rfl)) ?_
  intro W base args ds gs before hval0 hW _ hsz0 _
  have hval : ∀ (j : Nat) t v, Try.f4.params[j]? = some t → args[j]? = some v → Value.okWide Try.prog W .any base t v := hval0
  have hsz : (DataW.weightsEach Try.prog (Try.f4.params.toList ++ Rows.identFormsSpec.plain.varTypes Try.prog) (ds ++ gs)).all (· ≤ reachBytes) = true := hsz0
  have hW' := hW
  obtain ⟨p, q, hA0, hV, rfl, _, _⟩ := hW
  have hA : DataW.TrodAll enc Try.prog W 0 (fun _ => true) true Try.f4.params.toList args.toList ds p := hA0
  rw [Try.params4] at hA hval hsz
  obtain ⟨v0, vs0, d0, ds0, p0, q0, hargs, rfl, rfl, h0, r0⟩ := trodAll_cons hA
  obtain ⟨v1, vs1, d1, ds1, p1, q1, rfl, rfl, rfl, h1, r1⟩ := trodAll_cons r0
  obtain ⟨rfl, rfl, rfl⟩ := trodAll_nil r1
  obtain rfl : args = #[v0, v1] := by cases args; simp_all
  obtain ⟨rfl, rfl⟩ := trodVars_none hV
  obtain ⟨a0, rfl, rfl, rfl, w0⟩ := open_int Try.underlying3 (hval 0 3 v0 rfl rfl) h0
  obtain ⟨a1, rfl, rfl, rfl, w1⟩ := open_int Try.underlying3 (hval 1 3 v1 rfl rfl) h1
  clear hA0 hval0 hsz0
  refine (walk a0 a1 W w0 w1).mono fun e W' ⟨he, bel⟩ => ?_
  subst he
  exact ⟨_, rfl, _, _, _, [], [], [], hW', trodAll_mk1 (shut_bool Try.underlying4 _), (trodAll_cons_mk (shut_int Try.underlying3 w0) (trodAll_cons_mk (shut_int Try.underlying3 w1) trodAll_mk0)), rfl, bel.frame _, fun h => by cases h⟩

theorem over : Rows.identFormsRow.holds Try.pinned (OpenSpec.ofChange Rows.identFormsSpec) :=
  OpenClaim.holds_of_wide 4 Try.f4 rfl rfl rfl rfl rfl rfl rfl ⟨rfl, rfl, rfl, rfl, rfl⟩ rfl rfl rfl rfl rfl (by kernel_rfl) Try.func4 (by kernel_rfl)
    (of_decide_eq_true (by kernel_rfl)) (by unfold Func.isWrapper; first | (rw [if_pos (by decide +kernel)]; kernel_rfl) | (rw [if_neg (by decide +kernel)]; exact ⟨rfl, rfl⟩))
    (fun os started H enc _ => lifted os started H enc)

/-- The given statement. -/
theorem proved : Rows.IdentFormsSaid := over

end identForms
theorem identForms_proved : Rows.IdentFormsSaid := identForms.proved
#print axioms identForms_proved
end Go.Proofs.Ytkohojifnmklmaa
