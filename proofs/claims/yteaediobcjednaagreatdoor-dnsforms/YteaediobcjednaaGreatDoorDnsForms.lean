/-
  pinfoldlaw5.DnsForms, at every two numbers: it returns true; the table rr.soaTimes stays as its initialiser lays it. No other condition.
-/
import Derived.Test.YteaediobcjednaaGreatDoorCards
import Derived.Test.YteaediobcjednaaGreatDoorTie
import Derived.Test.YteaediobcjednaaGreatDoorAwake5
import Derived.Test.YteaediobcjednaaGreatDoorBDns
import Derived.Test.YteaediobcjednaaGreatDoorDnsOpen
import Derived.Test.YteaediobcjednaaGreatDoorDnsBad
import Derived.Test.YteaediobcjednaaGreatDoorMade
import Derived.WalkKit
import Derived.ProofKit
import Derived.OpenShut
import Derived.ShutString
import Derived.ChangeOld
import Derived.SizedLaws
import Derived.Carry
import Derived.Deep.DeepHandedRow
import Derived.Lib.LaidTab
import Derived.Deep.DeepCutAuto
import Derived.Deep.CutRange
namespace Go.Proofs.YteaediobcjednaaGreatDoor
set_option maxRecDepth 100000
namespace dnsForms
open Go.ChangeShapes Go.WideShapes Go.ChangeAt Go.RowKit Go.Pin Go.PlainAid Go.ChangeMaps

theorem Tryz.makeQ (w : World) : (Instr.makeSlice 22 (.int .i64 5) (.int .i64 5)).run Tryz.prog w = .ok (.slice (some ⟨w.heap.size, 0, none⟩) 5 5) (w.alloc (.cells #[.string ⟨#[]⟩, .int .i64 0, .string ⟨#[]⟩, .int .i64 0, .string ⟨#[]⟩, .int .i64 0, .string ⟨#[]⟩, .int .i64 0, .string ⟨#[]⟩, .int .i64 0] 43)) := by kernel_rfl
theorem step_value {P : Program} {o : Oper} {a : Act} {w : World} {next : Act → World → Prop} {Q : Exit → Act → World → Prop} {v : Value} {w' : World} (h : (execOp a.eval o).run P w = .ok (.value v) w') (hn : next (a.put o.dst v) w') : o.wp P a w next Q := by
  unfold Oper.wp; rw [h]; exact hn
theorem zeroM_may : mayM zeroM = true := by decide +kernel
theorem zeroM_written : writtenM zeroM = List.replicate 12 0 := by decide +kernel
theorem zeroM_12 : putM zeroM 12 = (mk (List.replicate 12 0), 0) := by
  rw [putM_yes ((mayM_iff zeroM).1 zeroM_may) (by decide) (by decide), zeroM_written, if_pos (by decide)]
theorem zeroM_out {k : Int} (h : k < 12 ∨ 65535 < k) : putM zeroM k = (⟨#[]⟩, 500) := by
  unfold putM
  rw [if_pos (by rcases h with h | h <;> simp [h])]
theorem zeroM_fits : MsgFits zeroM := ⟨by decide, (by intro r h; cases h), (by intro r h; cases h), (by intro r h; cases h), by decide, by decide, by decide, by decide⟩
theorem zeroM_lies (w : World) : MsgLies w zeroM P0 := ⟨.inl rfl, .inl rfl, .inl rfl, .inl rfl⟩
set_option maxRecDepth 100000 in
set_option maxHeartbeats 8000000 in
theorem walk (a b : Int) (w : World) (_wa : (Lit.int .i64 a).wf = true) (_wb : (Lit.int .i64 b).wf = true) (hL : Laid w) : Calls Tryz.prog 4 #[.int .i64 a, .int .i64 b] w fun e w' => e = .returned (.bool true) ∧ Below w.heap.size w w' := by
  obtain ⟨I, hI, hIl⟩ := pick_mod a 16 (by omega) (by omega)
  have hmask : bits .and .i64 b 1023 = b % 1024 := i64_mask 10 b (by omega)
  obtain ⟨d, hd⟩ : ∃ d : Nat, 1 + b % 1024 = d := ⟨(1 + b % 1024).toNat, by omega⟩
  have hd1 : 1 ≤ (d : Int) ∧ (d : Int) ≤ 1024 := by omega
  have hmq := Tryz.makeQ
  have HL : Hid (Laid w) := hL
  have P2 : Hid (∀ w', Laid w' → _) := fun w' hL => dPut_is zeroM P0 (12 - (d : Int)) ⟨#[]⟩ 500 w' zeroM_fits (zeroM_lies w') hL (zeroM_out (.inl (by omega)))
  have P3 : Hid (∀ w', Laid w' → _) := fun w' hL => dPut_is zeroM P0 (65535 + (d : Int)) ⟨#[]⟩ 500 w' zeroM_fits (zeroM_lies w') hL (zeroM_out (.inr (by omega)))
  have P4 : Hid (∀ w', Laid w' → _) := fun w' hL => dPut_is zeroM P0 12 (mk (List.replicate 12 0)) 0 w' zeroM_fits (zeroM_lies w') hL zeroM_12
  obtain ⟨z12, MK0, CV⟩ := made_all 12 (by omega)
  have MK : ∀ w : World, (Instr.makeSlice 48 (.int .i64 12) (.int .i64 12)).run Tryz.prog w = .ok (.slice (some ⟨w.heap.size, 0, none⟩) 12 12) (w.alloc (.cells z12 5)) := MK0
  clear MK0 hL
  generalize mk (List.replicate 12 0) = T12 at *
  have hT12 : (T12.toList == T12.toList) = true := by simp
  simp only [mv, cellsM, zeroM, P0, List.length_nil] at P2 P3 P4
  go_enter Tryz.func4, Tryz.ntmps4
  go_wp2_with fail
  refine (awake5_yes _ HL.out).mono ?_; rintro e x1 ⟨rfl, hb1⟩
  have B1 : Hid (Below w.heap.size w x1) := hb1
  clear hb1
  obtain ⟨u1, hu1⟩ : ∃ u1, x1.alloc (.cells #[.string ⟨#[]⟩, .int .i64 0, .string ⟨#[]⟩, .int .i64 0, .string ⟨#[]⟩, .int .i64 0, .string ⟨#[]⟩, .int .i64 0, .string ⟨#[]⟩, .int .i64 0] 43) = u1 := ⟨_, rfl⟩
  obtain ⟨u2, hu2⟩ : ∃ u2, u1.alloc (.cells #[.string ⟨#[65]⟩, .int .i64 0] 43) = u2 := ⟨_, rfl⟩
  obtain ⟨u3, hu3⟩ : ∃ u3, u2.alloc (.cells #[.string ⟨#[]⟩, .int .i64 (-(d : Int))] 43) = u3 := ⟨_, rfl⟩
  obtain ⟨u4, hu4⟩ : ∃ u4, u3.alloc (.cells #[.string ⟨#[]⟩, .int .i64 (65535 + (d : Int))] 43) = u4 := ⟨_, rfl⟩
  obtain ⟨u5, hu5⟩ : ∃ u5, u4.alloc (.cells #[.string ⟨#[]⟩, .int .i64 0, .int .i64 0, .int .i64 0, .string ⟨#[]⟩, .string ⟨#[]⟩, .int .i64 0] 45) = u5 := ⟨_, rfl⟩
  obtain ⟨u6, hu6⟩ : ∃ u6, u5.alloc (.cells #[.string ⟨#[]⟩, .int .i64 41, .int .i64 0, .int .i64 0, .string ⟨#[]⟩, .string ⟨#[]⟩, .int .i64 0] 45) = u6 := ⟨_, rfl⟩
  obtain ⟨u7, hu7⟩ : ∃ u7, u6.alloc (.cells #[.string ⟨#[]⟩, .int .i64 0, .int .i64 0, .int .i64 0, .string ⟨#[]⟩, .string ⟨#[]⟩, .int .i64 0] 45) = u7 := ⟨_, rfl⟩
  obtain ⟨u8, hu8⟩ : ∃ u8, u7.alloc (.cells #[.int .i64 (-(d : Int)), .bool false, .int .i64 0, .bool false, .bool false, .bool false, .int .i64 0, .slice none 0 0, .slice none 0 0, .slice none 0 0, .slice none 0 0, .int .i64 0, .int .i64 (65535 + (d : Int)), .bool false, .int .i64 0, .bool false, .bool false, .bool false, .int .i64 0, .slice none 0 0, .slice none 0 0, .slice none 0 0, .slice none 0 0, .int .i64 0, .int .i64 0, .bool false, .int .i64 (-(d : Int)), .bool false, .bool false, .bool false, .int .i64 0, .slice none 0 0, .slice none 0 0, .slice none 0 0, .slice none 0 0, .int .i64 0, .int .i64 0, .bool false, .int .i64 (15 + (d : Int)), .bool false, .bool false, .bool false, .int .i64 0, .slice none 0 0, .slice none 0 0, .slice none 0 0, .slice none 0 0, .int .i64 0, .int .i64 0, .bool false, .int .i64 0, .bool false, .bool false, .bool false, .int .i64 (-(d : Int)), .slice none 0 0, .slice none 0 0, .slice none 0 0, .slice none 0 0, .int .i64 0, .int .i64 0, .bool false, .int .i64 0, .bool false, .bool false, .bool false, .int .i64 (15 + (d : Int)), .slice none 0 0, .slice none 0 0, .slice none 0 0, .slice none 0 0, .int .i64 0, .int .i64 0, .bool false, .int .i64 0, .bool false, .bool false, .bool false, .int .i64 0, .slice none 0 0, .slice none 0 0, .slice none 0 0, .slice none 0 0, .int .i64 511, .int .i64 0, .bool false, .int .i64 0, .bool false, .bool false, .bool false, .int .i64 0, .slice none 0 0, .slice none 0 0, .slice none 0 0, .slice none 0 0, .int .i64 (-(d : Int)), .int .i64 0, .bool false, .int .i64 0, .bool false, .bool false, .bool false, .int .i64 0, .slice none 0 0, .slice none 0 0, .slice none 0 0, .slice none 0 0, .int .i64 (65535 + (d : Int)), .int .i64 0, .bool false, .int .i64 0, .bool false, .bool false, .bool false, .int .i64 0, .slice (some ⟨x1.heap.size, 0, none⟩) 5 5, .slice none 0 0, .slice none 0 0, .slice none 0 0, .int .i64 0, .int .i64 0, .bool false, .int .i64 0, .bool false, .bool false, .bool false, .int .i64 0, .slice (some ⟨u1.heap.size, 0, none⟩) 1 1, .slice none 0 0, .slice none 0 0, .slice none 0 0, .int .i64 0, .int .i64 0, .bool false, .int .i64 0, .bool false, .bool false, .bool false, .int .i64 0, .slice (some ⟨u2.heap.size, 0, none⟩) 1 1, .slice none 0 0, .slice none 0 0, .slice none 0 0, .int .i64 0, .int .i64 0, .bool false, .int .i64 0, .bool false, .bool false, .bool false, .int .i64 0, .slice (some ⟨u3.heap.size, 0, none⟩) 1 1, .slice none 0 0, .slice none 0 0, .slice none 0 0, .int .i64 0, .int .i64 0, .bool false, .int .i64 0, .bool false, .bool false, .bool false, .int .i64 0, .slice none 0 0, .slice (some ⟨u4.heap.size, 0, none⟩) 1 1, .slice none 0 0, .slice none 0 0, .int .i64 0, .int .i64 0, .bool false, .int .i64 0, .bool false, .bool false, .bool false, .int .i64 0, .slice none 0 0, .slice none 0 0, .slice (some ⟨u5.heap.size, 0, none⟩) 1 1, .slice none 0 0, .int .i64 0, .int .i64 0, .bool false, .int .i64 0, .bool false, .bool false, .bool false, .int .i64 0, .slice none 0 0, .slice none 0 0, .slice none 0 0, .slice (some ⟨u6.heap.size, 0, none⟩) 1 1, .int .i64 0] 25) = u8 := ⟨_, rfl⟩
  have bu1 : Below x1.heap.size x1 u1 := by rw [← hu1]; exact (Below.refl _ _).alloc (Nat.le_refl _) _
  have bu2 : Below u1.heap.size u1 u2 := by rw [← hu2]; exact (Below.refl _ _).alloc (Nat.le_refl _) _
  have bu3 : Below u2.heap.size u2 u3 := by rw [← hu3]; exact (Below.refl _ _).alloc (Nat.le_refl _) _
  have bu4 : Below u3.heap.size u3 u4 := by rw [← hu4]; exact (Below.refl _ _).alloc (Nat.le_refl _) _
  have bu5 : Below u4.heap.size u4 u5 := by rw [← hu5]; exact (Below.refl _ _).alloc (Nat.le_refl _) _
  have bu6 : Below u5.heap.size u5 u6 := by rw [← hu6]; exact (Below.refl _ _).alloc (Nat.le_refl _) _
  have bu7 : Below u6.heap.size u6 u7 := by rw [← hu7]; exact (Below.refl _ _).alloc (Nat.le_refl _) _
  have bu8 : Below u7.heap.size u7 u8 := by rw [← hu8]; exact (Below.refl _ _).alloc (Nat.le_refl _) _
  have l0 : QuesLie u8 (some ⟨x1.heap.size, 0, none⟩) (List.replicate 5 ⟨⟨#[]⟩, 0⟩) := by
    have h : QuesLie u1 (some ⟨x1.heap.size, 0, none⟩) (List.replicate 5 ⟨⟨#[]⟩, 0⟩) := by rw [← hu1]; exact ques_lit x1 _ _ _ rfl
    exact h.below (bel_trans (bel_trans (bel_trans (bel_trans (bel_trans (bel_trans bu2 bu3) bu4) bu5) bu6) bu7) bu8)
  have l1 : QuesLie u8 (some ⟨u1.heap.size, 0, none⟩) [⟨⟨#[65]⟩, 0⟩] := by
    have h : QuesLie u2 (some ⟨u1.heap.size, 0, none⟩) [⟨⟨#[65]⟩, 0⟩] := by rw [← hu2]; exact ques_lit u1 _ _ _ rfl
    exact h.below (bel_trans (bel_trans (bel_trans (bel_trans (bel_trans bu3 bu4) bu5) bu6) bu7) bu8)
  have l2 : QuesLie u8 (some ⟨u2.heap.size, 0, none⟩) [⟨⟨#[]⟩, -(d : Int)⟩] := by
    have h : QuesLie u3 (some ⟨u2.heap.size, 0, none⟩) [⟨⟨#[]⟩, -(d : Int)⟩] := by rw [← hu3]; exact ques_lit u2 _ _ _ rfl
    exact h.below (bel_trans (bel_trans (bel_trans (bel_trans bu4 bu5) bu6) bu7) bu8)
  have l3 : QuesLie u8 (some ⟨u3.heap.size, 0, none⟩) [⟨⟨#[]⟩, 65535 + (d : Int)⟩] := by
    have h : QuesLie u4 (some ⟨u3.heap.size, 0, none⟩) [⟨⟨#[]⟩, 65535 + (d : Int)⟩] := by rw [← hu4]; exact ques_lit u3 _ _ _ rfl
    exact h.below (bel_trans (bel_trans (bel_trans bu5 bu6) bu7) bu8)
  have l4 : RecsLie u8 (some ⟨u4.heap.size, 0, none⟩) [zeroR] := by
    have h : RecsLie u5 (some ⟨u4.heap.size, 0, none⟩) [zeroR] := by rw [← hu5]; exact recs_lit u4 _ _ _ rfl
    exact h.below (bel_trans (bel_trans bu6 bu7) bu8)
  have l5 : RecsLie u8 (some ⟨u5.heap.size, 0, none⟩) [optR] := by
    have h : RecsLie u6 (some ⟨u5.heap.size, 0, none⟩) [optR] := by rw [← hu6]; exact recs_lit u5 _ _ _ rfl
    exact h.below (bel_trans bu7 bu8)
  have l6 : RecsLie u8 (some ⟨u6.heap.size, 0, none⟩) [zeroR] := by
    have h : RecsLie u7 (some ⟨u6.heap.size, 0, none⟩) [zeroR] := by rw [← hu7]; exact recs_lit u6 _ _ _ rfl
    exact h.below bu8
  have B8 : Hid (Below w.heap.size w u8) := bel_trans (bel_trans B1.out bu1) (bel_trans (bel_trans (bel_trans (bel_trans (bel_trans (bel_trans bu2 bu3) bu4) bu5) bu6) bu7) bu8)
  obtain ⟨r, hr⟩ : ∃ r, (badM (d : Int) (some ⟨x1.heap.size, 0, none⟩) (some ⟨u1.heap.size, 0, none⟩) (some ⟨u2.heap.size, 0, none⟩) (some ⟨u3.heap.size, 0, none⟩) (some ⟨u4.heap.size, 0, none⟩) (some ⟨u5.heap.size, 0, none⟩) (some ⟨u6.heap.size, 0, none⟩))[I]? = some r := ⟨_, List.getElem?_eq_getElem (by simp [badM]; omega)⟩
  have hmem := List.mem_of_getElem? hr
  have hno := badM_no (d : Int) (some ⟨x1.heap.size, 0, none⟩) (some ⟨u1.heap.size, 0, none⟩) (some ⟨u2.heap.size, 0, none⟩) (some ⟨u3.heap.size, 0, none⟩) (some ⟨u4.heap.size, 0, none⟩) (some ⟨u5.heap.size, 0, none⟩) (some ⟨u6.heap.size, 0, none⟩) hd1 r hmem
  have hfit := badM_fits (d : Int) (some ⟨x1.heap.size, 0, none⟩) (some ⟨u1.heap.size, 0, none⟩) (some ⟨u2.heap.size, 0, none⟩) (some ⟨u3.heap.size, 0, none⟩) (some ⟨u4.heap.size, 0, none⟩) (some ⟨u5.heap.size, 0, none⟩) (some ⟨u6.heap.size, 0, none⟩) r hmem
  have hli := badM_lies u8 (d : Int) (some ⟨x1.heap.size, 0, none⟩) (some ⟨u1.heap.size, 0, none⟩) (some ⟨u2.heap.size, 0, none⟩) (some ⟨u3.heap.size, 0, none⟩) (some ⟨u4.heap.size, 0, none⟩) (some ⟨u5.heap.size, 0, none⟩) (some ⟨u6.heap.size, 0, none⟩) l0 l1 l2 l3 l4 l5 l6 r hmem
  have hcell : ∀ j, j < 12 → u8.cell? ⟨u7.heap.size, I * 12 + j, none⟩ = (cellsM r.1 r.2)[j]? := fun j hj => by
    have h7 := flat_12m (badM (d : Int) (some ⟨x1.heap.size, 0, none⟩) (some ⟨u1.heap.size, 0, none⟩) (some ⟨u2.heap.size, 0, none⟩) (some ⟨u3.heap.size, 0, none⟩) (some ⟨u4.heap.size, 0, none⟩) (some ⟨u5.heap.size, 0, none⟩) (some ⟨u6.heap.size, 0, none⟩)) I r j hr hj
    cases hv : (cellsM r.1 r.2)[j]? with
    | none => rw [Array.getElem?_eq_none_iff] at hv; simp [cellsM] at hv; omega
    | some v =>
      rw [hv] at h7
      rw [← hu8]
      refine new_cell u7 _ _ _ _ ?_
      rw [← List.getElem?_toArray] at h7
      exact h7
  obtain ⟨m, p⟩ := r
  simp only at hno hfit hli hcell
  have P1 : Hid (∀ w', MsgLies w' m p → Laid w' → _) := fun w' h hL => dPut_is m p 512 ⟨#[]⟩ 500 w' hfit h hL (putM_no hno 512)
  have M1 : Hid (∀ w', MsgLies w' m p → _) := fun w' h => dMay_c m p w' hfit h
  rw [hno] at M1
  have LI : Hid (MsgLies u8 m p) := hli
  have hall : Hid (∀ w' b, BoxM w' b m p → _) := fun w' b h => h.all
  have c0 : u8.cell? ⟨u7.heap.size, I * 12, none⟩ = some (.int .i64 m.id) := hcell 0 (by omega)
  have c1 : u8.cell? ⟨u7.heap.size, I * 12 + 1, none⟩ = some (.bool m.rsp) := hcell 1 (by omega)
  have c2 : u8.cell? ⟨u7.heap.size, I * 12 + 2, none⟩ = some (.int .i64 m.op) := hcell 2 (by omega)
  have c3 : u8.cell? ⟨u7.heap.size, I * 12 + 3, none⟩ = some (.bool m.au) := hcell 3 (by omega)
  have c4 : u8.cell? ⟨u7.heap.size, I * 12 + 4, none⟩ = some (.bool m.tr) := hcell 4 (by omega)
  have c5 : u8.cell? ⟨u7.heap.size, I * 12 + 5, none⟩ = some (.bool m.re) := hcell 5 (by omega)
  have c6 : u8.cell? ⟨u7.heap.size, I * 12 + 6, none⟩ = some (.int .i64 m.co) := hcell 6 (by omega)
  have c7 : u8.cell? ⟨u7.heap.size, I * 12 + 7, none⟩ = some (.slice p.qa m.qs.length p.qc) := hcell 7 (by omega)
  have c8 : u8.cell? ⟨u7.heap.size, I * 12 + 8, none⟩ = some (.slice p.aa m.an.length p.ac) := hcell 8 (by omega)
  have c9 : u8.cell? ⟨u7.heap.size, I * 12 + 9, none⟩ = some (.slice p.sa m.sv.length p.sc) := hcell 9 (by omega)
  have c10 : u8.cell? ⟨u7.heap.size, I * 12 + 10, none⟩ = some (.slice p.da m.ad.length p.dc) := hcell 10 (by omega)
  have c11 : u8.cell? ⟨u7.heap.size, I * 12 + 11, none⟩ = some (.int .i64 m.sz) := hcell 11 (by omega)
  simp only [mv, cellsM] at P1 M1
  have hI' : (I : Int) < 16 := hIl
  clear l0 l1 l2 l3 l4 l5 l6 hcell hno hfit hli hr hmem bu1 bu2 bu3 bu4 bu5 bu6 bu7 bu8 B1
  obtain ⟨y1, hy1⟩ : ∃ y1, u8.alloc (.cells #[.int .i64 m.id, .bool m.rsp, .int .i64 m.op, .bool m.au, .bool m.tr, .bool m.re, .int .i64 m.co, .slice p.qa m.qs.length p.qc, .slice p.aa m.an.length p.ac, .slice p.sa m.sv.length p.sc, .slice p.da m.ad.length p.dc, .int .i64 m.sz] 25) = y1 := ⟨_, rfl⟩
  have hby : Below u8.heap.size u8 y1 := by rw [← hy1]; exact (Below.refl _ _).alloc (Nat.le_refl _) _
  have X1 : Hid (BoxM y1 u8.heap.size m p) := by
    show BoxM _ _ _ _
    rw [← hy1]; exact BoxM.new u8 m p
  have B9 : Hid (Below w.heap.size w y1) := bel_trans B8.out hby
  have L9 : Hid (MsgLies y1 m p) := LI.out.below hby
  obtain ⟨e0, e1, e2, e3, e4, e5, e6, e7, e8, e9, e10, e11⟩ := hall.out _ _ X1.out
  clear hby LI B8
  go_wp2_with fail
  refine step_value (v := .slice (some ⟨u7.heap.size, 0, none⟩) 16 16) (w' := u7.alloc (.cells #[.int .i64 (-(d : Int)), .bool false, .int .i64 0, .bool false, .bool false, .bool false, .int .i64 0, .slice none 0 0, .slice none 0 0, .slice none 0 0, .slice none 0 0, .int .i64 0, .int .i64 (65535 + (d : Int)), .bool false, .int .i64 0, .bool false, .bool false, .bool false, .int .i64 0, .slice none 0 0, .slice none 0 0, .slice none 0 0, .slice none 0 0, .int .i64 0, .int .i64 0, .bool false, .int .i64 (-(d : Int)), .bool false, .bool false, .bool false, .int .i64 0, .slice none 0 0, .slice none 0 0, .slice none 0 0, .slice none 0 0, .int .i64 0, .int .i64 0, .bool false, .int .i64 (15 + (d : Int)), .bool false, .bool false, .bool false, .int .i64 0, .slice none 0 0, .slice none 0 0, .slice none 0 0, .slice none 0 0, .int .i64 0, .int .i64 0, .bool false, .int .i64 0, .bool false, .bool false, .bool false, .int .i64 (-(d : Int)), .slice none 0 0, .slice none 0 0, .slice none 0 0, .slice none 0 0, .int .i64 0, .int .i64 0, .bool false, .int .i64 0, .bool false, .bool false, .bool false, .int .i64 (15 + (d : Int)), .slice none 0 0, .slice none 0 0, .slice none 0 0, .slice none 0 0, .int .i64 0, .int .i64 0, .bool false, .int .i64 0, .bool false, .bool false, .bool false, .int .i64 0, .slice none 0 0, .slice none 0 0, .slice none 0 0, .slice none 0 0, .int .i64 511, .int .i64 0, .bool false, .int .i64 0, .bool false, .bool false, .bool false, .int .i64 0, .slice none 0 0, .slice none 0 0, .slice none 0 0, .slice none 0 0, .int .i64 (-(d : Int)), .int .i64 0, .bool false, .int .i64 0, .bool false, .bool false, .bool false, .int .i64 0, .slice none 0 0, .slice none 0 0, .slice none 0 0, .slice none 0 0, .int .i64 (65535 + (d : Int)), .int .i64 0, .bool false, .int .i64 0, .bool false, .bool false, .bool false, .int .i64 0, .slice (some ⟨x1.heap.size, 0, none⟩) 5 5, .slice none 0 0, .slice none 0 0, .slice none 0 0, .int .i64 0, .int .i64 0, .bool false, .int .i64 0, .bool false, .bool false, .bool false, .int .i64 0, .slice (some ⟨u1.heap.size, 0, none⟩) 1 1, .slice none 0 0, .slice none 0 0, .slice none 0 0, .int .i64 0, .int .i64 0, .bool false, .int .i64 0, .bool false, .bool false, .bool false, .int .i64 0, .slice (some ⟨u2.heap.size, 0, none⟩) 1 1, .slice none 0 0, .slice none 0 0, .slice none 0 0, .int .i64 0, .int .i64 0, .bool false, .int .i64 0, .bool false, .bool false, .bool false, .int .i64 0, .slice (some ⟨u3.heap.size, 0, none⟩) 1 1, .slice none 0 0, .slice none 0 0, .slice none 0 0, .int .i64 0, .int .i64 0, .bool false, .int .i64 0, .bool false, .bool false, .bool false, .int .i64 0, .slice none 0 0, .slice (some ⟨u4.heap.size, 0, none⟩) 1 1, .slice none 0 0, .slice none 0 0, .int .i64 0, .int .i64 0, .bool false, .int .i64 0, .bool false, .bool false, .bool false, .int .i64 0, .slice none 0 0, .slice none 0 0, .slice (some ⟨u5.heap.size, 0, none⟩) 1 1, .slice none 0 0, .int .i64 0, .int .i64 0, .bool false, .int .i64 0, .bool false, .bool false, .bool false, .int .i64 0, .slice none 0 0, .slice none 0 0, .slice none 0 0, .slice (some ⟨u6.heap.size, 0, none⟩) 1 1, .int .i64 0] 25)) (by kernel_rfl) ?_
  rw [hu8]
  go_wp2_with fail
  refine (P1.out _ L9.out (HL.out.below B9.out)).mono ?_; rintro e y2 ⟨rfl, hb⟩
  have X2 : Hid (BoxM y2 u8.heap.size m p) := X1.out.below hb
  have B10 : Hid (Below w.heap.size w y2) := bel_trans B9.out hb
  have L10 : Hid (MsgLies y2 m p) := L9.out.below hb
  clear hb X1 B9 L9 P1 e0 e1 e2 e3 e4 e5 e6 e7 e8 e9 e10 e11 c0 c1 c2 c3 c4 c5 c6 c7 c8 c9 c10 c11 hy1 hu1 hu2 hu3 hu4 hu5 hu6 hu7 hu8
  generalize u8.heap.size = bx at *
  go_wp2_with fail
  refine (P2.out _ (HL.out.below B10.out)).mono ?_; rintro e y3 ⟨rfl, hb⟩
  have X3 : Hid (BoxM y3 bx m p) := X2.out.below hb
  have B11 : Hid (Below w.heap.size w y3) := bel_trans B10.out hb
  have L11 : Hid (MsgLies y3 m p) := L10.out.below hb
  clear hb X2 B10 L10 P2
  go_wp2_with fail
  refine (P3.out _ (HL.out.below B11.out)).mono ?_; rintro e y4 ⟨rfl, hb⟩
  have X4 : Hid (BoxM y4 bx m p) := X3.out.below hb
  have B12 : Hid (Below w.heap.size w y4) := bel_trans B11.out hb
  have L12 : Hid (MsgLies y4 m p) := L11.out.below hb
  clear hb X3 B11 L11 P3
  go_wp2_with fail
  refine (P4.out _ (HL.out.below B12.out)).mono ?_; rintro e y5 ⟨rfl, hb⟩
  have X5 : Hid (BoxM y5 bx m p) := X4.out.below hb
  have B13 : Hid (Below w.heap.size w y5) := bel_trans B12.out hb
  have L13 : Hid (MsgLies y5 m p) := L12.out.below hb
  clear hb X4 B12 L12 P4
  obtain ⟨e0, e1, e2, e3, e4, e5, e6, e7, e8, e9, e10, e11⟩ := hall.out _ _ X5.out
  go_wp2_with fail
  refine (M1.out _ L13.out).mono ?_; rintro e y6 ⟨rfl, hb⟩
  have B14 : Hid (Below w.heap.size w y6) := bel_trans B13.out hb
  clear hb B13 L13 M1 X5 e0 e1 e2 e3 e4 e5 e6 e7 e8 e9 e10 e11
  have BZ : Hid (Below w.heap.size w (y6.alloc (.cells z12 5))) := B14.out.alloc B14.out.size _
  go_wp2_with (go_at_call 10; refine (num_any _ _).mono ?_; rintro e w11 ⟨rfl, rfl⟩)
  go_ret
  exact ⟨rfl, BZ.out⟩
theorem own : ownKnob Tryz.prog.godebug = none := by kernel_rfl
theorem laidOut : laidOutB Tryz.prog = true := by kernel_rfl
theorem gTab : Tryz.prog.globalNamed "pinfold/rr.soaTimes" = some 0 := by kernel_rfl
theorem gTabType : (Tryz.prog.globals[0]?).map (·.type) = some 114 := by kernel_rfl
theorem cellsTab : Tryz.prog.cellsOf 114 = 4 := by kernel_rfl
theorem cellsInt : Tryz.prog.cellsOf 3 = 1 := by kernel_rfl
/-- What the row's list gives. -/
theorem table {W : World} (h : laidMetH Tryz.prog Rows.dnsFormsRow.laid W) : Laid W := by
  have t : Lib.TabIs Tryz.prog W "pinfold/rr.soaTimes" .i64 [60, 60, 600, 60] := Lib.tabIs_of_head (rest := []) gTab gTabType Tryz.underlying114 Tryz.underlying3 cellsInt cellsTab h
  exact ⟨t.cell gTab 0 (by decide), t.cell gTab 1 (by decide), t.cell gTab 2 (by decide), t.cell gTab 3 (by decide)⟩
/-- A world for the witness: the table holds what its initialiser lays. -/
noncomputable def laidWorld (os : Os) : World :=
  { World.holding Tryz.prog os ⟨#[], #[], []⟩ with heap := (World.holding Tryz.prog os ⟨#[], #[], []⟩).heap.modify 0 fun
      | .cells _ t frozen => .cells #[.int .i64 60, .int .i64 60, .int .i64 600, .int .i64 60] t frozen
      | o => o }
theorem laid_met (os : Os) : laidMet Tryz.prog Rows.dnsFormsRow.laid ((laidWorld os).forCall (fun _ _ => 0) ⟨#[], #[.int .i64 0, .int .i64 0], []⟩).memory :=
  laidMet_of_run' 8 (by kernel_rfl) (by kernel_rfl)
theorem reads (os : Os) {H : Type} (enc : TypeId × Value → H) : ∃ places, DataW.whole enc Tryz.prog ((laidWorld os).forCall (fun _ _ => 0) ⟨#[], #[.int .i64 0, .int .i64 0], []⟩).memory Tryz.f4.params.toList Rows.dnsFormsSpec.vars false (#[.int .i64 0, .int .i64 0] : Array Value).toList 8 = some ([.lit (.int .i64 0), .lit (.int .i64 0)], [], places) :=
  ⟨[], by kernel_rfl⟩

/-! ### The row's step -/
set_option maxRecDepth 100000 in
theorem lifted (os : Os) (started : os.Started) (H : Type) (enc : TypeId × Value → H) (F : Stop.Interp) :
    ReturnsInHanded {} Tryz.checked os 4 .any ((OpenSpec.ofChange Rows.dnsFormsSpec).preRow enc Tryz.prog Tryz.f4 Rows.dnsFormsRow.domain false Rows.dnsFormsRow.laid) (((OpenSpec.ofChange Rows.dnsFormsSpec).at F).post enc Tryz.prog Tryz.f4 false true false false) := by
  obtain ⟨places, hx⟩ := reads os enc
  refine returnsInHanded_of_row (C := Tryz.checked) (s := OpenSpec.ofChange Rows.dnsFormsSpec) own started (by kernel_rfl) Tryz.func4
    (witness_row_at (enc := enc) (C := Tryz.checked) false (laidWorld os) #[.int .i64 0, .int .i64 0] rfl (by kernel_rfl) (by kernel_rfl) (by kernel_rfl)
      (OpenSpec.preRow_of_cond 8 hx (by kernel_rfl) (fun k hk => by cases hk) (by kernel_rfl) (laid_met os))) ?_
  intro W base args ds gs before hval0 hW _ hcond hsz0 hL _ _
  have hLaid := table hL
  have hval : ∀ (j : Nat) t v, Tryz.f4.params[j]? = some t → args[j]? = some v → Value.okWide Tryz.prog W .any base t v := hval0
  have hsz : (DataW.weightsEach Tryz.prog (Tryz.f4.params.toList ++ Rows.dnsFormsSpec.plain.varTypes Tryz.prog) (ds ++ gs)).all (· ≤ reachBytes) = true := hsz0
  have hW' := hW
  obtain ⟨p, q, hA0, hV, rfl, _, _⟩ := hW
  have hA : DataW.TrodAll enc Tryz.prog W 0 (fun _ => true) true Tryz.f4.params.toList args.toList ds p := hA0
  rw [Tryz.params4] at hA hval hsz
  obtain ⟨v0, vs0, d0, ds0, p0, q0, hargs, rfl, rfl, h0, r0⟩ := trodAll_cons hA
  obtain ⟨v1, vs1, d1, ds1, p1, q1, rfl, rfl, rfl, h1, r1⟩ := trodAll_cons r0
  obtain ⟨rfl, rfl, rfl⟩ := trodAll_nil r1
  obtain rfl : args = #[v0, v1] := by cases args; simp_all
  obtain ⟨rfl, rfl⟩ := trodVars_none hV
  obtain ⟨a0, rfl, rfl, rfl, w0⟩ := open_int Tryz.underlying3 (hval 0 3 v0 rfl rfl) h0
  obtain ⟨a1, rfl, rfl, rfl, w1⟩ := open_int Tryz.underlying3 (hval 1 3 v1 rfl rfl) h1
  clear hA0 hval0 hsz0 hcond
  refine (walk a0 a1 W w0 w1 hLaid).mono fun e W' ⟨he, bel⟩ => ?_
  subst he
  exact ⟨_, rfl, _, _, _, [], [], [], hW', trodAll_mk1 (shut_bool Tryz.underlying4 _), (trodAll_cons_mk (shut_int Tryz.underlying3 w0) (trodAll_cons_mk (shut_int Tryz.underlying3 w1) trodAll_mk0)), rfl, bel.frame _, fun h => by cases h⟩

theorem said : Rows.DnsFormsSaid :=
  OpenClaim.holds_of_cond 4 Tryz.f4 rfl rfl rfl rfl rfl rfl rfl ⟨rfl, rfl, rfl, rfl, rfl⟩ rfl rfl rfl rfl rfl (by kernel_rfl) Tryz.func4 (by kernel_rfl)
    (of_decide_eq_true (by kernel_rfl)) (by unfold Func.isWrapper; first | (rw [if_pos (by decide +kernel)]; kernel_rfl) | (rw [if_neg (by decide +kernel)]; exact ⟨rfl, rfl⟩))
    (fun os started H enc _ F => by rw [OpenClaim.pre_eq_preRow]; exact lifted os started H enc F)
/-- No parameter wants a stand-in. -/
theorem plain (f : FuncId) (fn : Func) (hf : Tryz.pinned.checked.prog.funcNamed "pinfold/pinfoldlaw5.DnsForms" = some f) (hfn : Tryz.pinned.checked.prog.funcs[f]? = some fn) :
    false = Tryz.pinned.checked.prog.looks [] ∧ ∀ (j : Nat) t, fn.params[j]? = some t → Tryz.pinned.checked.prog.wantsStandIn t = false := by
  obtain rfl : f = 4 := Option.some.inj ((show Tryz.prog.funcNamed "pinfold/pinfoldlaw5.DnsForms" = some 4 by kernel_rfl).symm.trans hf) |>.symm
  obtain rfl : fn = Tryz.f4 := (Option.some.inj (Tryz.func4.symm.trans hfn)).symm
  refine ⟨by kernel_rfl, fun j t ht => ?_⟩
  rw [Tryz.params4] at ht
  have hm := Array.mem_of_getElem? ht
  simp at hm
  subst hm
  exact (show Tryz.prog.wantsStandIn 3 = false by kernel_rfl)
/-- The given statement. -/
theorem card : Rows.DnsFormsCardSaid :=
  Claim7.holds_tied_plain_at .later [] _ _ _ _ said (fun _ h => by cases h) (by kernel_rfl) (fun _ h => by cases h) dnsForms_row_tie rfl ⟨rfl, rfl⟩ (by kernel_rfl) rfl plain (by kernel_rfl)

end dnsForms
theorem dnsForms_proved : Rows.DnsFormsCardSaid := dnsForms.card
end Go.Proofs.YteaediobcjednaaGreatDoor
