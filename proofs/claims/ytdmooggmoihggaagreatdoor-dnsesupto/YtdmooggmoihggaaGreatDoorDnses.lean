/-
  pinfoldlaw5.Dnses, at every message, bound and text of at most 1048576 bytes and items together: it returns true; what came in reads as it did. The row's listed variable (rr.soaTimes) is tied to the program's text by the given tie.
-/
import Derived.Test.YtdmooggmoihggaaGreatDoorCards
import Derived.Test.YtdmooggmoihggaaGreatDoorTie
import Derived.Test.YtdmooggmoihggaaGreatDoorAwake5
import Derived.Test.YtdmooggmoihggaaGreatDoorBDns
import Derived.Test.YtdmooggmoihggaaGreatDoorDnsSame
import Derived.Test.YtdmooggmoihggaaGreatDoorDnsOpen
import Derived.Test.YtdmooggmoihggaaGreatDoorDnsCopy
import Derived.Test.YtdmooggmoihggaaGreatDoorDnsLend
import Derived.Test.YtdmooggmoihggaaGreatDoorDnsRefMsg
import Derived.Test.YtdmooggmoihggaaGreatDoorDnsRefPut2
import Derived.WalkKit
import Derived.ProofKit
import Derived.OpenShut
import Derived.ShutString
import Derived.ChangeOld
import Derived.SizedLaws
import Derived.Carry
import Derived.Deep.DeepHandedRow
import Derived.Lib.LaidTab
namespace Go.Proofs.YtdmooggmoihggaaGreatDoor
set_option maxRecDepth 100000
namespace dnses
open Go.ChangeShapes Go.WideShapes Go.ChangeAt Go.RowKit Go.Pin Go.PlainAid Go.ChangeMaps

/-- What Get answers, whether it tells a message or not. -/
def getV (s : ByteArray) : Msg × Int := match getM s with
  | some m => (m, 0)
  | none => (zeroM, 500)
theorem get_r (s : ByteArray) (w : World) (hs : s.size ≤ 1125899906842624) (hL : Laid w) :
    Calls Tryz.prog 7 #[.string s] w fun e w' => (∃ p, e = .returned (.tuple #[mv (getV s).1 p, .int .i64 (getV s).2]) ∧ Rows4 w' w.heap.size (getV s).1 p) ∧ Below w.heap.size w w' := by
  have := dGet_c s w hs hL
  unfold getV
  cases h : getM s with
  | some m => rw [h] at this; exact this
  | none => rw [h] at this; exact this.mono fun e w' ⟨h1, h2⟩ => ⟨⟨nilP, h1, ⟨World.ownsRow_nil _ _ _ _, World.ownsRow_nil _ _ _ _, World.ownsRow_nil _ _ _ _, World.ownsRow_nil _ _ _ _⟩⟩, h2⟩
theorem rget_r (s : ByteArray) (w : World) (hs : s.size ≤ 1125899906842624) :
    Calls Tryz.prog 8 #[.string s] w fun e w' => (∃ p, e = .returned (.tuple #[mv (getV s).1 p, .int .i64 (getV s).2]) ∧ MsgLies w' (getV s).1 p) ∧ Below w.heap.size w w' := by
  have := rGetDns_c s w hs
  unfold getV
  cases h : getM s with
  | some m => rw [h] at this; exact this
  | none => rw [h] at this; exact this.mono fun e w' ⟨h1, h2⟩ => ⟨⟨nilP, h1, ⟨.inl rfl, .inl rfl, .inl rfl, .inl rfl⟩⟩, h2⟩
theorem getV_len (s : ByteArray) : (getV s).1.qs.length ≤ 1000 ∧ (getV s).1.an.length ≤ 1000 ∧ (getV s).1.sv.length ≤ 1000 ∧ (getV s).1.ad.length ≤ 1000 := by
  unfold getV
  cases h : getM s with
  | none => simp [zeroM]
  | some m =>
    rw [(rfm_is s).2] at h
    split at h
    · cases h
    · rename_i hh
      simp only [Option.some.injEq] at h
      subst h
      have hm : mayM (rfM s) = true := by
        cases hm : mayM (rfM s) with
        | true => rfl
        | false => rw [hm] at hh; simp at hh
      rw [mayM_iff] at hm
      have h1 := hm.ql
      have h2 := hm.anl
      have h3 := hm.svl
      have h4 := hm.adl
      simp only
      omega

set_option maxRecDepth 100000 in
set_option maxHeartbeats 8000000 in
theorem walk (m : Msg) (P : Pl) (k : Int) (s : ByteArray) (w : World) (hl : MsgLies w m P) (hf : MsgFits m) (hk : MsgBulk m 1048576) (_wk : (Lit.int .i64 k).wf = true) (hs : s.size ≤ 1048576) (hL : Laid w) : Calls Tryz.prog 3 #[mv m P, .int .i64 k, .string s] w fun e w' => e = .returned (.bool true) ∧ Below w.heap.size w w' := by
  have HC : Hid (∀ w', Below w.heap.size w w' → _) := fun w' hb => copyDns_c m P w' (hl.below hb) hk.l
  have HP : Hid (∀ w' P1, MsgLies w' m P1 → Below w.heap.size w w' → _) := fun w' P1 h hb => dPut_c m P1 k w' hf h (hL.below hb)
  have HR : Hid (∀ w', Below w.heap.size w w' → _) := fun w' hb => rPutDns_c m P k w' hf hk (hl.below hb)
  have HG : Hid (∀ w', Below w.heap.size w w' → _) := fun w' hb => get_r s w' (by omega) (hL.below hb)
  have HD : Hid (∀ w', _) := fun w' => rget_r s w' (by omega)
  have HM : Hid (∀ w' P1, MsgLies w' m P1 → _) := fun w' P1 h => dMay_c m P1 w' hf h
  have HF : Hid (∀ w', Below w.heap.size w w' → _) := fun w' hb => rDMay_c m P w' hf hk (hl.below hb)
  obtain ⟨k1, k2, k3, k4⟩ := getV_len s
  have HSD : Hid (∀ w' p q, MsgLies w' (getV s).1 p → MsgLies w' (getV s).1 q → _) := fun w' p q h1 h2 => sameDns_c (getV s).1 p q w' (by omega) (by omega) (by omega) (by omega) h1 h2
  have HSX : Hid (∀ w' p, MsgLies w' m p → Below w.heap.size w w' → _) := fun w' p h1 h2 => sameDns_c m p P w' (by have := hk.l; omega) (by have := hk.l; omega) (by have := hk.l; omega) (by have := hk.l; omega) h1 (hl.below h2)
  have HSP : Hid (∀ w' p base, base ≤ w'.heap.size → Rows4 w' base (getV s).1 p → _) := fun w' p base hb h => spoilDns_c (getV s).1 p base w' hb (by omega) (by omega) (by omega) (by omega) h
  have HAW : Hid (∀ w', Below w.heap.size w w' → _) := fun w' hb => awake5_yes w' (hL.below hb)
  clear k1 k2 k3 k4 hf hk hs _wk hL
  generalize (getV s).1 = M at *
  generalize (getV s).2 = ge at *
  generalize (putM m k).1 = S at *
  generalize (putM m k).2 = pe at *
  generalize mayM m = may at *
  obtain ⟨w0, hw0⟩ : ∃ w0, w.alloc (.cells (cellsM m P) 25) = w0 := ⟨_, rfl⟩
  obtain ⟨b0, hb0⟩ : ∃ b0, w.heap.size = b0 := ⟨_, rfl⟩
  have X0 : Hid (BoxM w0 b0 m P) := by
    show BoxM _ _ _ _
    rw [← hw0, ← hb0]; exact BoxM.new w m P
  have B0 : Hid (Below w.heap.size w w0) := by
    show Below _ _ _
    rw [← hw0]; exact (Below.refl _ _).alloc (Nat.le_refl _) _
  have Hw0 : Hid (_ = w0) := hw0
  have Hb0 : Hid (w.heap.size = b0) := hb0
  clear hw0 hb0
  have hcell : Hid (∀ w' b m p, BoxM w' b m p → _) := fun w' b m p h => h.all
  obtain ⟨c0, c1, c2, c3, c4, c5, c6, c7, c8, c9, c10, c11⟩ := hcell.out _ _ _ _ X0.out
  simp only [mv, cellsM] at *
  go_enter Tryz.func3, Tryz.ntmps3
  go_upto_region 1 with fail
  rw [Hw0.out, Hb0.out]
  clear Hw0 hl
  go_wp2_with fail
  refine (HC.out _ B0.out).mono ?_; rintro e w1 ⟨⟨P1, rfl, hl1⟩, hb1⟩
  have B1 : Hid (Below w.heap.size w w1) := bel_trans B0.out hb1
  have X1 : Hid (BoxM w1 b0 m P) := X0.out.below hb1
  have L1 : Hid (MsgLies w1 m P1) := hl1
  clear hb1 hl1 B0 X0 c0 c1 c2 c3 c4 c5 c6 c7 c8 c9 c10 c11 HC
  obtain ⟨w2, hw2⟩ : ∃ w2, w1.alloc (.cells (cellsM m P1) 25) = w2 := ⟨_, rfl⟩
  obtain ⟨b1, hb1⟩ : ∃ b1, w1.heap.size = b1 := ⟨_, rfl⟩
  have hA : Below w1.heap.size w1 w2 := by rw [← hw2]; exact (Below.refl _ _).alloc (Nat.le_refl _) _
  have Y2 : Hid (BoxM w2 b1 m P1) := by
    show BoxM _ _ _ _
    rw [← hw2, ← hb1]; exact BoxM.new w1 m P1
  have X2 : Hid (BoxM w2 b0 m P) := X1.out.below hA
  have B2 : Hid (Below w.heap.size w w2) := bel_trans B1.out hA
  have L2 : Hid (MsgLies w2 m P1) := L1.out.below hA
  have Hw2 : Hid (_ = w2) := hw2
  have Hb1 : Hid (w1.heap.size = b1) := hb1
  clear hA hw2 hb1 B1 X1 L1
  obtain ⟨d0, d1, d2, d3, d4, d5, d6, d7, d8, d9, d10, d11⟩ := hcell.out _ _ _ _ Y2.out
  simp only [cellsM] at Hw2
  go_upto_region 2 with fail
  rw [Hw2.out, Hb1.out]
  clear Hw2 Hb1
  go_wp2_with fail
  refine (HP.out _ _ L2.out B2.out).mono ?_; rintro e w3 ⟨rfl, hb3⟩
  have B3 : Hid (Below w.heap.size w w3) := bel_trans B2.out hb3
  have X3 : Hid (BoxM w3 b0 m P) := X2.out.below hb3
  have Y3 : Hid (BoxM w3 b1 m P1) := Y2.out.below hb3
  have L3 : Hid (MsgLies w3 m P1) := L2.out.below hb3
  clear hb3 B2 X2 Y2 L2 d0 d1 d2 d3 d4 d5 d6 d7 d8 d9 d10 d11 HP
  obtain ⟨c0, c1, c2, c3, c4, c5, c6, c7, c8, c9, c10, c11⟩ := hcell.out _ _ _ _ X3.out
  go_wp2_with fail
  refine (HR.out _ B3.out).mono ?_; rintro e w4 ⟨rfl, hb4⟩
  have B4 : Hid (Below w.heap.size w w4) := bel_trans B3.out hb4
  have X4 : Hid (BoxM w4 b0 m P) := X3.out.below hb4
  have Y4 : Hid (BoxM w4 b1 m P1) := Y3.out.below hb4
  have L4 : Hid (MsgLies w4 m P1) := L3.out.below hb4
  clear hb4 B3 X3 Y3 L3 c0 c1 c2 c3 c4 c5 c6 c7 c8 c9 c10 c11 HR
  go_wp2_with fail
  refine (HG.out _ B4.out).mono ?_; rintro e w5 ⟨⟨Pc, rfl, hR5⟩, hb5⟩
  have C5 : Hid (Below w4.heap.size w4 w5) := hb5
  have R5 : Hid (Rows4 w5 w4.heap.size M Pc) := hR5
  clear hb5 hR5 HG
  obtain ⟨w6, hw6⟩ : ∃ w6, w5.alloc (.cells (cellsM M Pc) 25) = w6 := ⟨_, rfl⟩
  obtain ⟨b2, hb2⟩ : ∃ b2, w5.heap.size = b2 := ⟨_, rfl⟩
  have hA : Below w5.heap.size w5 w6 := by rw [← hw6]; exact (Below.refl _ _).alloc (Nat.le_refl _) _
  have Z6 : Hid (BoxM w6 b2 M Pc) := by
    show BoxM _ _ _ _
    rw [← hw6, ← hb2]; exact BoxM.new w5 M Pc
  have C6 : Hid (Below w4.heap.size w4 w6) := bel_trans C5.out hA
  have R6 : Hid (Rows4 w6 w4.heap.size M Pc) := R5.out.below hA
  have Hw6 : Hid (_ = w6) := hw6
  have Hb2 : Hid (w5.heap.size = b2) := hb2
  clear hA hw6 hb2 C5 R5
  simp only [cellsM] at Hw6
  go_upto_region 5 with fail
  rw [Hw6.out, Hb2.out]
  clear Hw6 Hb2
  go_wp2_with fail
  refine (HD.out _).mono ?_; rintro e w7 ⟨⟨Pd, rfl, hL7⟩, hb7⟩
  have C7 : Hid (Below w4.heap.size w4 w7) := bel_trans C6.out hb7
  have Z7 : Hid (BoxM w7 b2 M Pc) := Z6.out.below hb7
  have R7 : Hid (Rows4 w7 w4.heap.size M Pc) := R6.out.below hb7
  have L7 : Hid (MsgLies w7 M Pd) := hL7
  clear hb7 hL7 C6 Z6 R6 HD
  obtain ⟨w8, hw8⟩ : ∃ w8, w7.alloc (.cells (cellsM M Pd) 25) = w8 := ⟨_, rfl⟩
  obtain ⟨b3, hb3⟩ : ∃ b3, w7.heap.size = b3 := ⟨_, rfl⟩
  have hA : Below w7.heap.size w7 w8 := by rw [← hw8]; exact (Below.refl _ _).alloc (Nat.le_refl _) _
  have V8 : Hid (BoxM w8 b3 M Pd) := by
    show BoxM _ _ _ _
    rw [← hw8, ← hb3]; exact BoxM.new w7 M Pd
  have C8 : Hid (Below w4.heap.size w4 w8) := bel_trans C7.out hA
  have Z8 : Hid (BoxM w8 b2 M Pc) := Z7.out.below hA
  have R8 : Hid (Rows4 w8 w4.heap.size M Pc) := R7.out.below hA
  have L8 : Hid (MsgLies w8 M Pd) := L7.out.below hA
  have X8 : Hid (BoxM w8 b0 m P) := X4.out.below C8.out
  have Y8 : Hid (BoxM w8 b1 m P1) := Y4.out.below C8.out
  have M8 : Hid (MsgLies w8 m P1) := L4.out.below C8.out
  have B8 : Hid (Below w.heap.size w w8) := bel_trans B4.out C8.out
  have Hw8 : Hid (_ = w8) := hw8
  have Hb3 : Hid (w7.heap.size = b3) := hb3
  clear hA hw8 hb3 C7 Z7 R7 L7
  simp only [cellsM] at Hw8
  go_upto_region 6 with fail
  rw [Hw8.out, Hb3.out]
  clear Hw8 Hb3
  have HS : Hid (∀ w', Below w8.heap.size w8 w' → (w'.cell? ⟨b0, 0, none⟩ = some (.int .i64 m.id) ∧ w'.cell? ⟨b0, 1, none⟩ = some (.bool m.rsp) ∧ w'.cell? ⟨b0, 2, none⟩ = some (.int .i64 m.op) ∧ w'.cell? ⟨b0, 3, none⟩ = some (.bool m.au) ∧ w'.cell? ⟨b0, 4, none⟩ = some (.bool m.tr) ∧ w'.cell? ⟨b0, 5, none⟩ = some (.bool m.re) ∧ w'.cell? ⟨b0, 6, none⟩ = some (.int .i64 m.co) ∧ w'.cell? ⟨b0, 7, none⟩ = some (.slice P.qa m.qs.length P.qc) ∧ w'.cell? ⟨b0, 8, none⟩ = some (.slice P.aa m.an.length P.ac) ∧ w'.cell? ⟨b0, 9, none⟩ = some (.slice P.sa m.sv.length P.sc) ∧ w'.cell? ⟨b0, 10, none⟩ = some (.slice P.da m.ad.length P.dc) ∧ w'.cell? ⟨b0, 11, none⟩ = some (.int .i64 m.sz)) ∧ (w'.cell? ⟨b1, 0, none⟩ = some (.int .i64 m.id) ∧ w'.cell? ⟨b1, 1, none⟩ = some (.bool m.rsp) ∧ w'.cell? ⟨b1, 2, none⟩ = some (.int .i64 m.op) ∧ w'.cell? ⟨b1, 3, none⟩ = some (.bool m.au) ∧ w'.cell? ⟨b1, 4, none⟩ = some (.bool m.tr) ∧ w'.cell? ⟨b1, 5, none⟩ = some (.bool m.re) ∧ w'.cell? ⟨b1, 6, none⟩ = some (.int .i64 m.co) ∧ w'.cell? ⟨b1, 7, none⟩ = some (.slice P1.qa m.qs.length P1.qc) ∧ w'.cell? ⟨b1, 8, none⟩ = some (.slice P1.aa m.an.length P1.ac) ∧ w'.cell? ⟨b1, 9, none⟩ = some (.slice P1.sa m.sv.length P1.sc) ∧ w'.cell? ⟨b1, 10, none⟩ = some (.slice P1.da m.ad.length P1.dc) ∧ w'.cell? ⟨b1, 11, none⟩ = some (.int .i64 m.sz)) ∧ (w'.cell? ⟨b2, 0, none⟩ = some (.int .i64 M.id) ∧ w'.cell? ⟨b2, 1, none⟩ = some (.bool M.rsp) ∧ w'.cell? ⟨b2, 2, none⟩ = some (.int .i64 M.op) ∧ w'.cell? ⟨b2, 3, none⟩ = some (.bool M.au) ∧ w'.cell? ⟨b2, 4, none⟩ = some (.bool M.tr) ∧ w'.cell? ⟨b2, 5, none⟩ = some (.bool M.re) ∧ w'.cell? ⟨b2, 6, none⟩ = some (.int .i64 M.co) ∧ w'.cell? ⟨b2, 7, none⟩ = some (.slice Pc.qa M.qs.length Pc.qc) ∧ w'.cell? ⟨b2, 8, none⟩ = some (.slice Pc.aa M.an.length Pc.ac) ∧ w'.cell? ⟨b2, 9, none⟩ = some (.slice Pc.sa M.sv.length Pc.sc) ∧ w'.cell? ⟨b2, 10, none⟩ = some (.slice Pc.da M.ad.length Pc.dc) ∧ w'.cell? ⟨b2, 11, none⟩ = some (.int .i64 M.sz)) ∧ (w'.cell? ⟨b3, 0, none⟩ = some (.int .i64 M.id) ∧ w'.cell? ⟨b3, 1, none⟩ = some (.bool M.rsp) ∧ w'.cell? ⟨b3, 2, none⟩ = some (.int .i64 M.op) ∧ w'.cell? ⟨b3, 3, none⟩ = some (.bool M.au) ∧ w'.cell? ⟨b3, 4, none⟩ = some (.bool M.tr) ∧ w'.cell? ⟨b3, 5, none⟩ = some (.bool M.re) ∧ w'.cell? ⟨b3, 6, none⟩ = some (.int .i64 M.co) ∧ w'.cell? ⟨b3, 7, none⟩ = some (.slice Pd.qa M.qs.length Pd.qc) ∧ w'.cell? ⟨b3, 8, none⟩ = some (.slice Pd.aa M.an.length Pd.ac) ∧ w'.cell? ⟨b3, 9, none⟩ = some (.slice Pd.sa M.sv.length Pd.sc) ∧ w'.cell? ⟨b3, 10, none⟩ = some (.slice Pd.da M.ad.length Pd.dc) ∧ w'.cell? ⟨b3, 11, none⟩ = some (.int .i64 M.sz)) ∧ Below w8.heap.size w8 w') := fun w' hb => ⟨(X8.out.below hb).all, (Y8.out.below hb).all, (Z8.out.below hb).all, (V8.out.below hb).all, hb⟩
  have HSK : Hid (∀ w', Below w8.heap.size w8 w' → _) := fun w' hb => HSD.out w' Pc Pd (R8.out.below hb).lies (L8.out.below hb)
  have HMK : Hid (∀ w', Below w8.heap.size w8 w' → _) := fun w' hb => HM.out w' P1 (M8.out.below hb)
  have HFK : Hid (∀ w', Below w8.heap.size w8 w' → _) := fun w' hb => HF.out w' (bel_trans B8.out hb)
  clear HM HF HSD
  go_region_held3 (fun w' => (w'.cell? ⟨b0, 0, none⟩ = some (.int .i64 m.id) ∧ w'.cell? ⟨b0, 1, none⟩ = some (.bool m.rsp) ∧ w'.cell? ⟨b0, 2, none⟩ = some (.int .i64 m.op) ∧ w'.cell? ⟨b0, 3, none⟩ = some (.bool m.au) ∧ w'.cell? ⟨b0, 4, none⟩ = some (.bool m.tr) ∧ w'.cell? ⟨b0, 5, none⟩ = some (.bool m.re) ∧ w'.cell? ⟨b0, 6, none⟩ = some (.int .i64 m.co) ∧ w'.cell? ⟨b0, 7, none⟩ = some (.slice P.qa m.qs.length P.qc) ∧ w'.cell? ⟨b0, 8, none⟩ = some (.slice P.aa m.an.length P.ac) ∧ w'.cell? ⟨b0, 9, none⟩ = some (.slice P.sa m.sv.length P.sc) ∧ w'.cell? ⟨b0, 10, none⟩ = some (.slice P.da m.ad.length P.dc) ∧ w'.cell? ⟨b0, 11, none⟩ = some (.int .i64 m.sz)) ∧ (w'.cell? ⟨b1, 0, none⟩ = some (.int .i64 m.id) ∧ w'.cell? ⟨b1, 1, none⟩ = some (.bool m.rsp) ∧ w'.cell? ⟨b1, 2, none⟩ = some (.int .i64 m.op) ∧ w'.cell? ⟨b1, 3, none⟩ = some (.bool m.au) ∧ w'.cell? ⟨b1, 4, none⟩ = some (.bool m.tr) ∧ w'.cell? ⟨b1, 5, none⟩ = some (.bool m.re) ∧ w'.cell? ⟨b1, 6, none⟩ = some (.int .i64 m.co) ∧ w'.cell? ⟨b1, 7, none⟩ = some (.slice P1.qa m.qs.length P1.qc) ∧ w'.cell? ⟨b1, 8, none⟩ = some (.slice P1.aa m.an.length P1.ac) ∧ w'.cell? ⟨b1, 9, none⟩ = some (.slice P1.sa m.sv.length P1.sc) ∧ w'.cell? ⟨b1, 10, none⟩ = some (.slice P1.da m.ad.length P1.dc) ∧ w'.cell? ⟨b1, 11, none⟩ = some (.int .i64 m.sz)) ∧ (w'.cell? ⟨b2, 0, none⟩ = some (.int .i64 M.id) ∧ w'.cell? ⟨b2, 1, none⟩ = some (.bool M.rsp) ∧ w'.cell? ⟨b2, 2, none⟩ = some (.int .i64 M.op) ∧ w'.cell? ⟨b2, 3, none⟩ = some (.bool M.au) ∧ w'.cell? ⟨b2, 4, none⟩ = some (.bool M.tr) ∧ w'.cell? ⟨b2, 5, none⟩ = some (.bool M.re) ∧ w'.cell? ⟨b2, 6, none⟩ = some (.int .i64 M.co) ∧ w'.cell? ⟨b2, 7, none⟩ = some (.slice Pc.qa M.qs.length Pc.qc) ∧ w'.cell? ⟨b2, 8, none⟩ = some (.slice Pc.aa M.an.length Pc.ac) ∧ w'.cell? ⟨b2, 9, none⟩ = some (.slice Pc.sa M.sv.length Pc.sc) ∧ w'.cell? ⟨b2, 10, none⟩ = some (.slice Pc.da M.ad.length Pc.dc) ∧ w'.cell? ⟨b2, 11, none⟩ = some (.int .i64 M.sz)) ∧ (w'.cell? ⟨b3, 0, none⟩ = some (.int .i64 M.id) ∧ w'.cell? ⟨b3, 1, none⟩ = some (.bool M.rsp) ∧ w'.cell? ⟨b3, 2, none⟩ = some (.int .i64 M.op) ∧ w'.cell? ⟨b3, 3, none⟩ = some (.bool M.au) ∧ w'.cell? ⟨b3, 4, none⟩ = some (.bool M.tr) ∧ w'.cell? ⟨b3, 5, none⟩ = some (.bool M.re) ∧ w'.cell? ⟨b3, 6, none⟩ = some (.int .i64 M.co) ∧ w'.cell? ⟨b3, 7, none⟩ = some (.slice Pd.qa M.qs.length Pd.qc) ∧ w'.cell? ⟨b3, 8, none⟩ = some (.slice Pd.aa M.an.length Pd.ac) ∧ w'.cell? ⟨b3, 9, none⟩ = some (.slice Pd.sa M.sv.length Pd.sc) ∧ w'.cell? ⟨b3, 10, none⟩ = some (.slice Pd.da M.ad.length Pd.dc) ∧ w'.cell? ⟨b3, 11, none⟩ = some (.int .i64 M.sz)) ∧ Below w8.heap.size w8 w')
    (first | exact HS.out _ (below_drewN (Below.refl w8.heap.size _) 1) | exact HS.out _ sB)
    (first
      | (go_at_call 9; have sB := (‹_ ∧ _ ∧ _ ∧ _ ∧ Below w8.heap.size w8 _›).2.2.2.2; refine (num_any _ _).mono ?_; rintro e wN ⟨rfl, rfl⟩)
      | (go_at_call 10; have tB := (‹_ ∧ _ ∧ _ ∧ _ ∧ Below w8.heap.size w8 _›).2.2.2.2; refine (HSK.out _ tB).mono ?_; rintro e wN ⟨rfl, hbN⟩; have sB := bel_trans tB hbN; clear tB hbN)
      | (go_at_call 11; have tB := (‹_ ∧ _ ∧ _ ∧ _ ∧ Below w8.heap.size w8 _›).2.2.2.2; refine (HMK.out _ tB).mono ?_; rintro e wN ⟨rfl, hbN⟩; have sB := bel_trans tB hbN; clear tB hbN)
      | (go_at_call 12; have tB := (‹_ ∧ _ ∧ _ ∧ _ ∧ Below w8.heap.size w8 _›).2.2.2.2; refine (HFK.out _ tB).mono ?_; rintro e wN ⟨rfl, hbN⟩; have sB := bel_trans tB hbN; clear tB hbN))
  have sF := (‹_ ∧ _ ∧ _ ∧ _ ∧ Below w8.heap.size w8 _›).2.2.2.2
  have C9 : Hid (Below w4.heap.size w4 wN) := bel_trans C8.out sF
  have R9 : Hid (Rows4 wN w4.heap.size M Pc) := R8.out.below sF
  have Z9 : Hid (BoxM wN b2 M Pc) := Z8.out.below sF
  clear sF HS HSK HMK HFK R8 Z8 V8 L8 X8 Y8 M8 B8 C8
  obtain ⟨c0, c1, c2, c3, c4, c5, c6, c7, c8, c9, c10, c11⟩ := hcell.out _ _ _ _ Z9.out
  go_wp2_with fail
  refine (HSP.out _ Pc w4.heap.size C9.out.size R9.out).mono ?_; rintro e wa ⟨rfl, hba⟩
  have CA : Hid (Below w4.heap.size w4 wa) := C9.out.trans hba
  have XA : Hid (BoxM wa b0 m P) := X4.out.below CA.out
  have YA : Hid (BoxM wa b1 m P1) := Y4.out.below CA.out
  have LA : Hid (MsgLies wa m P1) := L4.out.below CA.out
  have BA : Hid (Below w.heap.size w wa) := bel_trans B4.out CA.out
  clear hba C9 R9 Z9 c0 c1 c2 c3 c4 c5 c6 c7 c8 c9 c10 c11 X4 Y4 L4 B4 HSP
  obtain ⟨c0, c1, c2, c3, c4, c5, c6, c7, c8, c9, c10, c11⟩ := hcell.out _ _ _ _ XA.out
  obtain ⟨d0, d1, d2, d3, d4, d5, d6, d7, d8, d9, d10, d11⟩ := hcell.out _ _ _ _ YA.out
  go_wp2_with fail
  refine (HSX.out _ P1 LA.out BA.out).mono ?_; rintro e wb ⟨rfl, hbb⟩
  have BB : Hid (Below w.heap.size w wb) := bel_trans BA.out hbb
  clear hbb CA XA YA LA BA c0 c1 c2 c3 c4 c5 c6 c7 c8 c9 c10 c11 d0 d1 d2 d3 d4 d5 d6 d7 d8 d9 d10 d11 HSX
  go_wp2_with fail
  refine (HAW.out _ BB.out).mono ?_; rintro e wc ⟨rfl, hbc⟩
  have BC : Hid (Below w.heap.size w wc) := bel_trans BB.out hbc
  clear hbc BB HAW
  go_wp2
  go_ret
  exact ⟨rfl, BC.out⟩

theorem own : ownKnob Tryz.prog.godebug = none := by kernel_rfl
theorem laidOut : laidOutB Tryz.prog = true := by kernel_rfl
theorem gTab : Tryz.prog.globalNamed "pinfold/rr.soaTimes" = some 0 := by kernel_rfl
theorem gTabType : (Tryz.prog.globals[0]?).map (·.type) = some 113 := by kernel_rfl
theorem cellsTab : Tryz.prog.cellsOf 113 = 4 := by kernel_rfl
theorem cellsInt : Tryz.prog.cellsOf 3 = 1 := by kernel_rfl
/-- What the row's list gives. -/
theorem table {W : World} (h : laidMetH Tryz.prog Rows.dnsesUptoRow.laid W) : Laid W := by
  have t : Lib.TabIs Tryz.prog W "pinfold/rr.soaTimes" .i64 [60, 60, 600, 60] := Lib.tabIs_of_head (rest := []) gTab gTabType Tryz.underlying113 Tryz.underlying3 cellsInt cellsTab h
  exact ⟨t.cell gTab 0 (by decide), t.cell gTab 1 (by decide), t.cell gTab 2 (by decide), t.cell gTab 3 (by decide)⟩
/-- A world for the witness: the table holds what its initialiser lays. -/
noncomputable def laidWorld (os : Os) : World :=
  { World.holding Tryz.prog os ⟨#[], #[], []⟩ with heap := (World.holding Tryz.prog os ⟨#[], #[], []⟩).heap.modify 0 fun
      | .cells _ t frozen => .cells #[.int .i64 60, .int .i64 60, .int .i64 600, .int .i64 60] t frozen
      | o => o }
theorem laid_met (os : Os) : laidMet Tryz.prog Rows.dnsesUptoRow.laid ((laidWorld os).forCall (fun _ _ => 0) ⟨#[], #[.agg #[.int .i64 0, .bool false, .int .i64 0, .bool false, .bool false, .bool false, .int .i64 0, .slice none 0 0, .slice none 0 0, .slice none 0 0, .slice none 0 0, .int .i64 0], .int .i64 0, .string ByteArray.empty], []⟩).memory :=
  laidMet_of_run' 8 (by kernel_rfl) (by kernel_rfl)
theorem reads (os : Os) {H : Type} (enc : TypeId × Value → H) : ∃ places, DataW.whole enc Tryz.prog ((laidWorld os).forCall (fun _ _ => 0) ⟨#[], #[.agg #[.int .i64 0, .bool false, .int .i64 0, .bool false, .bool false, .bool false, .int .i64 0, .slice none 0 0, .slice none 0 0, .slice none 0 0, .slice none 0 0, .int .i64 0], .int .i64 0, .string ByteArray.empty], []⟩).memory Tryz.f3.params.toList Rows.dnsesSpec.vars false (#[.agg #[.int .i64 0, .bool false, .int .i64 0, .bool false, .bool false, .bool false, .int .i64 0, .slice none 0 0, .slice none 0 0, .slice none 0 0, .slice none 0 0, .int .i64 0], .int .i64 0, .string ByteArray.empty] : Array Value).toList 8 = some ([.agg [.lit (.int .i64 0), .lit (.bool false), .lit (.int .i64 0), .lit (.bool false), .lit (.bool false), .lit (.bool false), .lit (.int .i64 0), .nil, .nil, .nil, .nil, .lit (.int .i64 0)], .lit (.int .i64 0), .lit (.string [])], [], places) :=
  ⟨[], by kernel_rfl⟩

/-! ### The row's step -/
set_option maxRecDepth 100000 in
theorem lifted (os : Os) (started : os.Started) (H : Type) (enc : TypeId × Value → H) (F : Stop.Interp) :
    ReturnsInHanded {} Tryz.checked os 3 .any ((Rows.OpenSpec.upto Rows.dnsesSpec).preRow enc Tryz.prog Tryz.f3 Rows.dnsesUptoRow.domain false Rows.dnsesUptoRow.laid) (((Rows.OpenSpec.upto Rows.dnsesSpec).at F).post enc Tryz.prog Tryz.f3 false true false false) := by
  obtain ⟨places, hx⟩ := reads os enc
  refine returnsInHanded_of_row (C := Tryz.checked) (s := Rows.OpenSpec.upto Rows.dnsesSpec) own started (by kernel_rfl) Tryz.func3
    (witness_row_at (enc := enc) (C := Tryz.checked) false (laidWorld os) #[.agg #[.int .i64 0, .bool false, .int .i64 0, .bool false, .bool false, .bool false, .int .i64 0, .slice none 0 0, .slice none 0 0, .slice none 0 0, .slice none 0 0, .int .i64 0], .int .i64 0, .string ByteArray.empty] rfl (by kernel_rfl) (by kernel_rfl) (by kernel_rfl)
      (OpenSpec.preRow_of_cond 8 hx (by kernel_rfl) (fun k hk => by cases hk; kernel_rfl) (by kernel_rfl) (laid_met os))) ?_
  intro W base args ds gs before hval0 hW _ hcond hsz0 hL _ _
  have hLaid := table hL
  have hval : ∀ (j : Nat) t v, Tryz.f3.params[j]? = some t → args[j]? = some v → Value.okWide Tryz.prog W .any base t v := hval0
  have hsz : (DataW.weightsEach Tryz.prog (Tryz.f3.params.toList ++ Rows.dnsesSpec.plain.varTypes Tryz.prog) (ds ++ gs)).all (· ≤ reachBytes) = true := hsz0
  have hW' := hW
  obtain ⟨p, q, hA0, hV, rfl, _, _⟩ := hW
  have hA : DataW.TrodAll enc Tryz.prog W 0 (fun _ => true) true Tryz.f3.params.toList args.toList ds p := hA0
  rw [Tryz.params3] at hA hval hsz
  obtain ⟨v0, vs0, d0, ds0, p0, q0, hargs, rfl, rfl, h0, r0⟩ := trodAll_cons hA
  obtain ⟨v1, vs1, d1, ds1, p1, q1, rfl, rfl, rfl, h1, r1⟩ := trodAll_cons r0
  obtain ⟨v2, vs2, d2, ds2, p2, q2, rfl, rfl, rfl, h2, r2⟩ := trodAll_cons r1
  obtain ⟨rfl, rfl, rfl⟩ := trodAll_nil r2
  obtain rfl : args = #[v0, v1, v2] := by cases args; simp_all
  obtain ⟨rfl, rfl⟩ := trodVars_none hV
  have hb := of_decide_eq_true (hcond _ rfl)
  simp only [List.append_nil, Rows.uptoBulkAll] at hb
  have k0 := h0
  have lt0 : ∀ x ∈ p0, x.block < W.heap.size := by obtain ⟨m, hm⟩ := k0; exact DataW.trod_lt m _ _ _ hm
  obtain ⟨a0, P0, rfl, w0, f0, u0⟩ := open_msg (hval 0 25 v0 rfl rfl) h0
  have b0 : Rows.uptoBulk d0 ≤ 1048576 := by omega
  obtain ⟨a1, rfl, rfl, rfl, w1⟩ := open_int Tryz.underlying3 (hval 1 3 v1 rfl rfl) h1
  obtain ⟨a2, rfl, rfl, rfl, w2⟩ := open_string Tryz.underlying9 (hval 2 9 v2 rfl rfl) h2
  have l2 : a2.data.toList.length = a2.size := Array.length_toList
  simp only [Rows.uptoBulk] at hb
  have s2 : a2.size ≤ 1048576 := by omega
  clear hb
  clear hA0 hval0 hsz0 hcond
  refine (walk a0 P0 a1 a2 W w0 f0 (u0.mono b0) w1 s2 hLaid).mono fun e W' ⟨he, bel⟩ => ?_
  subst he
  exact ⟨_, rfl, _, _, _, [], _, [], hW', trodAll_mk1 (shut_bool Tryz.underlying4 _), (trodAll_cons_mk (Below.trod laidOut (by kernel_rfl) (of_decide_eq_true (by kernel_rfl)) k0 bel lt0) (trodAll_cons_mk (shut_int Tryz.underlying3 w1) (trodAll_cons_mk (shut_string Tryz.underlying9 w2) trodAll_mk0))), rfl, bel.frame _, fun h => by cases h⟩

theorem said : Rows.DnsesUptoSaid :=
  OpenClaim.holds_of_cond 3 Tryz.f3 rfl rfl rfl rfl rfl rfl rfl ⟨rfl, rfl, rfl, rfl, rfl⟩ rfl rfl rfl rfl rfl (by kernel_rfl) Tryz.func3 (by kernel_rfl)
    (of_decide_eq_true (by kernel_rfl)) (by unfold Func.isWrapper; first | (rw [if_pos (by decide +kernel)]; kernel_rfl) | (rw [if_neg (by decide +kernel)]; exact ⟨rfl, rfl⟩))
    (fun os started H enc _ F => by rw [OpenClaim.pre_eq_preRow]; exact lifted os started H enc F)
/-- No parameter wants a stand-in. -/
theorem plain (f : FuncId) (fn : Func) (hf : Tryz.pinned.checked.prog.funcNamed "pinfold/pinfoldlaw5.Dnses" = some f) (hfn : Tryz.pinned.checked.prog.funcs[f]? = some fn) :
    false = Tryz.pinned.checked.prog.looks [] ∧ ∀ (j : Nat) t, fn.params[j]? = some t → Tryz.pinned.checked.prog.wantsStandIn t = false := by
  obtain rfl : f = 3 := Option.some.inj ((show Tryz.prog.funcNamed "pinfold/pinfoldlaw5.Dnses" = some 3 by kernel_rfl).symm.trans hf) |>.symm
  obtain rfl : fn = Tryz.f3 := (Option.some.inj (Tryz.func3.symm.trans hfn)).symm
  refine ⟨by kernel_rfl, fun j t ht => ?_⟩
  rw [Tryz.params3] at ht
  have hm := Array.mem_of_getElem? ht
  simp at hm
  repeat' (refine Or.elim hm (fun hm => ?_) (fun hm => ?_))
  all_goals (subst hm; exact (show Tryz.prog.wantsStandIn _ = false by kernel_rfl))
/-- The given statement. -/
theorem card : Rows.DnsesUptoCardSaid :=
  Claim7.holds_tied_plain_at .later [] _ _ _ _ said (fun _ h => by cases h) (by kernel_rfl) (fun _ h => by cases h) dnsesUpto_row_tie rfl ⟨rfl, rfl⟩ (by kernel_rfl) rfl plain (by kernel_rfl)

end dnses
theorem dnses_proved : Rows.DnsesUptoCardSaid := dnses.card
#print axioms dnses_proved
end Go.Proofs.YtdmooggmoihggaaGreatDoor
