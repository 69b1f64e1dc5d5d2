/-
  pinfoldlaw7.Packets, at every packet and text: it returns true; what came in reads as it did. No condition.
-/
import Derived.Test.YtegoaaamlfehpaaAwake7
import Derived.Test.YtegoaaamlfehpaaPackOpen
import Derived.Test.YtegoaaamlfehpaaPackSame
import Derived.Test.YtegoaaamlfehpaaPackCopy
import Derived.Test.YtegoaaamlfehpaaPackRef3
import Derived.Test.YtegoaaamlfehpaaPackRefGet
import Derived.WalkKit
import Derived.ProofKit
import Derived.OpenShut
import Derived.ShutString
import Derived.ChangeOld
import Derived.SizedLaws
import Derived.Carry
namespace Go.Proofs.Ytegoaaamlfehpaa
namespace packetsAll
open Go.ChangeShapes Go.WideShapes Go.ChangeAt Go.RowKit Go.Pin Go.PlainAid Go.ChangeMaps

theorem fin_may {os x : List Opn} (h : fin os = some x) : MayO x := by
  unfold fin at h
  cases hm : mayO os with
  | false => rw [hm] at h; cases h
  | true =>
    rw [hm] at h
    simp only [if_true, Option.some.injEq] at h
    subst h
    simpa [mayO] using hm
theorem opts_may {r boot file : List UInt8} {os : List Opn} (h : optsP r boot file = some os) : MayO os := by
  cases hg : getO r [] with
  | none => rw [optsP_no hg] at h; cases h
  | some a =>
    by_cases h1 : ovr a = [1]
    · rw [optsP_1 hg h1] at h
      cases hf : getO file [] with
      | none => rw [hf] at h; cases h
      | some b => rw [hf] at h; exact fin_may h
    · by_cases h2 : ovr a = [2]
      · rw [optsP_2 hg h2] at h
        cases hf : getO boot [] with
        | none => rw [hf] at h; cases h
        | some b => rw [hf] at h; exact fin_may h
      · by_cases h3 : ovr a = [3]
        · rw [optsP_3 hg h3] at h
          cases hf : getO file [] with
          | none => rw [hf] at h; cases h
          | some b =>
            rw [hf] at h
            cases hb : getO boot [] with
            | none => rw [hb] at h; cases h
            | some c => rw [hb] at h; exact fin_may h
        · rw [optsP_0 hg h1 h2 h3] at h
          cases h
          exact getO_may hg
/-- What Get answers. -/
def gp (s : ByteArray) : Pk := (getP s).getD zeroP
def ge (s : ByteArray) : Int := if (getP s).isSome then 0 else 700
theorem gp_len (s : ByteArray) : (gp s).os.length ≤ 32 := by
  unfold gp
  cases hg : getP s with
  | none => exact Nat.zero_le _
  | some p =>
    unfold getP at hg
    split at hg
    · split at hg
      · cases hg
      · rename_i os ho
        simp only [Option.some.injEq] at hg
        subst hg
        exact (opts_may ho).1
    · cases hg
theorem pGet_r (s : ByteArray) (w : World) (hs : s.size ≤ 281474976710656) :
    Calls Try.prog 13 #[.string s] w fun e w' => (∃ a c, e = .returned (.tuple #[pv (gp s) a c, .int .i64 (ge s)]) ∧ Opts w' w.heap.size (.slice a (gp s).os.length c) (gp s).os) ∧ Below w.heap.size w w' := by
  have := pGet_c s w hs
  unfold gp ge
  cases hg : getP s with
  | none => rw [hg] at this; exact this.mono fun e w' ⟨h1, h2⟩ => ⟨⟨none, 0, h1, World.ownsRow_nil _ _ _ _⟩, h2⟩
  | some p => rw [hg] at this; exact this
theorem rpGet_r (s : ByteArray) (w : World) (hs : s.size ≤ 140737488351232) :
    Calls Try.prog 14 #[.string s] w fun e w' => (∃ a c, e = .returned (.tuple #[pv (gp s) a c, .int .i64 (ge s)]) ∧ OpLies w' a (gp s).os) ∧ Below w.heap.size w w' := by
  have := rpGet_c s w hs
  unfold gp ge
  cases hg : getP s with
  | none => rw [hg] at this; exact this.mono fun e w' ⟨h1, h2⟩ => ⟨⟨none, 0, h1, .inl rfl⟩, h2⟩
  | some p => rw [hg] at this; exact this
set_option maxRecDepth 100000 in
set_option maxHeartbeats 4000000 in
theorem walk (p : Pk) (a : Option Addr) (c : Nat) (s : ByteArray) (w : World) (hL : OpLies w a p.os) (hch : p.ch.size ≤ maxLen) (_ho : ∀ o ∈ p.os, o.2.length ≤ maxLen) (hl : p.os.length * 24 ≤ 140737488351232) (hs : s.size ≤ 140737488351232) : Calls Try.prog 4 #[pv p a c, .string s] w fun e w' => e = .returned (.bool true) ∧ Below w.heap.size w w' := by
  have hl2 : p.os.length ≤ 10000000000000 := by omega
  have HCP : Hid (∀ w', Below w.heap.size w w' → _) := fun w' hb => copyPk_c p a c w' hl (hL.below hb)
  have HP : Hid (∀ (a2 : Option Addr) (c2 : Nat) (w' : World), OpLies w' a2 p.os → _) := fun a2 c2 w' h => pPut_c p a2 c2 w' h hch
  have HR : Hid (∀ w', Below w.heap.size w w' → _) := fun w' hb => rpPut_c p a c w' (hL.below hb) hl2 hch
  have HG : Hid (∀ w, _) := fun w => pGet_r s w (by omega)
  have HH : Hid (∀ w, _) := fun w => rpGet_r s w hs
  have HM : Hid (∀ (a2 : Option Addr) (c2 : Nat) (w' : World), OpLies w' a2 p.os → _) := fun a2 c2 w' h => pMay_c p a2 c2 w' h hch
  have HN : Hid (∀ w', Below w.heap.size w w' → _) := fun w' hb => rpMay_c p a c w' (hL.below hb) hl2 hch
  have HLB : Hid (∀ w', Below w.heap.size w w' → OpLies w' a p.os) := fun w' hb => hL.below hb
  have HG32 : Hid ((gp s).os.length ≤ 32) := gp_len s
  generalize (putP p).1 = PA at *
  generalize (putP p).2 = PE at *
  generalize mk PA = PS at *
  generalize mayP p = PM at *
  generalize gp s = g at *
  generalize ge s = GE at *
  have BX : Hid (BoxP (w.alloc (.cells (cellsP p a c) 40)) w.heap.size p a c) := BoxP.new w p a c
  have B0 : Hid (Below w.heap.size w (w.alloc (.cells (cellsP p a c) 40))) := (Below.refl w.heap.size w).alloc (Nat.le_refl _) _
  have hcell : Hid (∀ (w' : World) (b : Nat) (q : Pk) (a : Option Addr) (c : Nat), BoxP w' b q a c → _) := fun w' b q a c h => h.all
  clear hL hch _ho hs
  simp only [pv, cellsP] at *
  go_enter Try.func4, Try.ntmps4
  obtain ⟨w0, hw0⟩ : ∃ w0, w.alloc (.cells #[.int .i64 p.op, .int .i64 p.ht, .int .i64 p.ho, .int .i64 p.xid, .int .i64 p.sc, .int .i64 p.fl, .int .i64 p.ci, .int .i64 p.yi, .int .i64 p.si, .int .i64 p.gi, .string p.ch, .slice a p.os.length c] 40) = w0 := ⟨_, rfl⟩
  rw [hw0] at BX B0
  obtain ⟨c0, c1, c2, c3, c4, c5, c6, c7, c8, c9, c10, c11⟩ := hcell.out _ _ _ _ _ BX.out
  go_wp2_with fail
  refine (HCP.out _ B0.out).mono ?_; rintro e w1 ⟨⟨a1, n1, rfl, hO1⟩, hb⟩
  have X1 : Hid (BoxP w1 w.heap.size p a c) := BX.out.below hb
  have B1 : Hid (Below w.heap.size w w1) := bel_trans B0.out hb
  have L1 : Hid (OpLies w1 a1 p.os) := by
    obtain ⟨a', c', e, h⟩ := hO1.lies
    simp only [Value.slice.injEq] at e
    show OpLies _ _ _
    rw [e.1]; exact h
  have HA : Hid (∀ x, a1 = some x → x.block ≤ w1.heap.size) := fun x hx => by
    rcases hO1.2 with ⟨h, _⟩ | ⟨g, cap, cur, hv, hg, hh, _⟩
    · simp only [Value.slice.injEq] at h; rw [hx] at h; cases h.1
    · simp only [Value.slice.injEq] at hv; rw [hx] at hv; cases hv.1; exact Nat.le_of_lt (Array.getElem?_eq_some_iff.1 hh).1
  clear hb hO1 BX B0 hw0 c0 c1 c2 c3 c4 c5 c6 c7 c8 c9 c10 c11 HCP
  obtain ⟨w2, hw2⟩ : ∃ w2, w1.alloc (.cells #[.int .i64 p.op, .int .i64 p.ht, .int .i64 p.ho, .int .i64 p.xid, .int .i64 p.sc, .int .i64 p.fl, .int .i64 p.ci, .int .i64 p.yi, .int .i64 p.si, .int .i64 p.gi, .string p.ch, .slice a1 p.os.length n1] 40) = w2 := ⟨_, rfl⟩
  have hb2 : Below w1.heap.size w1 w2 := by rw [← hw2]; exact (Below.refl _ _).alloc (Nat.le_refl _) _
  have X2 : Hid (BoxP w2 w.heap.size p a c) := X1.out.below hb2
  have Y2 : Hid (BoxP w2 w1.heap.size p a1 n1) := by
    show BoxP _ _ _ _ _
    rw [← hw2]; exact BoxP.new w1 p a1 n1
  have L2 : Hid (OpLies w2 a1 p.os) := L1.out.below hb2
  have B2 : Hid (Below w.heap.size w w2) := bel_trans B1.out hb2
  obtain ⟨d0, d1, d2, d3, d4, d5, d6, d7, d8, d9, d10, d11⟩ := hcell.out _ _ _ _ _ Y2.out
  clear hb2 X1 B1 L1
  go_wp2_with fail
  generalize w1.heap.size = bx at *
  refine (HP.out _ _ _ L2.out).mono ?_; rintro e w3 ⟨rfl, hb⟩
  have X3 : Hid (BoxP w3 w.heap.size p a c) := X2.out.below hb
  have Y3 : Hid (BoxP w3 bx p a1 n1) := Y2.out.below hb
  have L3 : Hid (OpLies w3 a1 p.os) := L2.out.below hb
  have B3 : Hid (Below w.heap.size w w3) := bel_trans B2.out hb
  clear hb X2 Y2 L2 B2 hw2 d0 d1 d2 d3 d4 d5 d6 d7 d8 d9 d10 d11 HP
  obtain ⟨c0, c1, c2, c3, c4, c5, c6, c7, c8, c9, c10, c11⟩ := hcell.out _ _ _ _ _ X3.out
  go_wp2_with fail
  refine (HR.out _ B3.out).mono ?_; rintro e w4 ⟨rfl, hb⟩
  have X4 : Hid (BoxP w4 w.heap.size p a c) := X3.out.below hb
  have Y4 : Hid (BoxP w4 bx p a1 n1) := Y3.out.below hb
  have L4 : Hid (OpLies w4 a1 p.os) := L3.out.below hb
  have B4 : Hid (Below w.heap.size w w4) := bel_trans B3.out hb
  clear hb X3 Y3 L3 B3 c0 c1 c2 c3 c4 c5 c6 c7 c8 c9 c10 c11 HR
  go_wp2_with fail
  refine (HG.out _).mono ?_; rintro e w5 ⟨⟨a5, n5, rfl, hO5⟩, hb⟩
  have X5 : Hid (BoxP w5 w.heap.size p a c) := X4.out.below hb
  have Y5 : Hid (BoxP w5 bx p a1 n1) := Y4.out.below hb
  have L5 : Hid (OpLies w5 a1 p.os) := L4.out.below hb
  have B5 : Hid (Below w.heap.size w w5) := bel_trans B4.out hb
  have SX : Hid (bx < w4.heap.size) := Y4.out.lt
  have SW : Hid (w.heap.size < w4.heap.size) := X4.out.lt
  have SZ5 : Hid (w4.heap.size ≤ w5.heap.size) := hb.size
  have O5 : Hid (Opts w5 w4.heap.size (.slice a5 g.os.length n5) g.os) := hO5
  clear hb X4 Y4 L4 B4 HG hO5
  obtain ⟨w6, hw6⟩ : ∃ w6, w5.alloc (.cells #[.int .i64 g.op, .int .i64 g.ht, .int .i64 g.ho, .int .i64 g.xid, .int .i64 g.sc, .int .i64 g.fl, .int .i64 g.ci, .int .i64 g.yi, .int .i64 g.si, .int .i64 g.gi, .string g.ch, .slice a5 g.os.length n5] 40) = w6 := ⟨_, rfl⟩
  have hb6 : Below w5.heap.size w5 w6 := by rw [← hw6]; exact (Below.refl _ _).alloc (Nat.le_refl _) _
  have X6 : Hid (BoxP w6 w.heap.size p a c) := X5.out.below hb6
  have Y6 : Hid (BoxP w6 bx p a1 n1) := Y5.out.below hb6
  have Z6 : Hid (BoxP w6 w5.heap.size g a5 n5) := by
    show BoxP _ _ _ _ _
    rw [← hw6]; exact BoxP.new w5 g a5 n5
  have L6 : Hid (OpLies w6 a1 p.os) := L5.out.below hb6
  have O6 : Hid (Opts w6 w4.heap.size (.slice a5 g.os.length n5) g.os) := O5.out.below hb6
  have B6 : Hid (Below w.heap.size w w6) := bel_trans B5.out hb6
  have SC : Hid (w4.heap.size ≤ w5.heap.size ∧ bx < w5.heap.size) := ⟨SZ5.out, Y5.out.lt⟩
  clear hb6 X5 Y5 L5 O5 B5
  go_wp2_with fail
  generalize w5.heap.size = bc at *
  refine (HH.out _).mono ?_; rintro e w7 ⟨⟨a7, n7, rfl, hO7⟩, hb⟩
  have X7 : Hid (BoxP w7 w.heap.size p a c) := X6.out.below hb
  have Y7 : Hid (BoxP w7 bx p a1 n1) := Y6.out.below hb
  have Z7 : Hid (BoxP w7 bc g a5 n5) := Z6.out.below hb
  have L7 : Hid (OpLies w7 a1 p.os) := L6.out.below hb
  have O7 : Hid (Opts w7 w4.heap.size (.slice a5 g.os.length n5) g.os) := O6.out.below hb
  have B7 : Hid (Below w.heap.size w w7) := bel_trans B6.out hb
  have M7 : Hid (OpLies w7 a7 g.os) := hO7
  clear hb hO7 X6 Y6 Z6 L6 O6 B6 hw6 HH
  obtain ⟨w8, hw8⟩ : ∃ w8, w7.alloc (.cells #[.int .i64 g.op, .int .i64 g.ht, .int .i64 g.ho, .int .i64 g.xid, .int .i64 g.sc, .int .i64 g.fl, .int .i64 g.ci, .int .i64 g.yi, .int .i64 g.si, .int .i64 g.gi, .string g.ch, .slice a7 g.os.length n7] 40) = w8 := ⟨_, rfl⟩
  have hb8 : Below w7.heap.size w7 w8 := by rw [← hw8]; exact (Below.refl _ _).alloc (Nat.le_refl _) _
  have X8 : Hid (BoxP w8 w.heap.size p a c) := X7.out.below hb8
  have Y8 : Hid (BoxP w8 bx p a1 n1) := Y7.out.below hb8
  have Z8 : Hid (BoxP w8 bc g a5 n5) := Z7.out.below hb8
  have D8 : Hid (BoxP w8 w7.heap.size g a7 n7) := by
    show BoxP _ _ _ _ _
    rw [← hw8]; exact BoxP.new w7 g a7 n7
  have L8 : Hid (OpLies w8 a1 p.os) := L7.out.below hb8
  have O8 : Hid (Opts w8 w4.heap.size (.slice a5 g.os.length n5) g.os) := O7.out.below hb8
  have M8 : Hid (OpLies w8 a7 g.os) := M7.out.below hb8
  have B8 : Hid (Below w.heap.size w w8) := bel_trans B7.out hb8
  clear hb8 X7 Y7 Z7 L7 O7 M7 B7
  obtain ⟨c0, c1, c2, c3, c4, c5, c6, c7, c8, c9, c10, c11⟩ := hcell.out _ _ _ _ _ X8.out
  obtain ⟨d0, d1, d2, d3, d4, d5, d6, d7, d8, d9, d10, d11⟩ := hcell.out _ _ _ _ _ Y8.out
  obtain ⟨e0, e1, e2, e3, e4, e5, e6, e7, e8, e9, e10, e11⟩ := hcell.out _ _ _ _ _ Z8.out
  obtain ⟨f0, f1, f2, f3, f4, f5, f6, f7, f8, f9, f10, f11⟩ := hcell.out _ _ _ _ _ D8.out
  have heq : (PS.toList == PS.toList) = true := by simp
  have HSP : Hid (∀ w', Below w8.heap.size w8 w' → Calls Try.prog 15 #[pv g a5 n5, pv g a7 n7] w' fun e w'' => e = .returned (.bool true) ∧ Below w'.heap.size w' w'') := fun w' hb => samePk_c g a5 a7 n5 n7 w' (by have := HG32.out; omega) (by
    obtain ⟨a', c', e, h⟩ := O8.out.lies
    simp only [Value.slice.injEq] at e
    rw [e.1]; exact h.below hb) (M8.out.below hb)
  have HMX : Hid (∀ w', Below w8.heap.size w8 w' → Calls Try.prog 16 #[pv p a1 n1] w' fun e w'' => e = .returned (.bool PM) ∧ Below w'.heap.size w' w'') := fun w' hb => HM.out a1 n1 w' (L8.out.below hb)
  have HNP : Hid (∀ w', Below w8.heap.size w8 w' → Calls Try.prog 17 #[pv p a c] w' fun e w'' => e = .returned (.bool PM) ∧ Below w'.heap.size w' w'') := fun w' hb => HN.out w' (bel_trans B8.out hb)
  simp only [pv, cellsP] at HSP HMX HNP
  have HS : Hid (∀ w', Below w8.heap.size w8 w' → (w'.cell? ⟨w.heap.size, 0, none⟩ = some (.int .i64 p.op) ∧ w'.cell? ⟨w.heap.size, 1, none⟩ = some (.int .i64 p.ht) ∧ w'.cell? ⟨w.heap.size, 2, none⟩ = some (.int .i64 p.ho) ∧ w'.cell? ⟨w.heap.size, 3, none⟩ = some (.int .i64 p.xid) ∧ w'.cell? ⟨w.heap.size, 4, none⟩ = some (.int .i64 p.sc) ∧ w'.cell? ⟨w.heap.size, 5, none⟩ = some (.int .i64 p.fl) ∧ w'.cell? ⟨w.heap.size, 6, none⟩ = some (.int .i64 p.ci) ∧ w'.cell? ⟨w.heap.size, 7, none⟩ = some (.int .i64 p.yi) ∧ w'.cell? ⟨w.heap.size, 8, none⟩ = some (.int .i64 p.si) ∧ w'.cell? ⟨w.heap.size, 9, none⟩ = some (.int .i64 p.gi) ∧ w'.cell? ⟨w.heap.size, 10, none⟩ = some (.string p.ch) ∧ w'.cell? ⟨w.heap.size, 11, none⟩ = some (.slice a p.os.length c)) ∧ (w'.cell? ⟨bx, 0, none⟩ = some (.int .i64 p.op) ∧ w'.cell? ⟨bx, 1, none⟩ = some (.int .i64 p.ht) ∧ w'.cell? ⟨bx, 2, none⟩ = some (.int .i64 p.ho) ∧ w'.cell? ⟨bx, 3, none⟩ = some (.int .i64 p.xid) ∧ w'.cell? ⟨bx, 4, none⟩ = some (.int .i64 p.sc) ∧ w'.cell? ⟨bx, 5, none⟩ = some (.int .i64 p.fl) ∧ w'.cell? ⟨bx, 6, none⟩ = some (.int .i64 p.ci) ∧ w'.cell? ⟨bx, 7, none⟩ = some (.int .i64 p.yi) ∧ w'.cell? ⟨bx, 8, none⟩ = some (.int .i64 p.si) ∧ w'.cell? ⟨bx, 9, none⟩ = some (.int .i64 p.gi) ∧ w'.cell? ⟨bx, 10, none⟩ = some (.string p.ch) ∧ w'.cell? ⟨bx, 11, none⟩ = some (.slice a1 p.os.length n1)) ∧ (w'.cell? ⟨bc, 0, none⟩ = some (.int .i64 g.op) ∧ w'.cell? ⟨bc, 1, none⟩ = some (.int .i64 g.ht) ∧ w'.cell? ⟨bc, 2, none⟩ = some (.int .i64 g.ho) ∧ w'.cell? ⟨bc, 3, none⟩ = some (.int .i64 g.xid) ∧ w'.cell? ⟨bc, 4, none⟩ = some (.int .i64 g.sc) ∧ w'.cell? ⟨bc, 5, none⟩ = some (.int .i64 g.fl) ∧ w'.cell? ⟨bc, 6, none⟩ = some (.int .i64 g.ci) ∧ w'.cell? ⟨bc, 7, none⟩ = some (.int .i64 g.yi) ∧ w'.cell? ⟨bc, 8, none⟩ = some (.int .i64 g.si) ∧ w'.cell? ⟨bc, 9, none⟩ = some (.int .i64 g.gi) ∧ w'.cell? ⟨bc, 10, none⟩ = some (.string g.ch) ∧ w'.cell? ⟨bc, 11, none⟩ = some (.slice a5 g.os.length n5)) ∧ (w'.cell? ⟨w7.heap.size, 0, none⟩ = some (.int .i64 g.op) ∧ w'.cell? ⟨w7.heap.size, 1, none⟩ = some (.int .i64 g.ht) ∧ w'.cell? ⟨w7.heap.size, 2, none⟩ = some (.int .i64 g.ho) ∧ w'.cell? ⟨w7.heap.size, 3, none⟩ = some (.int .i64 g.xid) ∧ w'.cell? ⟨w7.heap.size, 4, none⟩ = some (.int .i64 g.sc) ∧ w'.cell? ⟨w7.heap.size, 5, none⟩ = some (.int .i64 g.fl) ∧ w'.cell? ⟨w7.heap.size, 6, none⟩ = some (.int .i64 g.ci) ∧ w'.cell? ⟨w7.heap.size, 7, none⟩ = some (.int .i64 g.yi) ∧ w'.cell? ⟨w7.heap.size, 8, none⟩ = some (.int .i64 g.si) ∧ w'.cell? ⟨w7.heap.size, 9, none⟩ = some (.int .i64 g.gi) ∧ w'.cell? ⟨w7.heap.size, 10, none⟩ = some (.string g.ch) ∧ w'.cell? ⟨w7.heap.size, 11, none⟩ = some (.slice a7 g.os.length n7)) ∧ Below w8.heap.size w8 w') := fun w' hb => ⟨hcell.out _ _ _ _ _ (X8.out.below hb), hcell.out _ _ _ _ _ (Y8.out.below hb), hcell.out _ _ _ _ _ (Z8.out.below hb), hcell.out _ _ _ _ _ (D8.out.below hb), hb⟩
  clear HM HN
  go_wp2_with fail
  clear hw8
  go_region_held3 (fun w' => (w'.cell? ⟨w.heap.size, 0, none⟩ = some (.int .i64 p.op) ∧ w'.cell? ⟨w.heap.size, 1, none⟩ = some (.int .i64 p.ht) ∧ w'.cell? ⟨w.heap.size, 2, none⟩ = some (.int .i64 p.ho) ∧ w'.cell? ⟨w.heap.size, 3, none⟩ = some (.int .i64 p.xid) ∧ w'.cell? ⟨w.heap.size, 4, none⟩ = some (.int .i64 p.sc) ∧ w'.cell? ⟨w.heap.size, 5, none⟩ = some (.int .i64 p.fl) ∧ w'.cell? ⟨w.heap.size, 6, none⟩ = some (.int .i64 p.ci) ∧ w'.cell? ⟨w.heap.size, 7, none⟩ = some (.int .i64 p.yi) ∧ w'.cell? ⟨w.heap.size, 8, none⟩ = some (.int .i64 p.si) ∧ w'.cell? ⟨w.heap.size, 9, none⟩ = some (.int .i64 p.gi) ∧ w'.cell? ⟨w.heap.size, 10, none⟩ = some (.string p.ch) ∧ w'.cell? ⟨w.heap.size, 11, none⟩ = some (.slice a p.os.length c)) ∧ (w'.cell? ⟨bx, 0, none⟩ = some (.int .i64 p.op) ∧ w'.cell? ⟨bx, 1, none⟩ = some (.int .i64 p.ht) ∧ w'.cell? ⟨bx, 2, none⟩ = some (.int .i64 p.ho) ∧ w'.cell? ⟨bx, 3, none⟩ = some (.int .i64 p.xid) ∧ w'.cell? ⟨bx, 4, none⟩ = some (.int .i64 p.sc) ∧ w'.cell? ⟨bx, 5, none⟩ = some (.int .i64 p.fl) ∧ w'.cell? ⟨bx, 6, none⟩ = some (.int .i64 p.ci) ∧ w'.cell? ⟨bx, 7, none⟩ = some (.int .i64 p.yi) ∧ w'.cell? ⟨bx, 8, none⟩ = some (.int .i64 p.si) ∧ w'.cell? ⟨bx, 9, none⟩ = some (.int .i64 p.gi) ∧ w'.cell? ⟨bx, 10, none⟩ = some (.string p.ch) ∧ w'.cell? ⟨bx, 11, none⟩ = some (.slice a1 p.os.length n1)) ∧ (w'.cell? ⟨bc, 0, none⟩ = some (.int .i64 g.op) ∧ w'.cell? ⟨bc, 1, none⟩ = some (.int .i64 g.ht) ∧ w'.cell? ⟨bc, 2, none⟩ = some (.int .i64 g.ho) ∧ w'.cell? ⟨bc, 3, none⟩ = some (.int .i64 g.xid) ∧ w'.cell? ⟨bc, 4, none⟩ = some (.int .i64 g.sc) ∧ w'.cell? ⟨bc, 5, none⟩ = some (.int .i64 g.fl) ∧ w'.cell? ⟨bc, 6, none⟩ = some (.int .i64 g.ci) ∧ w'.cell? ⟨bc, 7, none⟩ = some (.int .i64 g.yi) ∧ w'.cell? ⟨bc, 8, none⟩ = some (.int .i64 g.si) ∧ w'.cell? ⟨bc, 9, none⟩ = some (.int .i64 g.gi) ∧ w'.cell? ⟨bc, 10, none⟩ = some (.string g.ch) ∧ w'.cell? ⟨bc, 11, none⟩ = some (.slice a5 g.os.length n5)) ∧ (w'.cell? ⟨w7.heap.size, 0, none⟩ = some (.int .i64 g.op) ∧ w'.cell? ⟨w7.heap.size, 1, none⟩ = some (.int .i64 g.ht) ∧ w'.cell? ⟨w7.heap.size, 2, none⟩ = some (.int .i64 g.ho) ∧ w'.cell? ⟨w7.heap.size, 3, none⟩ = some (.int .i64 g.xid) ∧ w'.cell? ⟨w7.heap.size, 4, none⟩ = some (.int .i64 g.sc) ∧ w'.cell? ⟨w7.heap.size, 5, none⟩ = some (.int .i64 g.fl) ∧ w'.cell? ⟨w7.heap.size, 6, none⟩ = some (.int .i64 g.ci) ∧ w'.cell? ⟨w7.heap.size, 7, none⟩ = some (.int .i64 g.yi) ∧ w'.cell? ⟨w7.heap.size, 8, none⟩ = some (.int .i64 g.si) ∧ w'.cell? ⟨w7.heap.size, 9, none⟩ = some (.int .i64 g.gi) ∧ w'.cell? ⟨w7.heap.size, 10, none⟩ = some (.string g.ch) ∧ w'.cell? ⟨w7.heap.size, 11, none⟩ = some (.slice a7 g.os.length n7)) ∧ Below w8.heap.size w8 w')
    (first | exact HS.out _ (below_drewN (Below.refl w8.heap.size _) 1) | exact HS.out _ sB)
    (first
      | (go_at_call 9; have sB := (‹_ ∧ _ ∧ _ ∧ _ ∧ Below w8.heap.size w8 _›).2.2.2.2; refine (num_any _ _).mono ?_; rintro e wN ⟨rfl, rfl⟩)
      | (go_at_call 15; have tB := (‹_ ∧ _ ∧ _ ∧ _ ∧ Below w8.heap.size w8 _›).2.2.2.2; refine (HSP.out _ tB).mono ?_; rintro e wN ⟨rfl, hbN⟩; have sB := bel_trans tB hbN; clear tB hbN)
      | (go_at_call 16; have tB := (‹_ ∧ _ ∧ _ ∧ _ ∧ Below w8.heap.size w8 _›).2.2.2.2; refine (HMX.out _ tB).mono ?_; rintro e wN ⟨rfl, hbN⟩; have sB := bel_trans tB hbN; clear tB hbN)
      | (go_at_call 17; have tB := (‹_ ∧ _ ∧ _ ∧ _ ∧ Below w8.heap.size w8 _›).2.2.2.2; refine (HNP.out _ tB).mono ?_; rintro e wN ⟨rfl, hbN⟩; have sB := bel_trans tB hbN; clear tB hbN))
  have sF := (‹_ ∧ _ ∧ _ ∧ _ ∧ Below w8.heap.size w8 _›).2.2.2.2
  have X9 : Hid (BoxP wN w.heap.size p a c) := X8.out.below sF
  have Y9 : Hid (BoxP wN bx p a1 n1) := Y8.out.below sF
  have Z9 : Hid (BoxP wN bc g a5 n5) := Z8.out.below sF
  have L9 : Hid (OpLies wN a1 p.os) := L8.out.below sF
  have O9 : Hid (Opts wN w4.heap.size (.slice a5 g.os.length n5) g.os) := O8.out.below sF
  have B9 : Hid (Below w.heap.size w wN) := bel_trans B8.out sF
  clear sF HS HSP HMX HNP X8 Y8 Z8 D8 L8 O8 M8 B8 c0 d0 e0 f0 c1 d1 e1 f1 c2 d2 e2 f2 c3 d3 e3 f3 c4 d4 e4 f4 c5 d5 e5 f5 c6 d6 e6 f6 c7 d7 e7 f7 c8 d8 e8 f8 c9 d9 e9 f9 c10 d10 e10 f10 c11 d11 e11 f11
  rename World => w9
  obtain ⟨e0, e1, e2, e3, e4, e5, e6, e7, e8, e9, e10, e11⟩ := hcell.out _ _ _ _ _ Z9.out
  go_wp2_with fail
  refine (spoilOp_c _ w4.heap.size g.os _ (by have := HG32.out; omega) O9.out).mono ?_; rintro e w10 ⟨rfl, hb⟩
  have B10 : Hid (Below w.heap.size w w10) := B9.out.trans (hb.mono (Nat.le_of_lt SW.out))
  have X10 : Hid (BoxP w10 w.heap.size p a c) := (hb.block _ SW.out).trans X9.out
  have Y10 : Hid (BoxP w10 bx p a1 n1) := (hb.block _ SX.out).trans Y9.out
  have L10 : Hid (OpLies w10 a1 p.os) := L9.out.heap fun x hx => hb.block x.block (by have := HA.out x hx; have := SX.out; omega)
  have HS2 : Hid (Calls Try.prog 15 #[pv p a1 n1, pv p a c] w10 fun e w'' => e = .returned (.bool true) ∧ Below w10.heap.size w10 w'') := samePk_c p a1 a n1 c w10 hl2 L10.out (HLB.out _ B10.out)
  simp only [pv, cellsP] at HS2
  clear hb X9 Y9 Z9 L9 O9 B9 e0 e1 e2 e3 e4 e5 e6 e7 e8 e9 e10 e11
  obtain ⟨c0, c1, c2, c3, c4, c5, c6, c7, c8, c9, c10, c11⟩ := hcell.out _ _ _ _ _ X10.out
  obtain ⟨d0, d1, d2, d3, d4, d5, d6, d7, d8, d9, d10, d11⟩ := hcell.out _ _ _ _ _ Y10.out
  go_wp2_with fail
  refine HS2.out.mono ?_; rintro e w11 ⟨rfl, hb⟩
  have B11 : Hid (Below w.heap.size w w11) := bel_trans B10.out hb
  clear hb B10 X10 Y10 L10 HS2 c0 d0 c1 d1 c2 d2 c3 d3 c4 d4 c5 d5 c6 d6 c7 d7 c8 d8 c9 d9 c10 d10 c11 d11
  go_wp2_with fail
  refine (awake7_yes _).mono ?_; rintro e w12 ⟨rfl, hb⟩
  have B12 : Hid (Below w.heap.size w w12) := bel_trans B11.out hb
  clear hb B11
  go_wp2
  go_ret
  exact ⟨rfl, B12.out⟩
theorem own : ownKnob Try.prog.godebug = none := by kernel_rfl
theorem laidOut : laidOutB Try.prog = true := by kernel_rfl

/-! ### The row's step -/
set_option maxRecDepth 100000 in
theorem lifted (os : Os) (started : os.Started) (H : Type) (enc : TypeId × Value → H) :
    ReturnsInHanded {} Try.checked os 4 .any (Rows.packetsSpec.pre6 enc Try.prog Try.f4 Rows.packetsRow.domain false) (Rows.packetsSpec.post enc Try.prog Try.f4 false true false false) := by
  refine returnsInHanded_of_change_sized (C := Try.checked) own started (by kernel_rfl) Try.func4
    (ChangeSpec.witness6 (enc := enc) (C := Try.checked) false ⟨#[], #[.agg #[.int .i64 0, .int .i64 0, .int .i64 0, .int .i64 0, .int .i64 0, .int .i64 0, .int .i64 0, .int .i64 0, .int .i64 0, .int .i64 0, .string ByteArray.empty, .slice none 0 0], .string ByteArray.empty], []⟩ 8 (by kernel_rfl) (by kernel_rfl) (by kernel_rfl) (by kernel_rfl)) ?_
  intro W base args ds gs before hval0 hW _ hsz0 _
  have hval : ∀ (j : Nat) t v, Try.f4.params[j]? = some t → args[j]? = some v → Value.okWide Try.prog W .any base t v := hval0
  have hsz : (DataW.weightsEach Try.prog (Try.f4.params.toList ++ Rows.packetsSpec.plain.varTypes Try.prog) (ds ++ gs)).all (· ≤ reachBytes) = true := hsz0
  have hW' := hW
  obtain ⟨p, q, hA0, hV, rfl, _, _⟩ := hW
  have hA : DataW.TrodAll enc Try.prog W 0 (fun _ => true) true Try.f4.params.toList args.toList ds p := hA0
  rw [Try.params4] at hA hval hsz
  obtain ⟨v0, vs0, d0, ds0, p0, q0, hargs, rfl, rfl, h0, r0⟩ := trodAll_cons hA
  obtain ⟨v1, vs1, d1, ds1, p1, q1, rfl, rfl, rfl, h1, r1⟩ := trodAll_cons r0
  obtain ⟨rfl, rfl, rfl⟩ := trodAll_nil r1
  obtain rfl : args = #[v0, v1] := by cases args; simp_all
  obtain ⟨rfl, rfl⟩ := trodVars_none hV
  have k0 := h0
  have lt0 : ∀ x ∈ p0, x.block < W.heap.size := by obtain ⟨m, hm⟩ := k0; exact DataW.trod_lt m _ _ _ hm
  obtain ⟨a0, A0, C0, rfl, w0, f0, g0, u0⟩ := open_pk (hval 0 40 v0 rfl rfl) h0
  have b0 : a0.os.length * 24 ≤ 140737488351232 := u0 (fun n hn => by have := List.all_eq_true.1 hsz n (DataW.weights_mem_each (j := 0) (t := 40) (d := d0) rfl rfl n hn); simpa using this)
  obtain ⟨a1, rfl, rfl, rfl, w1⟩ := open_string Try.underlying9 (hval 1 9 v1 rfl rfl) h1
  have s1 : a1.size ≤ 140737488351232 := by have := sized_string hsz (j := 1) (t := 9) rfl rfl; simpa [reachBytes] using this
  clear hA0 hval0 hsz0
  refine (walk a0 A0 C0 a1 W w0 f0 g0 b0 s1).mono fun e W' ⟨he, bel⟩ => ?_
  subst he
  exact ⟨_, rfl, _, _, _, [], _, [], hW', trodAll_mk1 (shut_bool Try.underlying4 _), (trodAll_cons_mk (Below.trod laidOut (by kernel_rfl) (of_decide_eq_true (by kernel_rfl)) k0 bel lt0) (trodAll_cons_mk (shut_string Try.underlying9 w1) trodAll_mk0)), rfl, bel.frame _, fun h => by cases h⟩

theorem over : Rows.packetsRow.holds Try.pinned (OpenSpec.ofChange Rows.packetsSpec) :=
  OpenClaim.holds_of_wide 4 Try.f4 rfl rfl rfl rfl rfl rfl rfl ⟨rfl, rfl, rfl, rfl, rfl⟩ rfl rfl rfl rfl rfl (by kernel_rfl) Try.func4 (by kernel_rfl)
    (of_decide_eq_true (by kernel_rfl)) (by unfold Func.isWrapper; first | (rw [if_pos (by decide +kernel)]; kernel_rfl) | (rw [if_neg (by decide +kernel)]; exact ⟨rfl, rfl⟩))
    (fun os started H enc _ => lifted os started H enc)

/-- The given statement. -/
theorem proved : Rows.PacketsSaid := over

end packetsAll
theorem packets_proved : Rows.PacketsSaid := packetsAll.proved
end Go.Proofs.Ytegoaaamlfehpaa
