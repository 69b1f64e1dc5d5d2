/-
  Contract of the laws' SamePacket: of packets that are the same.
-/
import Derived.Test.YtkohojifnmklmaaPackMay
namespace Go.Proofs.Ytkohojifnmklmaa
open Go.ChangeShapes Go.WideShapes Go.ChangeAt Go.RowKit Go.Pin Go.PlainAid

set_option maxRecDepth 100000 in
set_option maxHeartbeats 2000000 in
theorem samePk_c (p : Pk) (a a2 : Option Addr) (c c2 : Nat) (w : World) (hl : p.os.length ≤ 10000000000000) (h1 : OpLies w a p.os) (h2 : OpLies w a2 p.os) :
    Calls Try.prog 13 #[pv p a c, pv p a2 c2] w fun e w' => e = .returned (.bool true) ∧ Below w.heap.size w w' := by
  have hb1 : Below w.heap.size w (w.alloc (.cells (cellsP p a c) 24)) := (Below.refl _ _).alloc (Nat.le_refl _) _
  have hb2 : Below w.heap.size w ((w.alloc (.cells (cellsP p a c) 24)).alloc (.cells (cellsP p a2 c2) 24)) := hb1.alloc (by simp) _
  have HS : Hid (∀ w', Below w.heap.size w w' → _) := fun w' hb => sameOp_c a a2 p.os.length p.os.length c c2 p.os w' rfl rfl hl (h1.below hb) (h2.below hb)
  have X1 : Hid (BoxP ((w.alloc (.cells (cellsP p a c) 24)).alloc (.cells (cellsP p a2 c2) 24)) w.heap.size p a c) := (BoxP.new w p a c).below ((Below.refl _ _).alloc (Nat.le_refl _) _)
  have X2 : Hid (BoxP ((w.alloc (.cells (cellsP p a c) 24)).alloc (.cells (cellsP p a2 c2) 24)) (w.heap.size + 1) p a2 c2) := by
    have := BoxP.new (w.alloc (.cells (cellsP p a c) 24)) p a2 c2
    rw [show (w.alloc (.cells (cellsP p a c) 24)).heap.size = w.heap.size + 1 by simp] at this
    exact this
  have B2 : Hid (_) := hb2
  obtain ⟨c0, c1, c3, c4, c5, c6, c7, c8, c9, c10, c11, c12⟩ := X1.out.all
  obtain ⟨d0, d1, d3, d4, d5, d6, d7, d8, d9, d10, d11, d12⟩ := X2.out.all
  clear hb1 hb2 h1 h2 X1 X2
  simp only [pv, cellsP] at *
  go_enter Try.func13, Try.ntmps13
  obtain ⟨w2, hw2⟩ : ∃ w2, ((w.alloc (.cells #[.int .i64 p.op, .int .i64 p.ht, .int .i64 p.ho, .int .i64 p.xid, .int .i64 p.sc, .int .i64 p.fl, .int .i64 p.ci, .int .i64 p.yi, .int .i64 p.si, .int .i64 p.gi, .string p.ch, .slice a p.os.length c] 24)).alloc (.cells #[.int .i64 p.op, .int .i64 p.ht, .int .i64 p.ho, .int .i64 p.xid, .int .i64 p.sc, .int .i64 p.fl, .int .i64 p.ci, .int .i64 p.yi, .int .i64 p.si, .int .i64 p.gi, .string p.ch, .slice a2 p.os.length c2] 24)) = w2 := ⟨_, rfl⟩
  rw [hw2] at *
  go_wp2_with fail
  refine (HS.out _ B2.out).mono ?_; rintro e w3 ⟨rfl, hb⟩
  go_wp2
  go_ret
  exact ⟨rfl, bel_trans B2.out hb⟩
end Go.Proofs.Ytkohojifnmklmaa
