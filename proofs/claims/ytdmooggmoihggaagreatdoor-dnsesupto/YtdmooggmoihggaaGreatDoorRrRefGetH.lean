/-
  The references' GetRr answers what 'getRec' says, at every text and place.
-/
import Derived.Test.YtdmooggmoihggaaGreatDoorRrRef
import Derived.Test.YtdmooggmoihggaaGreatDoorWireRef
import Derived.Test.YtdmooggmoihggaaGreatDoorRrRefPut
import Derived.Test.YtdmooggmoihggaaGreatDoorRrRefSays
import Derived.Deep.RegionHeld3
namespace Go.Proofs.YtdmooggmoihggaaGreatDoor
set_option maxRecDepth 100000
open Go.ChangeShapes Go.WideShapes Go.ChangeAt Go.RowKit Go.Pin Go.PlainAid

theorem rget_b (s : ByteArray) (a : Int) (k : Nat) (w : World) (hk : k = 1 ∨ k = 2 ∨ k = 4) (hs : s.size ≤ maxLen) : Calls Tryz.prog 59 #[.string s, .int .i64 a, .int .i64 k] w fun e w' => e = .returned (.tuple #[.int .i64 (getB s a k).1, .int .i64 (getB s a k).2]) ∧ w' = w := by
  unfold getB
  by_cases h0 : a < 0
  · rw [if_pos h0]; exact rget_no s a k w (.inr h0)
  · rw [if_neg h0]
    by_cases h1 : (s.size : Int) < a + k
    · rw [if_pos h1]; exact rget_end s a k w (by omega) hs (by omega) h1
    · rw [if_neg h1]
      have := rget_ok s a.toNat k w hk hs (by omega)
      rwa [show ((a.toNat : Nat) : Int) = a by omega] at this
theorem getB_at (s : ByteArray) (a k : Nat) (h : a + k ≤ s.size) : getB s (a : Int) k = (num s a k, 0) := by
  rw [getB, if_neg (by omega), if_neg (by omega), Int.toNat_natCast]
theorem getB_in (s : ByteArray) (a : Int) (k : Nat) (b : Nat) (e : a = (b : Int)) (h : b + k ≤ s.size) : getB s a k = (num s b k, 0) := by rw [e]; exact getB_at s b k h

/-- What the cells of a record that lies in memory are. -/
theorem RecAt.all {w : World} {b : Nat} {r : Rec} (h : RecAt w b r) : (w.cell? ⟨b, 0, none⟩ = some (.string r.n) ∧ w.cell? ⟨b, 1, none⟩ = some (.int .i64 r.ty) ∧ w.cell? ⟨b, 2, none⟩ = some (.int .i64 r.ttl) ∧ w.cell? ⟨b, 3, none⟩ = some (.int .i64 r.ad) ∧ w.cell? ⟨b, 4, none⟩ = some (.string r.tg) ∧ w.cell? ⟨b, 5, none⟩ = some (.string r.tx) ∧ w.cell? ⟨b, 6, none⟩ = some (.int .i64 r.se)) ∧ (w.frozen? ⟨b, 0, none⟩ = false ∧ w.frozen? ⟨b, 1, none⟩ = false ∧ w.frozen? ⟨b, 2, none⟩ = false ∧ w.frozen? ⟨b, 3, none⟩ = false ∧ w.frozen? ⟨b, 4, none⟩ = false ∧ w.frozen? ⟨b, 5, none⟩ = false ∧ w.frozen? ⟨b, 6, none⟩ = false) := by
  obtain ⟨q0, q1, q2, q3, q4, q5, q6, fq, lt⟩ := h
  exact ⟨⟨q0, q1, q2, q3, q4, q5, q6⟩, fq 0, fq 1, fq 2, fq 3, fq 4, fq 5, fq 6⟩
theorem cut_len {s : List UInt8} {p : Nat} {t : ByteArray} {nx f : Int} (h : getL s p = (bs t, nx, f)) : t.size ≤ 72 := by
  by_cases hf : f = 0
  · subst hf; have := (get_may h).2; rwa [length_bs] at this
  · unfold getL endWire at h
    split at h
    · simp only [Prod.mk.injEq] at h
      have : (bs t).length = 0 := by rw [← h.1]; rfl
      rw [length_bs] at this; omega
    · simp only [Prod.mk.injEq] at h
      exact absurd h.2.2.symm hf
theorem get_nx {s : List UInt8} {p : Nat} {n : List UInt8} {nx f : Int} (h : getL s p = (n, nx, f)) : 0 ≤ nx ∧ nx ≤ s.length := by
  by_cases hf : f = 0
  · subst hf; have := get_ends h; omega
  · unfold getL endWire at h
    split at h
    · simp only [Prod.mk.injEq] at h; omega
    · simp only [Prod.mk.injEq] at h
      exact absurd h.2.2.symm hf
set_option maxHeartbeats 1000000 in
theorem refGet_no1 (s : ByteArray) (a : Int) (w : World) (hs : s.size ≤ 1125899906842624) (h : (getI (bs s) a).2.2 ≠ 0) :
    Calls Tryz.prog 62 #[.string s, .int .i64 a] w fun e w' => e = gotR none ∧ Below w.heap.size w w' := by
  have HN : Hid (∀ w, _) := fun w => rget_c s a w hs
  generalize getI (bs s) a = q at *
  have h1 : (q.2.2 != 0) = true := by simpa using h
  simp only [told] at HN
  simp only [gotR, zeroR, rv]
  go_enter Tryz.func62, Tryz.ntmps62
  go_wp2_with fail
  refine (HN.out _).mono ?_; rintro e w1 ⟨rfl, hb1⟩
  have Z1 : Hid (RecAt w1 w.heap.size zeroR) := (RecAt.new w zeroR 82).below hb1 (by simp)
  have B1 : Hid (Below w.heap.size w w1) := bel_trans ((Below.refl _ _).alloc (Nat.le_refl _) _) hb1
  clear hb1
  obtain ⟨⟨q0, q1, q2, q3, q4, q5, q6⟩, p0, p1, p2, p3, p4, p5, p6⟩ := Z1.out.all
  simp only [zeroR] at q0 q1 q2 q3 q4 q5 q6
  go_wp2
  have hf : RecAt (layR w1 w.heap.size zeroR) w.heap.size zeroR := layR_rec Z1.out zeroR
  have Bf : Below w.heap.size w (layR w1 w.heap.size zeroR) := layR_below B1.out (Nat.le_refl _) zeroR
  simp only [layR, zeroR] at hf Bf
  obtain ⟨a0, a1, a2, a3, a4, a5, a6, _, _⟩ := hf
  simp only at a0 a1 a2 a3 a4 a5 a6
  refine bodyPost_ret (v := .tuple #[.agg #[.string ⟨#[]⟩, .int .i64 0, .int .i64 0, .int .i64 0, .string ⟨#[]⟩, .string ⟨#[]⟩, .int .i64 0], .int .i64 0, .int .i64 400]) (by simp [results, Tryz.results62, go_sem, a0, a1, a2, a3, a4, a5, a6]) rfl ⟨rfl, Bf⟩

end Go.Proofs.YtdmooggmoihggaaGreatDoor
