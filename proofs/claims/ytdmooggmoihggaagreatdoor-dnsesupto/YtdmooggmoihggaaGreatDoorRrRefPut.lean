/-
  Contract of the references' PutRr, at every place, known names and record (texts of at most 1048576 letters).
-/
import Derived.Test.YtdmooggmoihggaaGreatDoorRrRef
import Derived.Test.YtdmooggmoihggaaGreatDoorBRis
import Derived.Test.YtdmooggmoihggaaGreatDoorWireRefPut
import Derived.Deep.RegionHeld3
namespace Go.Proofs.YtdmooggmoihggaaGreatDoor
set_option maxRecDepth 100000
open Go.ChangeShapes Go.WideShapes Go.ChangeAt Go.RowKit Go.Pin Go.PlainAid

/-- A number's bytes, as the reference's Num is asked for them. -/
def nb (x k : Int) : ByteArray := be x k.toNat
theorem nb_size (x k : Int) : (nb x k).size = k.toNat := size_be _ _
theorem refNb (x k : Int) (w : World) (h : 0 ≤ x ∧ x ≤ 4294967295 ∧ (k = 1 ∨ k = 2 ∨ k = 4)) : Calls Tryz.prog 46 #[.int .i64 x, .int .i64 k] w fun e w' => e = .returned (.string (nb x k)) ∧ Below w.heap.size w w' := by
  have := refNum x k.toNat w h.1 (by omega) (by omega)
  rw [show ((k.toNat : Nat) : Int) = k by omega] at this
  exact this

/-- What is so once a name was put. -/
theorem put_is {at_ : Int} {ks : List Kn} {n : List UInt8} {N : ByteArray} {k0 : List Kn} (eN : mk (putS ks (labsL n)) = N) (ek : ks ++ putN ks at_ (labsL n) = k0) (hks : ∀ k ∈ ks, k.1.length ≤ 1048576) :
    N.size ≤ 100 ∧ k0.length ≤ ks.length + 8 ∧ ∀ k ∈ k0, k.1.length ≤ 1048576 := by
  have l1 := putS_len ks (labsL n) (fun x hx => labsL_ok hx)
  have l2 := labsL_len n
  have l3 := putN_len ks (labsL n) at_
  have l4 := putN_mem ks (labsL n) at_ (fun x hx => labsL_ok hx) l2
  subst eN ek
  rw [size_mk, List.length_append]
  refine ⟨by omega, by omega, fun k hk => ?_⟩
  rcases List.mem_append.1 hk with h | h
  · exact hks k h
  · have := l4 k h; omega
theorem may_nums {r : Rec} (h : mayR r = true) : 0 ≤ r.ty ∧ r.ty < 65536 ∧ 0 ≤ r.ttl ∧ r.ttl ≤ 1048576 ∧ 0 ≤ r.ad ∧ r.ad ≤ 4294967295 ∧ 0 ≤ r.se ∧ r.se ≤ 4294967295 ∧ r.tx.size ≤ 64 := by
  have h1 := mayR_ty h
  simp only [mayR, upB, Bool.and_eq_true, decide_eq_true_eq] at h
  omega

set_option maxHeartbeats 2000000 in
theorem refPut_49 (at_ : Int) (a : Option Addr) (cap : Nat) (ks : List Kn) (r : Rec) (w : World) (N : ByteArray) (k0 : List Kn) (eN : mk (putS ks (labsL (bs r.n))) = N) (ek : ks ++ putN ks at_ (labsL (bs r.n)) = k0) (hm : mayR r = true) (hp : mayPutL at_ ks (bs r.n) = true) (hn : r.n.size ≤ 1048576) (hg : r.tg.size ≤ 1048576) (hl : ks.length ≤ 1048500) (hks : ∀ k ∈ ks, k.1.length ≤ 1048576) (hk : KnLies w a ks) (ht : r.ty = 49) :
    Calls Tryz.prog 48 #[.int .i64 at_, .slice a ks.length cap, rv r] w fun e w' => (∃ v, e = .returned (.tuple #[.string (N ++ nb r.ty 2 ++ nb 1 2 ++ nb r.ttl 4 ++ nb r.tx.size 2 ++ r.tx), v, .int .i64 0]) ∧ Knowns w' w.heap.size v k0) ∧ Below w.heap.size w w' := by
  have HM : Hid (∀ w, _) := fun w => refMay_c r w hn hg
  rw [hm] at HM
  have HN : Hid (∀ w', Below w.heap.size w w' → _) := fun w' hb => rput_c at_ a cap ks r.n w' hn (by omega) hks (hk.below hb) hp
  rw [eN, ek] at HN
  obtain ⟨g1, g2, g3⟩ := put_is eN ek hks
  obtain ⟨a0, a1, _, _⟩ := may_put hp
  obtain ⟨_, _, u1, u2, u3, u4, u5, u6, u7⟩ := may_nums hm
  have gN : (N.size : Int) ≤ 100 := by omega
  have gk : Hid (k0.length ≤ 1048508) := by show k0.length ≤ 1048508; omega
  have gm : Hid (∀ k ∈ k0, k.1.length ≤ 1048576) := g3
  have gg : Hid (r.tg.size ≤ 1048576) := hg
  have BX : Hid (Boxed (w.alloc (.cells #[.string r.n, .int .i64 r.ty, .int .i64 r.ttl, .int .i64 r.ad, .string r.tg, .string r.tx, .int .i64 r.se] 82)) w.heap.size r) := Boxed.new w r
  have hcl : Hid (∀ (w' : World), Boxed w' w.heap.size r → (w'.cell? ⟨w.heap.size, 0, none⟩ = some (.string r.n) ∧ w'.cell? ⟨w.heap.size, 1, none⟩ = some (.int .i64 r.ty) ∧ w'.cell? ⟨w.heap.size, 2, none⟩ = some (.int .i64 r.ttl) ∧ w'.cell? ⟨w.heap.size, 3, none⟩ = some (.int .i64 r.ad) ∧ w'.cell? ⟨w.heap.size, 4, none⟩ = some (.string r.tg) ∧ w'.cell? ⟨w.heap.size, 5, none⟩ = some (.string r.tx) ∧ w'.cell? ⟨w.heap.size, 6, none⟩ = some (.int .i64 r.se))) := fun w' h => ⟨h.cell 0, h.cell 1, h.cell 2, h.cell 3, h.cell 4, h.cell 5, h.cell 6⟩
  obtain ⟨n, ty, ttl, ad, tg, tx, se⟩ := r
  simp only at ht
  subst ht
  simp only [rv] at *
  clear hm hp hn hg hl hks hk eN ek g1 g2 g3 
  go_enter Tryz.func48, Tryz.ntmps48
  go_wp2_with fail
  refine (HM.out _).mono ?_; rintro e w1 ⟨rfl, hb1⟩
  have X1 : Hid (Boxed w1 w.heap.size ⟨n, 49, ttl, ad, tg, tx, se⟩) := BX.out.below hb1
  have B1 : Hid (Below w.heap.size w w1) := bel_trans ((Below.refl _ _).alloc (Nat.le_refl _) _) hb1
  clear hb1 BX
  obtain ⟨c0, c1, c2, c3, c4, c5, c6⟩ := hcl.out _ X1.out
  go_wp2_with fail
  refine (HN.out _ B1.out).mono ?_; rintro e w2 ⟨⟨v2, rfl, k2⟩, hb2⟩
  have X2 : Hid (Boxed w2 w.heap.size ⟨n, 49, ttl, ad, tg, tx, se⟩) := X1.out.below hb2
  have B2 : Hid (Below w.heap.size w w2) := bel_trans B1.out hb2
  have K2 : Hid (Knowns w2 w.heap.size v2 k0) := k2.base B1.out.size
  clear hb2 c0 c1 c2 c3 c4 c5 c6 k2 X1 B1 HM HN
  obtain ⟨c0, c1, c2, c3, c4, c5, c6⟩ := hcl.out _ X2.out
  go_wp2_with fail
  have z1 := nb_size 49 2
  have z2 := nb_size 1 2
  have z3 := nb_size ttl 4
  have z4 := nb_size tx.size 2
  have p1 : ¬ 9223372036854775807 < N.size + (nb 49 2).size := by omega
  have p2 : ¬ 9223372036854775807 < N.size + (nb 49 2).size + (nb 1 2).size := by omega
  have p3 : ¬ 9223372036854775807 < N.size + (nb 49 2).size + (nb 1 2).size + (nb ttl 4).size := by omega
  have p4 : ¬ 9223372036854775807 < N.size + (nb 49 2).size + (nb 1 2).size + (nb ttl 4).size + (nb tx.size 2).size := by omega
  have p5 : ¬ 9223372036854775807 < N.size + (nb 49 2).size + (nb 1 2).size + (nb ttl 4).size + (nb tx.size 2).size + tx.size := by omega
  have Q3 : Hid (0 ≤ ttl ∧ ttl ≤ 4294967295 ∧ ((4 : Int) = 1 ∨ (4 : Int) = 2 ∨ (4 : Int) = 4)) := by show _ ∧ _; omega
  have Q4 : Hid (0 ≤ (tx.size : Int) ∧ (tx.size : Int) ≤ 4294967295 ∧ ((2 : Int) = 1 ∨ (2 : Int) = 2 ∨ (2 : Int) = 4)) := by show _ ∧ _; omega
  clear z1 z2 z3 z4
  go_region_held3 (fun w' => w'.cell? ⟨w.heap.size, 1, none⟩ = some (.int .i64 49) ∧ w'.cell? ⟨w.heap.size, 2, none⟩ = some (.int .i64 ttl) ∧ Boxed w' w.heap.size ⟨n, 49, ttl, ad, tg, tx, se⟩ ∧ Below w2.heap.size w2 w')
    (first | exact ⟨c1, c2, X2.out.below (below_drewN (Below.refl w2.heap.size _) 1), below_drewN (Below.refl w2.heap.size _) 1⟩ | exact ⟨sX.cell 1, sX.cell 2, sX, sB⟩)
    (first | (go_at_call 46; refine (refNb _ _ _ (by first | exact Q3.out | exact Q4.out | omega)).mono ?_; rintro e wN ⟨rfl, hbN⟩; obtain ⟨_, _, tX, tB⟩ := ‹_ ∧ _ ∧ Boxed _ w.heap.size _ ∧ Below w2.heap.size w2 _›; have sX := tX.below hbN; have sB := bel_trans tB hbN; clear tX tB hbN))
  obtain ⟨_, _, tX, tB⟩ := ‹_ ∧ _ ∧ Boxed _ w.heap.size _ ∧ Below w2.heap.size w2 _›
  go_wp2
  go_ret3
  exact ⟨⟨_, rfl, K2.out.below tB⟩, bel_trans B2.out tB⟩

set_option maxHeartbeats 2000000 in
theorem refPut_16 (at_ : Int) (a : Option Addr) (cap : Nat) (ks : List Kn) (r : Rec) (w : World) (N : ByteArray) (k0 : List Kn) (eN : mk (putS ks (labsL (bs r.n))) = N) (ek : ks ++ putN ks at_ (labsL (bs r.n)) = k0) (hm : mayR r = true) (hp : mayPutL at_ ks (bs r.n) = true) (hn : r.n.size ≤ 1048576) (hg : r.tg.size ≤ 1048576) (hl : ks.length ≤ 1048500) (hks : ∀ k ∈ ks, k.1.length ≤ 1048576) (hk : KnLies w a ks) (ht : r.ty = 16) (D : ByteArray) (eD0 : nb r.tx.size 1 ++ r.tx = D) :
    Calls Tryz.prog 48 #[.int .i64 at_, .slice a ks.length cap, rv r] w fun e w' => (∃ v, e = .returned (.tuple #[.string (N ++ nb r.ty 2 ++ nb 1 2 ++ nb r.ttl 4 ++ nb D.size 2 ++ D), v, .int .i64 0]) ∧ Knowns w' w.heap.size v k0) ∧ Below w.heap.size w w' := by
  have HM : Hid (∀ w, _) := fun w => refMay_c r w hn hg
  rw [hm] at HM
  have HN : Hid (∀ w', Below w.heap.size w w' → _) := fun w' hb => rput_c at_ a cap ks r.n w' hn (by omega) hks (hk.below hb) hp
  rw [eN, ek] at HN
  obtain ⟨g1, g2, g3⟩ := put_is eN ek hks
  obtain ⟨a0, a1, _, _⟩ := may_put hp
  obtain ⟨_, _, u1, u2, u3, u4, u5, u6, u7⟩ := may_nums hm
  have gN : (N.size : Int) ≤ 100 := by omega
  have gk : Hid (k0.length ≤ 1048508) := by show k0.length ≤ 1048508; omega
  have gm : Hid (∀ k ∈ k0, k.1.length ≤ 1048576) := g3
  have gg : Hid (r.tg.size ≤ 1048576) := hg
  have BX : Hid (Boxed (w.alloc (.cells #[.string r.n, .int .i64 r.ty, .int .i64 r.ttl, .int .i64 r.ad, .string r.tg, .string r.tx, .int .i64 r.se] 82)) w.heap.size r) := Boxed.new w r
  have hcl : Hid (∀ (w' : World), Boxed w' w.heap.size r → (w'.cell? ⟨w.heap.size, 0, none⟩ = some (.string r.n) ∧ w'.cell? ⟨w.heap.size, 1, none⟩ = some (.int .i64 r.ty) ∧ w'.cell? ⟨w.heap.size, 2, none⟩ = some (.int .i64 r.ttl) ∧ w'.cell? ⟨w.heap.size, 3, none⟩ = some (.int .i64 r.ad) ∧ w'.cell? ⟨w.heap.size, 4, none⟩ = some (.string r.tg) ∧ w'.cell? ⟨w.heap.size, 5, none⟩ = some (.string r.tx) ∧ w'.cell? ⟨w.heap.size, 6, none⟩ = some (.int .i64 r.se))) := fun w' h => ⟨h.cell 0, h.cell 1, h.cell 2, h.cell 3, h.cell 4, h.cell 5, h.cell 6⟩
  obtain ⟨n, ty, ttl, ad, tg, tx, se⟩ := r
  simp only at ht
  subst ht
  simp only [rv] at *
  clear hm hp hn hg hl hks hk eN ek g1 g2 g3 
  go_enter Tryz.func48, Tryz.ntmps48
  go_wp2_with fail
  refine (HM.out _).mono ?_; rintro e w1 ⟨rfl, hb1⟩
  have X1 : Hid (Boxed w1 w.heap.size ⟨n, 16, ttl, ad, tg, tx, se⟩) := BX.out.below hb1
  have B1 : Hid (Below w.heap.size w w1) := bel_trans ((Below.refl _ _).alloc (Nat.le_refl _) _) hb1
  clear hb1 BX
  obtain ⟨c0, c1, c2, c3, c4, c5, c6⟩ := hcl.out _ X1.out
  go_wp2_with fail
  refine (HN.out _ B1.out).mono ?_; rintro e w2 ⟨⟨v2, rfl, k2⟩, hb2⟩
  have X2 : Hid (Boxed w2 w.heap.size ⟨n, 16, ttl, ad, tg, tx, se⟩) := X1.out.below hb2
  have B2 : Hid (Below w.heap.size w w2) := bel_trans B1.out hb2
  have K2 : Hid (Knowns w2 w.heap.size v2 k0) := k2.base B1.out.size
  clear hb2 c0 c1 c2 c3 c4 c5 c6 k2 X1 B1 HM HN
  obtain ⟨c0, c1, c2, c3, c4, c5, c6⟩ := hcl.out _ X2.out
  go_wp2_with fail
  have y1 := nb_size tx.size 1
  have y2 : ¬ 9223372036854775807 < (nb tx.size 1).size + tx.size := by omega
  have hDs : D.size ≤ 65 := by rw [← eD0, ByteArray.size_append]; omega
  have Q0 : Hid (0 ≤ (tx.size : Int) ∧ (tx.size : Int) ≤ 4294967295 ∧ ((1 : Int) = 1 ∨ (1 : Int) = 2 ∨ (1 : Int) = 4)) := by show _ ∧ _; omega
  clear y1
  go_region_held3 (fun w' => w'.cell? ⟨w.heap.size, 5, none⟩ = some (.string tx) ∧ Boxed w' w.heap.size ⟨n, 16, ttl, ad, tg, tx, se⟩ ∧ Below w2.heap.size w2 w')
    (first | exact ⟨c5, X2.out.below (below_drewN (Below.refl w2.heap.size _) 1), below_drewN (Below.refl w2.heap.size _) 1⟩ | exact ⟨sX.cell 5, sX, sB⟩)
    (first | (go_at_call 46; refine (refNb _ _ _ Q0.out).mono ?_; rintro e wN ⟨rfl, hbN⟩; obtain ⟨_, tX, tB⟩ := ‹_ ∧ Boxed _ w.heap.size _ ∧ Below w2.heap.size w2 _›; have sX := tX.below hbN; have sB := bel_trans tB hbN; clear tX tB hbN))
  rename World => w3
  obtain ⟨_, tX, tB⟩ := ‹_ ∧ Boxed _ w.heap.size _ ∧ Below w2.heap.size w2 _›
  have X3 : Hid (Boxed w3 w.heap.size ⟨n, 16, ttl, ad, tg, tx, se⟩) := tX
  have B3 : Hid (Below w.heap.size w w3) := bel_trans B2.out tB
  have K3 : Hid (Knowns w3 w.heap.size v2 k0) := K2.out.below tB
  clear tX tB c0 c1 c2 c3 c4 c5 c6 y2 X2 B2 K2
  obtain ⟨c0, c1, c2, c3, c4, c5, c6⟩ := hcl.out _ X3.out
  go_wp2_with fail
  clear eD0
  have z1 := nb_size 16 2
  have z2 := nb_size 1 2
  have z3 := nb_size ttl 4
  have z4 := nb_size D.size 2
  have p1 : ¬ 9223372036854775807 < N.size + (nb 16 2).size := by omega
  have p2 : ¬ 9223372036854775807 < N.size + (nb 16 2).size + (nb 1 2).size := by omega
  have p3 : ¬ 9223372036854775807 < N.size + (nb 16 2).size + (nb 1 2).size + (nb ttl 4).size := by omega
  have p4 : ¬ 9223372036854775807 < N.size + (nb 16 2).size + (nb 1 2).size + (nb ttl 4).size + (nb D.size 2).size := by omega
  have p5 : ¬ 9223372036854775807 < N.size + (nb 16 2).size + (nb 1 2).size + (nb ttl 4).size + (nb D.size 2).size + D.size := by omega
  have Q3 : Hid (0 ≤ ttl ∧ ttl ≤ 4294967295 ∧ ((4 : Int) = 1 ∨ (4 : Int) = 2 ∨ (4 : Int) = 4)) := by show _ ∧ _; omega
  have Q4 : Hid (0 ≤ (D.size : Int) ∧ (D.size : Int) ≤ 4294967295 ∧ ((2 : Int) = 1 ∨ (2 : Int) = 2 ∨ (2 : Int) = 4)) := by show _ ∧ _; omega
  clear z1 z2 z3 z4
  go_region_held3 (fun w' => w'.cell? ⟨w.heap.size, 1, none⟩ = some (.int .i64 16) ∧ w'.cell? ⟨w.heap.size, 2, none⟩ = some (.int .i64 ttl) ∧ Boxed w' w.heap.size ⟨n, 16, ttl, ad, tg, tx, se⟩ ∧ Below w3.heap.size w3 w')
    (first | exact ⟨c1, c2, X3.out.below (below_drewN (Below.refl w3.heap.size _) 1), below_drewN (Below.refl w3.heap.size _) 1⟩ | exact ⟨sX.cell 1, sX.cell 2, sX, sB⟩)
    (first | (go_at_call 46; refine (refNb _ _ _ (by first | exact Q3.out | exact Q4.out | omega)).mono ?_; rintro e wN ⟨rfl, hbN⟩; obtain ⟨_, _, tX, tB⟩ := ‹_ ∧ _ ∧ Boxed _ w.heap.size _ ∧ Below w3.heap.size w3 _›; have sX := tX.below hbN; have sB := bel_trans tB hbN; clear tX tB hbN))
  obtain ⟨_, _, tX, tB⟩ := ‹_ ∧ _ ∧ Boxed _ w.heap.size _ ∧ Below w3.heap.size w3 _›
  go_wp2
  go_ret3
  exact ⟨⟨_, rfl, K3.out.below tB⟩, bel_trans B3.out tB⟩

set_option maxHeartbeats 2000000 in
theorem refPut_1 (at_ : Int) (a : Option Addr) (cap : Nat) (ks : List Kn) (r : Rec) (w : World) (N : ByteArray) (k0 : List Kn) (eN : mk (putS ks (labsL (bs r.n))) = N) (ek : ks ++ putN ks at_ (labsL (bs r.n)) = k0) (hm : mayR r = true) (hp : mayPutL at_ ks (bs r.n) = true) (hn : r.n.size ≤ 1048576) (hg : r.tg.size ≤ 1048576) (hl : ks.length ≤ 1048500) (hks : ∀ k ∈ ks, k.1.length ≤ 1048576) (hk : KnLies w a ks) (ht : r.ty = 1) (D : ByteArray) (eD0 : nb r.ad 4 = D) :
    Calls Tryz.prog 48 #[.int .i64 at_, .slice a ks.length cap, rv r] w fun e w' => (∃ v, e = .returned (.tuple #[.string (N ++ nb r.ty 2 ++ nb 1 2 ++ nb r.ttl 4 ++ nb D.size 2 ++ D), v, .int .i64 0]) ∧ Knowns w' w.heap.size v k0) ∧ Below w.heap.size w w' := by
  have HM : Hid (∀ w, _) := fun w => refMay_c r w hn hg
  rw [hm] at HM
  have HN : Hid (∀ w', Below w.heap.size w w' → _) := fun w' hb => rput_c at_ a cap ks r.n w' hn (by omega) hks (hk.below hb) hp
  rw [eN, ek] at HN
  obtain ⟨g1, g2, g3⟩ := put_is eN ek hks
  obtain ⟨a0, a1, _, _⟩ := may_put hp
  obtain ⟨_, _, u1, u2, u3, u4, u5, u6, u7⟩ := may_nums hm
  have gN : (N.size : Int) ≤ 100 := by omega
  have gk : Hid (k0.length ≤ 1048508) := by show k0.length ≤ 1048508; omega
  have gm : Hid (∀ k ∈ k0, k.1.length ≤ 1048576) := g3
  have gg : Hid (r.tg.size ≤ 1048576) := hg
  have BX : Hid (Boxed (w.alloc (.cells #[.string r.n, .int .i64 r.ty, .int .i64 r.ttl, .int .i64 r.ad, .string r.tg, .string r.tx, .int .i64 r.se] 82)) w.heap.size r) := Boxed.new w r
  have hcl : Hid (∀ (w' : World), Boxed w' w.heap.size r → (w'.cell? ⟨w.heap.size, 0, none⟩ = some (.string r.n) ∧ w'.cell? ⟨w.heap.size, 1, none⟩ = some (.int .i64 r.ty) ∧ w'.cell? ⟨w.heap.size, 2, none⟩ = some (.int .i64 r.ttl) ∧ w'.cell? ⟨w.heap.size, 3, none⟩ = some (.int .i64 r.ad) ∧ w'.cell? ⟨w.heap.size, 4, none⟩ = some (.string r.tg) ∧ w'.cell? ⟨w.heap.size, 5, none⟩ = some (.string r.tx) ∧ w'.cell? ⟨w.heap.size, 6, none⟩ = some (.int .i64 r.se))) := fun w' h => ⟨h.cell 0, h.cell 1, h.cell 2, h.cell 3, h.cell 4, h.cell 5, h.cell 6⟩
  obtain ⟨n, ty, ttl, ad, tg, tx, se⟩ := r
  simp only at ht
  subst ht
  simp only [rv] at *
  clear hm hp hn hg hl hks hk eN ek g1 g2 g3 
  go_enter Tryz.func48, Tryz.ntmps48
  go_wp2_with fail
  refine (HM.out _).mono ?_; rintro e w1 ⟨rfl, hb1⟩
  have X1 : Hid (Boxed w1 w.heap.size ⟨n, 1, ttl, ad, tg, tx, se⟩) := BX.out.below hb1
  have B1 : Hid (Below w.heap.size w w1) := bel_trans ((Below.refl _ _).alloc (Nat.le_refl _) _) hb1
  clear hb1 BX
  obtain ⟨c0, c1, c2, c3, c4, c5, c6⟩ := hcl.out _ X1.out
  go_wp2_with fail
  refine (HN.out _ B1.out).mono ?_; rintro e w2 ⟨⟨v2, rfl, k2⟩, hb2⟩
  have X2 : Hid (Boxed w2 w.heap.size ⟨n, 1, ttl, ad, tg, tx, se⟩) := X1.out.below hb2
  have B2 : Hid (Below w.heap.size w w2) := bel_trans B1.out hb2
  have K2 : Hid (Knowns w2 w.heap.size v2 k0) := k2.base B1.out.size
  clear hb2 c0 c1 c2 c3 c4 c5 c6 k2 X1 B1 HM HN
  obtain ⟨c0, c1, c2, c3, c4, c5, c6⟩ := hcl.out _ X2.out
  go_wp2_with fail
  refine (refNb _ _ _ (by omega)).mono ?_; rintro e w3 ⟨rfl, hb3⟩
  have X3 : Hid (Boxed w3 w.heap.size ⟨n, 1, ttl, ad, tg, tx, se⟩) := X2.out.below hb3
  have B3 : Hid (Below w.heap.size w w3) := bel_trans B2.out hb3
  have K3 : Hid (Knowns w3 w.heap.size v2 k0) := K2.out.below hb3
  clear hb3 c0 c1 c2 c3 c4 c5 c6 X2 B2 K2
  obtain ⟨c0, c1, c2, c3, c4, c5, c6⟩ := hcl.out _ X3.out
  have hDs : D.size ≤ 65 := by rw [← eD0, nb_size]; decide
  go_wp2_with fail
  clear eD0
  have z1 := nb_size 1 2
  have z2 := nb_size 1 2
  have z3 := nb_size ttl 4
  have z4 := nb_size D.size 2
  have p1 : ¬ 9223372036854775807 < N.size + (nb 1 2).size := by omega
  have p2 : ¬ 9223372036854775807 < N.size + (nb 1 2).size + (nb 1 2).size := by omega
  have p3 : ¬ 9223372036854775807 < N.size + (nb 1 2).size + (nb 1 2).size + (nb ttl 4).size := by omega
  have p4 : ¬ 9223372036854775807 < N.size + (nb 1 2).size + (nb 1 2).size + (nb ttl 4).size + (nb D.size 2).size := by omega
  have p5 : ¬ 9223372036854775807 < N.size + (nb 1 2).size + (nb 1 2).size + (nb ttl 4).size + (nb D.size 2).size + D.size := by omega
  have Q3 : Hid (0 ≤ ttl ∧ ttl ≤ 4294967295 ∧ ((4 : Int) = 1 ∨ (4 : Int) = 2 ∨ (4 : Int) = 4)) := by show _ ∧ _; omega
  have Q4 : Hid (0 ≤ (D.size : Int) ∧ (D.size : Int) ≤ 4294967295 ∧ ((2 : Int) = 1 ∨ (2 : Int) = 2 ∨ (2 : Int) = 4)) := by show _ ∧ _; omega
  clear z1 z2 z3 z4
  go_region_held3 (fun w' => w'.cell? ⟨w.heap.size, 1, none⟩ = some (.int .i64 1) ∧ w'.cell? ⟨w.heap.size, 2, none⟩ = some (.int .i64 ttl) ∧ Boxed w' w.heap.size ⟨n, 1, ttl, ad, tg, tx, se⟩ ∧ Below w3.heap.size w3 w')
    (first | exact ⟨c1, c2, X3.out.below (below_drewN (Below.refl w3.heap.size _) 1), below_drewN (Below.refl w3.heap.size _) 1⟩ | exact ⟨sX.cell 1, sX.cell 2, sX, sB⟩)
    (first | (go_at_call 46; refine (refNb _ _ _ (by first | exact Q3.out | exact Q4.out | omega)).mono ?_; rintro e wN ⟨rfl, hbN⟩; obtain ⟨_, _, tX, tB⟩ := ‹_ ∧ _ ∧ Boxed _ w.heap.size _ ∧ Below w3.heap.size w3 _›; have sX := tX.below hbN; have sB := bel_trans tB hbN; clear tX tB hbN))
  obtain ⟨_, _, tX, tB⟩ := ‹_ ∧ _ ∧ Boxed _ w.heap.size _ ∧ Below w3.heap.size w3 _›
  go_wp2
  go_ret3
  exact ⟨⟨_, rfl, K3.out.below tB⟩, bel_trans B3.out tB⟩

set_option maxHeartbeats 2000000 in
theorem refPut_2 (at_ : Int) (a : Option Addr) (cap : Nat) (ks : List Kn) (r : Rec) (w : World) (N : ByteArray) (k0 : List Kn) (eN : mk (putS ks (labsL (bs r.n))) = N) (ek : ks ++ putN ks at_ (labsL (bs r.n)) = k0) (hm : mayR r = true) (hp : mayPutL at_ ks (bs r.n) = true) (hn : r.n.size ≤ 1048576) (hg : r.tg.size ≤ 1048576) (hl : ks.length ≤ 1048500) (hks : ∀ k ∈ ks, k.1.length ≤ 1048576) (hk : KnLies w a ks) (ht : r.ty = 2) (D : ByteArray) (k1 : List Kn) (eD : mk (putS k0 (labsL (bs r.tg))) = D) (ek1 : k0 ++ putN k0 (at_ + N.size + 10) (labsL (bs r.tg)) = k1) (hd : mayPutL (at_ + N.size + 10) k0 (bs r.tg) = true) :
    Calls Tryz.prog 48 #[.int .i64 at_, .slice a ks.length cap, rv r] w fun e w' => (∃ v, e = .returned (.tuple #[.string (N ++ nb r.ty 2 ++ nb 1 2 ++ nb r.ttl 4 ++ nb D.size 2 ++ D), v, .int .i64 0]) ∧ Knowns w' w.heap.size v k1) ∧ Below w.heap.size w w' := by
  have HM : Hid (∀ w, _) := fun w => refMay_c r w hn hg
  rw [hm] at HM
  have HN : Hid (∀ w', Below w.heap.size w w' → _) := fun w' hb => rput_c at_ a cap ks r.n w' hn (by omega) hks (hk.below hb) hp
  rw [eN, ek] at HN
  obtain ⟨g1, g2, g3⟩ := put_is eN ek hks
  obtain ⟨a0, a1, _, _⟩ := may_put hp
  obtain ⟨_, _, u1, u2, u3, u4, u5, u6, u7⟩ := may_nums hm
  have gN : (N.size : Int) ≤ 100 := by omega
  have gk : Hid (k0.length ≤ 1048508) := by show k0.length ≤ 1048508; omega
  have gm : Hid (∀ k ∈ k0, k.1.length ≤ 1048576) := g3
  have gg : Hid (r.tg.size ≤ 1048576) := hg
  have HT : Hid (∀ a cap w', KnLies w' a k0 → _) := fun a cap w' h => rput_c (at_ + N.size + 10) a cap k0 r.tg w' hg (by omega) g3 h hd
  rw [eD, ek1] at HT
  obtain ⟨d1, d2, d3⟩ := put_is eD ek1 g3
  have gl : Hid (k1.length ≤ 1048516) := by show k1.length ≤ 1048516; omega
  have gq : Hid (∀ k ∈ k1, k.1.length ≤ 1048576) := d3
  have gD : (D.size : Int) ≤ 100 := by omega
  have BX : Hid (Boxed (w.alloc (.cells #[.string r.n, .int .i64 r.ty, .int .i64 r.ttl, .int .i64 r.ad, .string r.tg, .string r.tx, .int .i64 r.se] 82)) w.heap.size r) := Boxed.new w r
  have hcl : Hid (∀ (w' : World), Boxed w' w.heap.size r → (w'.cell? ⟨w.heap.size, 0, none⟩ = some (.string r.n) ∧ w'.cell? ⟨w.heap.size, 1, none⟩ = some (.int .i64 r.ty) ∧ w'.cell? ⟨w.heap.size, 2, none⟩ = some (.int .i64 r.ttl) ∧ w'.cell? ⟨w.heap.size, 3, none⟩ = some (.int .i64 r.ad) ∧ w'.cell? ⟨w.heap.size, 4, none⟩ = some (.string r.tg) ∧ w'.cell? ⟨w.heap.size, 5, none⟩ = some (.string r.tx) ∧ w'.cell? ⟨w.heap.size, 6, none⟩ = some (.int .i64 r.se))) := fun w' h => ⟨h.cell 0, h.cell 1, h.cell 2, h.cell 3, h.cell 4, h.cell 5, h.cell 6⟩
  obtain ⟨n, ty, ttl, ad, tg, tx, se⟩ := r
  simp only at ht
  subst ht
  simp only [rv] at *
  clear hm hp hn hg hl hks hk eN ek g1 g2 g3 hd eD ek1 d1 d2 d3
  go_enter Tryz.func48, Tryz.ntmps48
  go_wp2_with fail
  refine (HM.out _).mono ?_; rintro e w1 ⟨rfl, hb1⟩
  have X1 : Hid (Boxed w1 w.heap.size ⟨n, 2, ttl, ad, tg, tx, se⟩) := BX.out.below hb1
  have B1 : Hid (Below w.heap.size w w1) := bel_trans ((Below.refl _ _).alloc (Nat.le_refl _) _) hb1
  clear hb1 BX
  obtain ⟨c0, c1, c2, c3, c4, c5, c6⟩ := hcl.out _ X1.out
  go_wp2_with fail
  refine (HN.out _ B1.out).mono ?_; rintro e w2 ⟨⟨v2, rfl, k2⟩, hb2⟩
  have X2 : Hid (Boxed w2 w.heap.size ⟨n, 2, ttl, ad, tg, tx, se⟩) := X1.out.below hb2
  have B2 : Hid (Below w.heap.size w w2) := bel_trans B1.out hb2
  have K2 : Hid (Knowns w2 w.heap.size v2 k0) := k2.base B1.out.size
  clear hb2 c0 c1 c2 c3 c4 c5 c6 k2 X1 B1 HM HN
  obtain ⟨c0, c1, c2, c3, c4, c5, c6⟩ := hcl.out _ X2.out
  obtain ⟨a2, q2, rfl, l2⟩ := K2.out.lies
  have L2 : Hid (KnLies w2 a2 k0) := l2
  clear l2
  go_wp2_with fail
  refine (HT.out _ _ _ L2.out).mono ?_; rintro e w3 ⟨⟨v3, rfl, k3⟩, hb3⟩
  have X3 : Hid (Boxed w3 w.heap.size ⟨n, 2, ttl, ad, tg, tx, se⟩) := X2.out.below hb3
  have B3 : Hid (Below w.heap.size w w3) := bel_trans B2.out hb3
  have K3 : Hid (Knowns w3 w.heap.size v3 k1) := k3.base B2.out.size
  clear hb3 k3 c0 c1 c2 c3 c4 c5 c6 X2 B2 K2 L2 HT
  obtain ⟨c0, c1, c2, c3, c4, c5, c6⟩ := hcl.out _ X3.out
  go_wp2_with fail
  have z1 := nb_size 2 2
  have z2 := nb_size 1 2
  have z3 := nb_size ttl 4
  have z4 := nb_size D.size 2
  have p1 : ¬ 9223372036854775807 < N.size + (nb 2 2).size := by omega
  have p2 : ¬ 9223372036854775807 < N.size + (nb 2 2).size + (nb 1 2).size := by omega
  have p3 : ¬ 9223372036854775807 < N.size + (nb 2 2).size + (nb 1 2).size + (nb ttl 4).size := by omega
  have p4 : ¬ 9223372036854775807 < N.size + (nb 2 2).size + (nb 1 2).size + (nb ttl 4).size + (nb D.size 2).size := by omega
  have p5 : ¬ 9223372036854775807 < N.size + (nb 2 2).size + (nb 1 2).size + (nb ttl 4).size + (nb D.size 2).size + D.size := by omega
  have Q3 : Hid (0 ≤ ttl ∧ ttl ≤ 4294967295 ∧ ((4 : Int) = 1 ∨ (4 : Int) = 2 ∨ (4 : Int) = 4)) := by show _ ∧ _; omega
  have Q4 : Hid (0 ≤ (D.size : Int) ∧ (D.size : Int) ≤ 4294967295 ∧ ((2 : Int) = 1 ∨ (2 : Int) = 2 ∨ (2 : Int) = 4)) := by show _ ∧ _; omega
  clear z1 z2 z3 z4
  go_region_held3 (fun w' => w'.cell? ⟨w.heap.size, 1, none⟩ = some (.int .i64 2) ∧ w'.cell? ⟨w.heap.size, 2, none⟩ = some (.int .i64 ttl) ∧ Boxed w' w.heap.size ⟨n, 2, ttl, ad, tg, tx, se⟩ ∧ Below w3.heap.size w3 w')
    (first | exact ⟨c1, c2, X3.out.below (below_drewN (Below.refl w3.heap.size _) 1), below_drewN (Below.refl w3.heap.size _) 1⟩ | exact ⟨sX.cell 1, sX.cell 2, sX, sB⟩)
    (first | (go_at_call 46; refine (refNb _ _ _ (by first | exact Q3.out | exact Q4.out | omega)).mono ?_; rintro e wN ⟨rfl, hbN⟩; obtain ⟨_, _, tX, tB⟩ := ‹_ ∧ _ ∧ Boxed _ w.heap.size _ ∧ Below w3.heap.size w3 _›; have sX := tX.below hbN; have sB := bel_trans tB hbN; clear tX tB hbN))
  obtain ⟨_, _, tX, tB⟩ := ‹_ ∧ _ ∧ Boxed _ w.heap.size _ ∧ Below w3.heap.size w3 _›
  go_wp2
  go_ret3
  exact ⟨⟨_, rfl, K3.out.below tB⟩, bel_trans B3.out tB⟩

set_option maxHeartbeats 2000000 in
theorem refPut_5 (at_ : Int) (a : Option Addr) (cap : Nat) (ks : List Kn) (r : Rec) (w : World) (N : ByteArray) (k0 : List Kn) (eN : mk (putS ks (labsL (bs r.n))) = N) (ek : ks ++ putN ks at_ (labsL (bs r.n)) = k0) (hm : mayR r = true) (hp : mayPutL at_ ks (bs r.n) = true) (hn : r.n.size ≤ 1048576) (hg : r.tg.size ≤ 1048576) (hl : ks.length ≤ 1048500) (hks : ∀ k ∈ ks, k.1.length ≤ 1048576) (hk : KnLies w a ks) (ht : r.ty = 5) (D : ByteArray) (k1 : List Kn) (eD : mk (putS k0 (labsL (bs r.tg))) = D) (ek1 : k0 ++ putN k0 (at_ + N.size + 10) (labsL (bs r.tg)) = k1) (hd : mayPutL (at_ + N.size + 10) k0 (bs r.tg) = true) :
    Calls Tryz.prog 48 #[.int .i64 at_, .slice a ks.length cap, rv r] w fun e w' => (∃ v, e = .returned (.tuple #[.string (N ++ nb r.ty 2 ++ nb 1 2 ++ nb r.ttl 4 ++ nb D.size 2 ++ D), v, .int .i64 0]) ∧ Knowns w' w.heap.size v k1) ∧ Below w.heap.size w w' := by
  have HM : Hid (∀ w, _) := fun w => refMay_c r w hn hg
  rw [hm] at HM
  have HN : Hid (∀ w', Below w.heap.size w w' → _) := fun w' hb => rput_c at_ a cap ks r.n w' hn (by omega) hks (hk.below hb) hp
  rw [eN, ek] at HN
  obtain ⟨g1, g2, g3⟩ := put_is eN ek hks
  obtain ⟨a0, a1, _, _⟩ := may_put hp
  obtain ⟨_, _, u1, u2, u3, u4, u5, u6, u7⟩ := may_nums hm
  have gN : (N.size : Int) ≤ 100 := by omega
  have gk : Hid (k0.length ≤ 1048508) := by show k0.length ≤ 1048508; omega
  have gm : Hid (∀ k ∈ k0, k.1.length ≤ 1048576) := g3
  have gg : Hid (r.tg.size ≤ 1048576) := hg
  have HT : Hid (∀ a cap w', KnLies w' a k0 → _) := fun a cap w' h => rput_c (at_ + N.size + 10) a cap k0 r.tg w' hg (by omega) g3 h hd
  rw [eD, ek1] at HT
  obtain ⟨d1, d2, d3⟩ := put_is eD ek1 g3
  have gl : Hid (k1.length ≤ 1048516) := by show k1.length ≤ 1048516; omega
  have gq : Hid (∀ k ∈ k1, k.1.length ≤ 1048576) := d3
  have gD : (D.size : Int) ≤ 100 := by omega
  have BX : Hid (Boxed (w.alloc (.cells #[.string r.n, .int .i64 r.ty, .int .i64 r.ttl, .int .i64 r.ad, .string r.tg, .string r.tx, .int .i64 r.se] 82)) w.heap.size r) := Boxed.new w r
  have hcl : Hid (∀ (w' : World), Boxed w' w.heap.size r → (w'.cell? ⟨w.heap.size, 0, none⟩ = some (.string r.n) ∧ w'.cell? ⟨w.heap.size, 1, none⟩ = some (.int .i64 r.ty) ∧ w'.cell? ⟨w.heap.size, 2, none⟩ = some (.int .i64 r.ttl) ∧ w'.cell? ⟨w.heap.size, 3, none⟩ = some (.int .i64 r.ad) ∧ w'.cell? ⟨w.heap.size, 4, none⟩ = some (.string r.tg) ∧ w'.cell? ⟨w.heap.size, 5, none⟩ = some (.string r.tx) ∧ w'.cell? ⟨w.heap.size, 6, none⟩ = some (.int .i64 r.se))) := fun w' h => ⟨h.cell 0, h.cell 1, h.cell 2, h.cell 3, h.cell 4, h.cell 5, h.cell 6⟩
  obtain ⟨n, ty, ttl, ad, tg, tx, se⟩ := r
  simp only at ht
  subst ht
  simp only [rv] at *
  clear hm hp hn hg hl hks hk eN ek g1 g2 g3 hd eD ek1 d1 d2 d3
  go_enter Tryz.func48, Tryz.ntmps48
  go_wp2_with fail
  refine (HM.out _).mono ?_; rintro e w1 ⟨rfl, hb1⟩
  have X1 : Hid (Boxed w1 w.heap.size ⟨n, 5, ttl, ad, tg, tx, se⟩) := BX.out.below hb1
  have B1 : Hid (Below w.heap.size w w1) := bel_trans ((Below.refl _ _).alloc (Nat.le_refl _) _) hb1
  clear hb1 BX
  obtain ⟨c0, c1, c2, c3, c4, c5, c6⟩ := hcl.out _ X1.out
  go_wp2_with fail
  refine (HN.out _ B1.out).mono ?_; rintro e w2 ⟨⟨v2, rfl, k2⟩, hb2⟩
  have X2 : Hid (Boxed w2 w.heap.size ⟨n, 5, ttl, ad, tg, tx, se⟩) := X1.out.below hb2
  have B2 : Hid (Below w.heap.size w w2) := bel_trans B1.out hb2
  have K2 : Hid (Knowns w2 w.heap.size v2 k0) := k2.base B1.out.size
  clear hb2 c0 c1 c2 c3 c4 c5 c6 k2 X1 B1 HM HN
  obtain ⟨c0, c1, c2, c3, c4, c5, c6⟩ := hcl.out _ X2.out
  obtain ⟨a2, q2, rfl, l2⟩ := K2.out.lies
  have L2 : Hid (KnLies w2 a2 k0) := l2
  clear l2
  go_wp2_with fail
  refine (HT.out _ _ _ L2.out).mono ?_; rintro e w3 ⟨⟨v3, rfl, k3⟩, hb3⟩
  have X3 : Hid (Boxed w3 w.heap.size ⟨n, 5, ttl, ad, tg, tx, se⟩) := X2.out.below hb3
  have B3 : Hid (Below w.heap.size w w3) := bel_trans B2.out hb3
  have K3 : Hid (Knowns w3 w.heap.size v3 k1) := k3.base B2.out.size
  clear hb3 k3 c0 c1 c2 c3 c4 c5 c6 X2 B2 K2 L2 HT
  obtain ⟨c0, c1, c2, c3, c4, c5, c6⟩ := hcl.out _ X3.out
  go_wp2_with fail
  have z1 := nb_size 5 2
  have z2 := nb_size 1 2
  have z3 := nb_size ttl 4
  have z4 := nb_size D.size 2
  have p1 : ¬ 9223372036854775807 < N.size + (nb 5 2).size := by omega
  have p2 : ¬ 9223372036854775807 < N.size + (nb 5 2).size + (nb 1 2).size := by omega
  have p3 : ¬ 9223372036854775807 < N.size + (nb 5 2).size + (nb 1 2).size + (nb ttl 4).size := by omega
  have p4 : ¬ 9223372036854775807 < N.size + (nb 5 2).size + (nb 1 2).size + (nb ttl 4).size + (nb D.size 2).size := by omega
  have p5 : ¬ 9223372036854775807 < N.size + (nb 5 2).size + (nb 1 2).size + (nb ttl 4).size + (nb D.size 2).size + D.size := by omega
  have Q3 : Hid (0 ≤ ttl ∧ ttl ≤ 4294967295 ∧ ((4 : Int) = 1 ∨ (4 : Int) = 2 ∨ (4 : Int) = 4)) := by show _ ∧ _; omega
  have Q4 : Hid (0 ≤ (D.size : Int) ∧ (D.size : Int) ≤ 4294967295 ∧ ((2 : Int) = 1 ∨ (2 : Int) = 2 ∨ (2 : Int) = 4)) := by show _ ∧ _; omega
  clear z1 z2 z3 z4
  go_region_held3 (fun w' => w'.cell? ⟨w.heap.size, 1, none⟩ = some (.int .i64 5) ∧ w'.cell? ⟨w.heap.size, 2, none⟩ = some (.int .i64 ttl) ∧ Boxed w' w.heap.size ⟨n, 5, ttl, ad, tg, tx, se⟩ ∧ Below w3.heap.size w3 w')
    (first | exact ⟨c1, c2, X3.out.below (below_drewN (Below.refl w3.heap.size _) 1), below_drewN (Below.refl w3.heap.size _) 1⟩ | exact ⟨sX.cell 1, sX.cell 2, sX, sB⟩)
    (first | (go_at_call 46; refine (refNb _ _ _ (by first | exact Q3.out | exact Q4.out | omega)).mono ?_; rintro e wN ⟨rfl, hbN⟩; obtain ⟨_, _, tX, tB⟩ := ‹_ ∧ _ ∧ Boxed _ w.heap.size _ ∧ Below w3.heap.size w3 _›; have sX := tX.below hbN; have sB := bel_trans tB hbN; clear tX tB hbN))
  obtain ⟨_, _, tX, tB⟩ := ‹_ ∧ _ ∧ Boxed _ w.heap.size _ ∧ Below w3.heap.size w3 _›
  go_wp2
  go_ret3
  exact ⟨⟨_, rfl, K3.out.below tB⟩, bel_trans B3.out tB⟩

set_option maxHeartbeats 2000000 in
theorem refPut_12 (at_ : Int) (a : Option Addr) (cap : Nat) (ks : List Kn) (r : Rec) (w : World) (N : ByteArray) (k0 : List Kn) (eN : mk (putS ks (labsL (bs r.n))) = N) (ek : ks ++ putN ks at_ (labsL (bs r.n)) = k0) (hm : mayR r = true) (hp : mayPutL at_ ks (bs r.n) = true) (hn : r.n.size ≤ 1048576) (hg : r.tg.size ≤ 1048576) (hl : ks.length ≤ 1048500) (hks : ∀ k ∈ ks, k.1.length ≤ 1048576) (hk : KnLies w a ks) (ht : r.ty = 12) (D : ByteArray) (k1 : List Kn) (eD : mk (putS k0 (labsL (bs r.tg))) = D) (ek1 : k0 ++ putN k0 (at_ + N.size + 10) (labsL (bs r.tg)) = k1) (hd : mayPutL (at_ + N.size + 10) k0 (bs r.tg) = true) :
    Calls Tryz.prog 48 #[.int .i64 at_, .slice a ks.length cap, rv r] w fun e w' => (∃ v, e = .returned (.tuple #[.string (N ++ nb r.ty 2 ++ nb 1 2 ++ nb r.ttl 4 ++ nb D.size 2 ++ D), v, .int .i64 0]) ∧ Knowns w' w.heap.size v k1) ∧ Below w.heap.size w w' := by
  have HM : Hid (∀ w, _) := fun w => refMay_c r w hn hg
  rw [hm] at HM
  have HN : Hid (∀ w', Below w.heap.size w w' → _) := fun w' hb => rput_c at_ a cap ks r.n w' hn (by omega) hks (hk.below hb) hp
  rw [eN, ek] at HN
  obtain ⟨g1, g2, g3⟩ := put_is eN ek hks
  obtain ⟨a0, a1, _, _⟩ := may_put hp
  obtain ⟨_, _, u1, u2, u3, u4, u5, u6, u7⟩ := may_nums hm
  have gN : (N.size : Int) ≤ 100 := by omega
  have gk : Hid (k0.length ≤ 1048508) := by show k0.length ≤ 1048508; omega
  have gm : Hid (∀ k ∈ k0, k.1.length ≤ 1048576) := g3
  have gg : Hid (r.tg.size ≤ 1048576) := hg
  have HT : Hid (∀ a cap w', KnLies w' a k0 → _) := fun a cap w' h => rput_c (at_ + N.size + 10) a cap k0 r.tg w' hg (by omega) g3 h hd
  rw [eD, ek1] at HT
  obtain ⟨d1, d2, d3⟩ := put_is eD ek1 g3
  have gl : Hid (k1.length ≤ 1048516) := by show k1.length ≤ 1048516; omega
  have gq : Hid (∀ k ∈ k1, k.1.length ≤ 1048576) := d3
  have gD : (D.size : Int) ≤ 100 := by omega
  have BX : Hid (Boxed (w.alloc (.cells #[.string r.n, .int .i64 r.ty, .int .i64 r.ttl, .int .i64 r.ad, .string r.tg, .string r.tx, .int .i64 r.se] 82)) w.heap.size r) := Boxed.new w r
  have hcl : Hid (∀ (w' : World), Boxed w' w.heap.size r → (w'.cell? ⟨w.heap.size, 0, none⟩ = some (.string r.n) ∧ w'.cell? ⟨w.heap.size, 1, none⟩ = some (.int .i64 r.ty) ∧ w'.cell? ⟨w.heap.size, 2, none⟩ = some (.int .i64 r.ttl) ∧ w'.cell? ⟨w.heap.size, 3, none⟩ = some (.int .i64 r.ad) ∧ w'.cell? ⟨w.heap.size, 4, none⟩ = some (.string r.tg) ∧ w'.cell? ⟨w.heap.size, 5, none⟩ = some (.string r.tx) ∧ w'.cell? ⟨w.heap.size, 6, none⟩ = some (.int .i64 r.se))) := fun w' h => ⟨h.cell 0, h.cell 1, h.cell 2, h.cell 3, h.cell 4, h.cell 5, h.cell 6⟩
  obtain ⟨n, ty, ttl, ad, tg, tx, se⟩ := r
  simp only at ht
  subst ht
  simp only [rv] at *
  clear hm hp hn hg hl hks hk eN ek g1 g2 g3 hd eD ek1 d1 d2 d3
  go_enter Tryz.func48, Tryz.ntmps48
  go_wp2_with fail
  refine (HM.out _).mono ?_; rintro e w1 ⟨rfl, hb1⟩
  have X1 : Hid (Boxed w1 w.heap.size ⟨n, 12, ttl, ad, tg, tx, se⟩) := BX.out.below hb1
  have B1 : Hid (Below w.heap.size w w1) := bel_trans ((Below.refl _ _).alloc (Nat.le_refl _) _) hb1
  clear hb1 BX
  obtain ⟨c0, c1, c2, c3, c4, c5, c6⟩ := hcl.out _ X1.out
  go_wp2_with fail
  refine (HN.out _ B1.out).mono ?_; rintro e w2 ⟨⟨v2, rfl, k2⟩, hb2⟩
  have X2 : Hid (Boxed w2 w.heap.size ⟨n, 12, ttl, ad, tg, tx, se⟩) := X1.out.below hb2
  have B2 : Hid (Below w.heap.size w w2) := bel_trans B1.out hb2
  have K2 : Hid (Knowns w2 w.heap.size v2 k0) := k2.base B1.out.size
  clear hb2 c0 c1 c2 c3 c4 c5 c6 k2 X1 B1 HM HN
  obtain ⟨c0, c1, c2, c3, c4, c5, c6⟩ := hcl.out _ X2.out
  obtain ⟨a2, q2, rfl, l2⟩ := K2.out.lies
  have L2 : Hid (KnLies w2 a2 k0) := l2
  clear l2
  go_wp2_with fail
  refine (HT.out _ _ _ L2.out).mono ?_; rintro e w3 ⟨⟨v3, rfl, k3⟩, hb3⟩
  have X3 : Hid (Boxed w3 w.heap.size ⟨n, 12, ttl, ad, tg, tx, se⟩) := X2.out.below hb3
  have B3 : Hid (Below w.heap.size w w3) := bel_trans B2.out hb3
  have K3 : Hid (Knowns w3 w.heap.size v3 k1) := k3.base B2.out.size
  clear hb3 k3 c0 c1 c2 c3 c4 c5 c6 X2 B2 K2 L2 HT
  obtain ⟨c0, c1, c2, c3, c4, c5, c6⟩ := hcl.out _ X3.out
  go_wp2_with fail
  have z1 := nb_size 12 2
  have z2 := nb_size 1 2
  have z3 := nb_size ttl 4
  have z4 := nb_size D.size 2
  have p1 : ¬ 9223372036854775807 < N.size + (nb 12 2).size := by omega
  have p2 : ¬ 9223372036854775807 < N.size + (nb 12 2).size + (nb 1 2).size := by omega
  have p3 : ¬ 9223372036854775807 < N.size + (nb 12 2).size + (nb 1 2).size + (nb ttl 4).size := by omega
  have p4 : ¬ 9223372036854775807 < N.size + (nb 12 2).size + (nb 1 2).size + (nb ttl 4).size + (nb D.size 2).size := by omega
  have p5 : ¬ 9223372036854775807 < N.size + (nb 12 2).size + (nb 1 2).size + (nb ttl 4).size + (nb D.size 2).size + D.size := by omega
  have Q3 : Hid (0 ≤ ttl ∧ ttl ≤ 4294967295 ∧ ((4 : Int) = 1 ∨ (4 : Int) = 2 ∨ (4 : Int) = 4)) := by show _ ∧ _; omega
  have Q4 : Hid (0 ≤ (D.size : Int) ∧ (D.size : Int) ≤ 4294967295 ∧ ((2 : Int) = 1 ∨ (2 : Int) = 2 ∨ (2 : Int) = 4)) := by show _ ∧ _; omega
  clear z1 z2 z3 z4
  go_region_held3 (fun w' => w'.cell? ⟨w.heap.size, 1, none⟩ = some (.int .i64 12) ∧ w'.cell? ⟨w.heap.size, 2, none⟩ = some (.int .i64 ttl) ∧ Boxed w' w.heap.size ⟨n, 12, ttl, ad, tg, tx, se⟩ ∧ Below w3.heap.size w3 w')
    (first | exact ⟨c1, c2, X3.out.below (below_drewN (Below.refl w3.heap.size _) 1), below_drewN (Below.refl w3.heap.size _) 1⟩ | exact ⟨sX.cell 1, sX.cell 2, sX, sB⟩)
    (first | (go_at_call 46; refine (refNb _ _ _ (by first | exact Q3.out | exact Q4.out | omega)).mono ?_; rintro e wN ⟨rfl, hbN⟩; obtain ⟨_, _, tX, tB⟩ := ‹_ ∧ _ ∧ Boxed _ w.heap.size _ ∧ Below w3.heap.size w3 _›; have sX := tX.below hbN; have sB := bel_trans tB hbN; clear tX tB hbN))
  obtain ⟨_, _, tX, tB⟩ := ‹_ ∧ _ ∧ Boxed _ w.heap.size _ ∧ Below w3.heap.size w3 _›
  go_wp2
  go_ret3
  exact ⟨⟨_, rfl, K3.out.below tB⟩, bel_trans B3.out tB⟩

set_option maxHeartbeats 2000000 in
theorem refPut_2_no (at_ : Int) (a : Option Addr) (cap : Nat) (ks : List Kn) (r : Rec) (w : World) (N : ByteArray) (k0 : List Kn) (eN : mk (putS ks (labsL (bs r.n))) = N) (ek : ks ++ putN ks at_ (labsL (bs r.n)) = k0) (hm : mayR r = true) (hp : mayPutL at_ ks (bs r.n) = true) (hn : r.n.size ≤ 1048576) (hg : r.tg.size ≤ 1048576) (hl : ks.length ≤ 1048500) (hks : ∀ k ∈ ks, k.1.length ≤ 1048576) (hk : KnLies w a ks) (ht : r.ty = 2) (hd : mayPutL (at_ + N.size + 10) k0 (bs r.tg) = false) :
    Calls Tryz.prog 48 #[.int .i64 at_, .slice a ks.length cap, rv r] w fun e w' => e = .returned (.tuple #[.string ⟨#[]⟩, .slice none 0 0, .int .i64 400]) ∧ Below w.heap.size w w' := by
  have HM : Hid (∀ w, _) := fun w => refMay_c r w hn hg
  rw [hm] at HM
  have HN : Hid (∀ w', Below w.heap.size w w' → _) := fun w' hb => rput_c at_ a cap ks r.n w' hn (by omega) hks (hk.below hb) hp
  rw [eN, ek] at HN
  obtain ⟨g1, g2, g3⟩ := put_is eN ek hks
  obtain ⟨a0, a1, _, _⟩ := may_put hp
  obtain ⟨_, _, u1, u2, u3, u4, u5, u6, u7⟩ := may_nums hm
  have gN : (N.size : Int) ≤ 100 := by omega
  have gk : Hid (k0.length ≤ 1048508) := by show k0.length ≤ 1048508; omega
  have gm : Hid (∀ k ∈ k0, k.1.length ≤ 1048576) := g3
  have gg : Hid (r.tg.size ≤ 1048576) := hg
  have HT : Hid (∀ a cap w', KnLies w' a k0 → _) := fun a cap w' h => rput_no (at_ + N.size + 10) a cap k0 r.tg w' hg (by omega) g3 h hd
  have BX : Hid (Boxed (w.alloc (.cells #[.string r.n, .int .i64 r.ty, .int .i64 r.ttl, .int .i64 r.ad, .string r.tg, .string r.tx, .int .i64 r.se] 82)) w.heap.size r) := Boxed.new w r
  have hcl : Hid (∀ (w' : World), Boxed w' w.heap.size r → (w'.cell? ⟨w.heap.size, 0, none⟩ = some (.string r.n) ∧ w'.cell? ⟨w.heap.size, 1, none⟩ = some (.int .i64 r.ty) ∧ w'.cell? ⟨w.heap.size, 2, none⟩ = some (.int .i64 r.ttl) ∧ w'.cell? ⟨w.heap.size, 3, none⟩ = some (.int .i64 r.ad) ∧ w'.cell? ⟨w.heap.size, 4, none⟩ = some (.string r.tg) ∧ w'.cell? ⟨w.heap.size, 5, none⟩ = some (.string r.tx) ∧ w'.cell? ⟨w.heap.size, 6, none⟩ = some (.int .i64 r.se))) := fun w' h => ⟨h.cell 0, h.cell 1, h.cell 2, h.cell 3, h.cell 4, h.cell 5, h.cell 6⟩
  obtain ⟨n, ty, ttl, ad, tg, tx, se⟩ := r
  simp only at ht
  subst ht
  simp only [rv] at *
  clear hm hp hn hg hl hks hk eN ek g1 g2 g3 hd
  go_enter Tryz.func48, Tryz.ntmps48
  go_wp2_with fail
  refine (HM.out _).mono ?_; rintro e w1 ⟨rfl, hb1⟩
  have X1 : Hid (Boxed w1 w.heap.size ⟨n, 2, ttl, ad, tg, tx, se⟩) := BX.out.below hb1
  have B1 : Hid (Below w.heap.size w w1) := bel_trans ((Below.refl _ _).alloc (Nat.le_refl _) _) hb1
  clear hb1 BX
  obtain ⟨c0, c1, c2, c3, c4, c5, c6⟩ := hcl.out _ X1.out
  go_wp2_with fail
  refine (HN.out _ B1.out).mono ?_; rintro e w2 ⟨⟨v2, rfl, k2⟩, hb2⟩
  have X2 : Hid (Boxed w2 w.heap.size ⟨n, 2, ttl, ad, tg, tx, se⟩) := X1.out.below hb2
  have B2 : Hid (Below w.heap.size w w2) := bel_trans B1.out hb2
  have K2 : Hid (Knowns w2 w.heap.size v2 k0) := k2.base B1.out.size
  clear hb2 c0 c1 c2 c3 c4 c5 c6 k2 X1 B1 HM HN
  obtain ⟨c0, c1, c2, c3, c4, c5, c6⟩ := hcl.out _ X2.out
  obtain ⟨a2, q2, rfl, l2⟩ := K2.out.lies
  have L2 : Hid (KnLies w2 a2 k0) := l2
  clear l2
  go_wp2_with fail
  refine (HT.out _ _ _ L2.out).mono ?_; rintro e w3 ⟨rfl, hb3⟩
  have B3 : Hid (Below w.heap.size w w3) := bel_trans B2.out hb3
  clear hb3 L2 HT
  go_wp2
  go_ret3
  exact ⟨rfl, B3.out⟩

set_option maxHeartbeats 2000000 in
theorem refPut_5_no (at_ : Int) (a : Option Addr) (cap : Nat) (ks : List Kn) (r : Rec) (w : World) (N : ByteArray) (k0 : List Kn) (eN : mk (putS ks (labsL (bs r.n))) = N) (ek : ks ++ putN ks at_ (labsL (bs r.n)) = k0) (hm : mayR r = true) (hp : mayPutL at_ ks (bs r.n) = true) (hn : r.n.size ≤ 1048576) (hg : r.tg.size ≤ 1048576) (hl : ks.length ≤ 1048500) (hks : ∀ k ∈ ks, k.1.length ≤ 1048576) (hk : KnLies w a ks) (ht : r.ty = 5) (hd : mayPutL (at_ + N.size + 10) k0 (bs r.tg) = false) :
    Calls Tryz.prog 48 #[.int .i64 at_, .slice a ks.length cap, rv r] w fun e w' => e = .returned (.tuple #[.string ⟨#[]⟩, .slice none 0 0, .int .i64 400]) ∧ Below w.heap.size w w' := by
  have HM : Hid (∀ w, _) := fun w => refMay_c r w hn hg
  rw [hm] at HM
  have HN : Hid (∀ w', Below w.heap.size w w' → _) := fun w' hb => rput_c at_ a cap ks r.n w' hn (by omega) hks (hk.below hb) hp
  rw [eN, ek] at HN
  obtain ⟨g1, g2, g3⟩ := put_is eN ek hks
  obtain ⟨a0, a1, _, _⟩ := may_put hp
  obtain ⟨_, _, u1, u2, u3, u4, u5, u6, u7⟩ := may_nums hm
  have gN : (N.size : Int) ≤ 100 := by omega
  have gk : Hid (k0.length ≤ 1048508) := by show k0.length ≤ 1048508; omega
  have gm : Hid (∀ k ∈ k0, k.1.length ≤ 1048576) := g3
  have gg : Hid (r.tg.size ≤ 1048576) := hg
  have HT : Hid (∀ a cap w', KnLies w' a k0 → _) := fun a cap w' h => rput_no (at_ + N.size + 10) a cap k0 r.tg w' hg (by omega) g3 h hd
  have BX : Hid (Boxed (w.alloc (.cells #[.string r.n, .int .i64 r.ty, .int .i64 r.ttl, .int .i64 r.ad, .string r.tg, .string r.tx, .int .i64 r.se] 82)) w.heap.size r) := Boxed.new w r
  have hcl : Hid (∀ (w' : World), Boxed w' w.heap.size r → (w'.cell? ⟨w.heap.size, 0, none⟩ = some (.string r.n) ∧ w'.cell? ⟨w.heap.size, 1, none⟩ = some (.int .i64 r.ty) ∧ w'.cell? ⟨w.heap.size, 2, none⟩ = some (.int .i64 r.ttl) ∧ w'.cell? ⟨w.heap.size, 3, none⟩ = some (.int .i64 r.ad) ∧ w'.cell? ⟨w.heap.size, 4, none⟩ = some (.string r.tg) ∧ w'.cell? ⟨w.heap.size, 5, none⟩ = some (.string r.tx) ∧ w'.cell? ⟨w.heap.size, 6, none⟩ = some (.int .i64 r.se))) := fun w' h => ⟨h.cell 0, h.cell 1, h.cell 2, h.cell 3, h.cell 4, h.cell 5, h.cell 6⟩
  obtain ⟨n, ty, ttl, ad, tg, tx, se⟩ := r
  simp only at ht
  subst ht
  simp only [rv] at *
  clear hm hp hn hg hl hks hk eN ek g1 g2 g3 hd
  go_enter Tryz.func48, Tryz.ntmps48
  go_wp2_with fail
  refine (HM.out _).mono ?_; rintro e w1 ⟨rfl, hb1⟩
  have X1 : Hid (Boxed w1 w.heap.size ⟨n, 5, ttl, ad, tg, tx, se⟩) := BX.out.below hb1
  have B1 : Hid (Below w.heap.size w w1) := bel_trans ((Below.refl _ _).alloc (Nat.le_refl _) _) hb1
  clear hb1 BX
  obtain ⟨c0, c1, c2, c3, c4, c5, c6⟩ := hcl.out _ X1.out
  go_wp2_with fail
  refine (HN.out _ B1.out).mono ?_; rintro e w2 ⟨⟨v2, rfl, k2⟩, hb2⟩
  have X2 : Hid (Boxed w2 w.heap.size ⟨n, 5, ttl, ad, tg, tx, se⟩) := X1.out.below hb2
  have B2 : Hid (Below w.heap.size w w2) := bel_trans B1.out hb2
  have K2 : Hid (Knowns w2 w.heap.size v2 k0) := k2.base B1.out.size
  clear hb2 c0 c1 c2 c3 c4 c5 c6 k2 X1 B1 HM HN
  obtain ⟨c0, c1, c2, c3, c4, c5, c6⟩ := hcl.out _ X2.out
  obtain ⟨a2, q2, rfl, l2⟩ := K2.out.lies
  have L2 : Hid (KnLies w2 a2 k0) := l2
  clear l2
  go_wp2_with fail
  refine (HT.out _ _ _ L2.out).mono ?_; rintro e w3 ⟨rfl, hb3⟩
  have B3 : Hid (Below w.heap.size w w3) := bel_trans B2.out hb3
  clear hb3 L2 HT
  go_wp2
  go_ret3
  exact ⟨rfl, B3.out⟩

set_option maxHeartbeats 2000000 in
theorem refPut_12_no (at_ : Int) (a : Option Addr) (cap : Nat) (ks : List Kn) (r : Rec) (w : World) (N : ByteArray) (k0 : List Kn) (eN : mk (putS ks (labsL (bs r.n))) = N) (ek : ks ++ putN ks at_ (labsL (bs r.n)) = k0) (hm : mayR r = true) (hp : mayPutL at_ ks (bs r.n) = true) (hn : r.n.size ≤ 1048576) (hg : r.tg.size ≤ 1048576) (hl : ks.length ≤ 1048500) (hks : ∀ k ∈ ks, k.1.length ≤ 1048576) (hk : KnLies w a ks) (ht : r.ty = 12) (hd : mayPutL (at_ + N.size + 10) k0 (bs r.tg) = false) :
    Calls Tryz.prog 48 #[.int .i64 at_, .slice a ks.length cap, rv r] w fun e w' => e = .returned (.tuple #[.string ⟨#[]⟩, .slice none 0 0, .int .i64 400]) ∧ Below w.heap.size w w' := by
  have HM : Hid (∀ w, _) := fun w => refMay_c r w hn hg
  rw [hm] at HM
  have HN : Hid (∀ w', Below w.heap.size w w' → _) := fun w' hb => rput_c at_ a cap ks r.n w' hn (by omega) hks (hk.below hb) hp
  rw [eN, ek] at HN
  obtain ⟨g1, g2, g3⟩ := put_is eN ek hks
  obtain ⟨a0, a1, _, _⟩ := may_put hp
  obtain ⟨_, _, u1, u2, u3, u4, u5, u6, u7⟩ := may_nums hm
  have gN : (N.size : Int) ≤ 100 := by omega
  have gk : Hid (k0.length ≤ 1048508) := by show k0.length ≤ 1048508; omega
  have gm : Hid (∀ k ∈ k0, k.1.length ≤ 1048576) := g3
  have gg : Hid (r.tg.size ≤ 1048576) := hg
  have HT : Hid (∀ a cap w', KnLies w' a k0 → _) := fun a cap w' h => rput_no (at_ + N.size + 10) a cap k0 r.tg w' hg (by omega) g3 h hd
  have BX : Hid (Boxed (w.alloc (.cells #[.string r.n, .int .i64 r.ty, .int .i64 r.ttl, .int .i64 r.ad, .string r.tg, .string r.tx, .int .i64 r.se] 82)) w.heap.size r) := Boxed.new w r
  have hcl : Hid (∀ (w' : World), Boxed w' w.heap.size r → (w'.cell? ⟨w.heap.size, 0, none⟩ = some (.string r.n) ∧ w'.cell? ⟨w.heap.size, 1, none⟩ = some (.int .i64 r.ty) ∧ w'.cell? ⟨w.heap.size, 2, none⟩ = some (.int .i64 r.ttl) ∧ w'.cell? ⟨w.heap.size, 3, none⟩ = some (.int .i64 r.ad) ∧ w'.cell? ⟨w.heap.size, 4, none⟩ = some (.string r.tg) ∧ w'.cell? ⟨w.heap.size, 5, none⟩ = some (.string r.tx) ∧ w'.cell? ⟨w.heap.size, 6, none⟩ = some (.int .i64 r.se))) := fun w' h => ⟨h.cell 0, h.cell 1, h.cell 2, h.cell 3, h.cell 4, h.cell 5, h.cell 6⟩
  obtain ⟨n, ty, ttl, ad, tg, tx, se⟩ := r
  simp only at ht
  subst ht
  simp only [rv] at *
  clear hm hp hn hg hl hks hk eN ek g1 g2 g3 hd
  go_enter Tryz.func48, Tryz.ntmps48
  go_wp2_with fail
  refine (HM.out _).mono ?_; rintro e w1 ⟨rfl, hb1⟩
  have X1 : Hid (Boxed w1 w.heap.size ⟨n, 12, ttl, ad, tg, tx, se⟩) := BX.out.below hb1
  have B1 : Hid (Below w.heap.size w w1) := bel_trans ((Below.refl _ _).alloc (Nat.le_refl _) _) hb1
  clear hb1 BX
  obtain ⟨c0, c1, c2, c3, c4, c5, c6⟩ := hcl.out _ X1.out
  go_wp2_with fail
  refine (HN.out _ B1.out).mono ?_; rintro e w2 ⟨⟨v2, rfl, k2⟩, hb2⟩
  have X2 : Hid (Boxed w2 w.heap.size ⟨n, 12, ttl, ad, tg, tx, se⟩) := X1.out.below hb2
  have B2 : Hid (Below w.heap.size w w2) := bel_trans B1.out hb2
  have K2 : Hid (Knowns w2 w.heap.size v2 k0) := k2.base B1.out.size
  clear hb2 c0 c1 c2 c3 c4 c5 c6 k2 X1 B1 HM HN
  obtain ⟨c0, c1, c2, c3, c4, c5, c6⟩ := hcl.out _ X2.out
  obtain ⟨a2, q2, rfl, l2⟩ := K2.out.lies
  have L2 : Hid (KnLies w2 a2 k0) := l2
  clear l2
  go_wp2_with fail
  refine (HT.out _ _ _ L2.out).mono ?_; rintro e w3 ⟨rfl, hb3⟩
  have B3 : Hid (Below w.heap.size w w3) := bel_trans B2.out hb3
  clear hb3 L2 HT
  go_wp2
  go_ret3
  exact ⟨rfl, B3.out⟩

set_option maxHeartbeats 2000000 in
theorem refPut_6_no (at_ : Int) (a : Option Addr) (cap : Nat) (ks : List Kn) (r : Rec) (w : World) (N : ByteArray) (k0 : List Kn) (eN : mk (putS ks (labsL (bs r.n))) = N) (ek : ks ++ putN ks at_ (labsL (bs r.n)) = k0) (hm : mayR r = true) (hp : mayPutL at_ ks (bs r.n) = true) (hn : r.n.size ≤ 1048576) (hg : r.tg.size ≤ 1048576) (hl : ks.length ≤ 1048500) (hks : ∀ k ∈ ks, k.1.length ≤ 1048576) (hk : KnLies w a ks) (ht : r.ty = 6) (hd : mayPutL (at_ + N.size + 10) k0 (bs r.tg) = false) :
    Calls Tryz.prog 48 #[.int .i64 at_, .slice a ks.length cap, rv r] w fun e w' => e = .returned (.tuple #[.string ⟨#[]⟩, .slice none 0 0, .int .i64 400]) ∧ Below w.heap.size w w' := by
  have HM : Hid (∀ w, _) := fun w => refMay_c r w hn hg
  rw [hm] at HM
  have HN : Hid (∀ w', Below w.heap.size w w' → _) := fun w' hb => rput_c at_ a cap ks r.n w' hn (by omega) hks (hk.below hb) hp
  rw [eN, ek] at HN
  obtain ⟨g1, g2, g3⟩ := put_is eN ek hks
  obtain ⟨a0, a1, _, _⟩ := may_put hp
  obtain ⟨_, _, u1, u2, u3, u4, u5, u6, u7⟩ := may_nums hm
  have gN : (N.size : Int) ≤ 100 := by omega
  have gk : Hid (k0.length ≤ 1048508) := by show k0.length ≤ 1048508; omega
  have gm : Hid (∀ k ∈ k0, k.1.length ≤ 1048576) := g3
  have gg : Hid (r.tg.size ≤ 1048576) := hg
  have HT : Hid (∀ a cap w', KnLies w' a k0 → _) := fun a cap w' h => rput_no (at_ + N.size + 10) a cap k0 r.tg w' hg (by omega) g3 h hd
  have BX : Hid (Boxed (w.alloc (.cells #[.string r.n, .int .i64 r.ty, .int .i64 r.ttl, .int .i64 r.ad, .string r.tg, .string r.tx, .int .i64 r.se] 82)) w.heap.size r) := Boxed.new w r
  have hcl : Hid (∀ (w' : World), Boxed w' w.heap.size r → (w'.cell? ⟨w.heap.size, 0, none⟩ = some (.string r.n) ∧ w'.cell? ⟨w.heap.size, 1, none⟩ = some (.int .i64 r.ty) ∧ w'.cell? ⟨w.heap.size, 2, none⟩ = some (.int .i64 r.ttl) ∧ w'.cell? ⟨w.heap.size, 3, none⟩ = some (.int .i64 r.ad) ∧ w'.cell? ⟨w.heap.size, 4, none⟩ = some (.string r.tg) ∧ w'.cell? ⟨w.heap.size, 5, none⟩ = some (.string r.tx) ∧ w'.cell? ⟨w.heap.size, 6, none⟩ = some (.int .i64 r.se))) := fun w' h => ⟨h.cell 0, h.cell 1, h.cell 2, h.cell 3, h.cell 4, h.cell 5, h.cell 6⟩
  obtain ⟨n, ty, ttl, ad, tg, tx, se⟩ := r
  simp only at ht
  subst ht
  simp only [rv] at *
  clear hm hp hn hg hl hks hk eN ek g1 g2 g3 hd
  go_enter Tryz.func48, Tryz.ntmps48
  go_wp2_with fail
  refine (HM.out _).mono ?_; rintro e w1 ⟨rfl, hb1⟩
  have X1 : Hid (Boxed w1 w.heap.size ⟨n, 6, ttl, ad, tg, tx, se⟩) := BX.out.below hb1
  have B1 : Hid (Below w.heap.size w w1) := bel_trans ((Below.refl _ _).alloc (Nat.le_refl _) _) hb1
  clear hb1 BX
  obtain ⟨c0, c1, c2, c3, c4, c5, c6⟩ := hcl.out _ X1.out
  go_wp2_with fail
  refine (HN.out _ B1.out).mono ?_; rintro e w2 ⟨⟨v2, rfl, k2⟩, hb2⟩
  have X2 : Hid (Boxed w2 w.heap.size ⟨n, 6, ttl, ad, tg, tx, se⟩) := X1.out.below hb2
  have B2 : Hid (Below w.heap.size w w2) := bel_trans B1.out hb2
  have K2 : Hid (Knowns w2 w.heap.size v2 k0) := k2.base B1.out.size
  clear hb2 c0 c1 c2 c3 c4 c5 c6 k2 X1 B1 HM HN
  obtain ⟨c0, c1, c2, c3, c4, c5, c6⟩ := hcl.out _ X2.out
  obtain ⟨a2, q2, rfl, l2⟩ := K2.out.lies
  have L2 : Hid (KnLies w2 a2 k0) := l2
  clear l2
  go_wp2_with fail
  refine (HT.out _ _ _ L2.out).mono ?_; rintro e w3 ⟨rfl, hb3⟩
  have B3 : Hid (Below w.heap.size w w3) := bel_trans B2.out hb3
  clear hb3 L2 HT
  go_wp2
  go_ret3
  exact ⟨rfl, B3.out⟩

set_option maxHeartbeats 2000000 in
theorem refPut_6 (at_ : Int) (a : Option Addr) (cap : Nat) (ks : List Kn) (r : Rec) (w : World) (N : ByteArray) (k0 : List Kn) (eN : mk (putS ks (labsL (bs r.n))) = N) (ek : ks ++ putN ks at_ (labsL (bs r.n)) = k0) (hm : mayR r = true) (hp : mayPutL at_ ks (bs r.n) = true) (hn : r.n.size ≤ 1048576) (hg : r.tg.size ≤ 1048576) (hl : ks.length ≤ 1048500) (hks : ∀ k ∈ ks, k.1.length ≤ 1048576) (hk : KnLies w a ks) (ht : r.ty = 6) (D : ByteArray) (k1 : List Kn) (eD : mk (putS k0 (labsL (bs r.tg))) = D) (ek1 : k0 ++ putN k0 (at_ + N.size + 10) (labsL (bs r.tg)) = k1) (E : ByteArray) (k2 : List Kn) (eE : mk (putS k1 (labsL (bs r.tg))) = E) (ek2 : k1 ++ putN k1 (at_ + N.size + 10 + D.size) (labsL (bs r.tg)) = k2) (hd : mayPutL (at_ + N.size + 10) k0 (bs r.tg) = true) (hd2 : mayPutL (at_ + N.size + 10 + D.size) k1 (bs r.tg) = true) (G : ByteArray) (eD0 : D ++ E ++ nb r.se 4 ++ nb 60 4 ++ nb 60 4 ++ nb 600 4 ++ nb 60 4 = G) :
    Calls Tryz.prog 48 #[.int .i64 at_, .slice a ks.length cap, rv r] w fun e w' => (∃ v, e = .returned (.tuple #[.string (N ++ nb r.ty 2 ++ nb 1 2 ++ nb r.ttl 4 ++ nb G.size 2 ++ G), v, .int .i64 0]) ∧ Knowns w' w.heap.size v k2) ∧ Below w.heap.size w w' := by
  have HM : Hid (∀ w, _) := fun w => refMay_c r w hn hg
  rw [hm] at HM
  have HN : Hid (∀ w', Below w.heap.size w w' → _) := fun w' hb => rput_c at_ a cap ks r.n w' hn (by omega) hks (hk.below hb) hp
  rw [eN, ek] at HN
  obtain ⟨g1, g2, g3⟩ := put_is eN ek hks
  obtain ⟨a0, a1, _, _⟩ := may_put hp
  obtain ⟨_, _, u1, u2, u3, u4, u5, u6, u7⟩ := may_nums hm
  have gN : (N.size : Int) ≤ 100 := by omega
  have gk : Hid (k0.length ≤ 1048508) := by show k0.length ≤ 1048508; omega
  have gm : Hid (∀ k ∈ k0, k.1.length ≤ 1048576) := g3
  have gg : Hid (r.tg.size ≤ 1048576) := hg
  have HT : Hid (∀ a cap w', KnLies w' a k0 → _) := fun a cap w' h => rput_c (at_ + N.size + 10) a cap k0 r.tg w' hg (by omega) g3 h hd
  rw [eD, ek1] at HT
  obtain ⟨d1, d2, d3⟩ := put_is eD ek1 g3
  have gl : Hid (k1.length ≤ 1048516) := by show k1.length ≤ 1048516; omega
  have gq : Hid (∀ k ∈ k1, k.1.length ≤ 1048576) := d3
  have gD : (D.size : Int) ≤ 100 := by omega
  have HU : Hid (∀ a cap w', KnLies w' a k1 → _) := fun a cap w' h => rput_c (at_ + N.size + 10 + D.size) a cap k1 r.tg w' hg (by omega) d3 h hd2
  rw [eE, ek2] at HU
  obtain ⟨e1, e2, e3⟩ := put_is eE ek2 d3
  have gE : (E.size : Int) ≤ 100 := by omega
  have BX : Hid (Boxed (w.alloc (.cells #[.string r.n, .int .i64 r.ty, .int .i64 r.ttl, .int .i64 r.ad, .string r.tg, .string r.tx, .int .i64 r.se] 82)) w.heap.size r) := Boxed.new w r
  have hcl : Hid (∀ (w' : World), Boxed w' w.heap.size r → (w'.cell? ⟨w.heap.size, 0, none⟩ = some (.string r.n) ∧ w'.cell? ⟨w.heap.size, 1, none⟩ = some (.int .i64 r.ty) ∧ w'.cell? ⟨w.heap.size, 2, none⟩ = some (.int .i64 r.ttl) ∧ w'.cell? ⟨w.heap.size, 3, none⟩ = some (.int .i64 r.ad) ∧ w'.cell? ⟨w.heap.size, 4, none⟩ = some (.string r.tg) ∧ w'.cell? ⟨w.heap.size, 5, none⟩ = some (.string r.tx) ∧ w'.cell? ⟨w.heap.size, 6, none⟩ = some (.int .i64 r.se))) := fun w' h => ⟨h.cell 0, h.cell 1, h.cell 2, h.cell 3, h.cell 4, h.cell 5, h.cell 6⟩
  obtain ⟨n, ty, ttl, ad, tg, tx, se⟩ := r
  simp only at ht
  subst ht
  simp only [rv] at *
  clear hm hp hn hg hl hks hk eN ek g1 g2 g3 hd hd2 eD ek1 eE ek2 d1 d2 d3 e1 e2 e3
  go_enter Tryz.func48, Tryz.ntmps48
  go_wp2_with fail
  refine (HM.out _).mono ?_; rintro e w1 ⟨rfl, hb1⟩
  have X1 : Hid (Boxed w1 w.heap.size ⟨n, 6, ttl, ad, tg, tx, se⟩) := BX.out.below hb1
  have B1 : Hid (Below w.heap.size w w1) := bel_trans ((Below.refl _ _).alloc (Nat.le_refl _) _) hb1
  clear hb1 BX
  obtain ⟨c0, c1, c2, c3, c4, c5, c6⟩ := hcl.out _ X1.out
  go_wp2_with fail
  refine (HN.out _ B1.out).mono ?_; rintro e w2 ⟨⟨v2, rfl, k2⟩, hb2⟩
  have X2 : Hid (Boxed w2 w.heap.size ⟨n, 6, ttl, ad, tg, tx, se⟩) := X1.out.below hb2
  have B2 : Hid (Below w.heap.size w w2) := bel_trans B1.out hb2
  have K2 : Hid (Knowns w2 w.heap.size v2 k0) := k2.base B1.out.size
  clear hb2 c0 c1 c2 c3 c4 c5 c6 k2 X1 B1 HM HN
  obtain ⟨c0, c1, c2, c3, c4, c5, c6⟩ := hcl.out _ X2.out
  obtain ⟨a2, q2, rfl, l2⟩ := K2.out.lies
  have L2 : Hid (KnLies w2 a2 k0) := l2
  clear l2
  go_wp2_with fail
  refine (HT.out _ _ _ L2.out).mono ?_; rintro e w3 ⟨⟨v3, rfl, k3⟩, hb3⟩
  have X3 : Hid (Boxed w3 w.heap.size ⟨n, 6, ttl, ad, tg, tx, se⟩) := X2.out.below hb3
  have B3 : Hid (Below w.heap.size w w3) := bel_trans B2.out hb3
  have K3 : Hid (Knowns w3 w.heap.size v3 k1) := k3.base B2.out.size
  clear hb3 k3 c0 c1 c2 c3 c4 c5 c6 X2 B2 K2 L2 HT
  obtain ⟨c0, c1, c2, c3, c4, c5, c6⟩ := hcl.out _ X3.out
  obtain ⟨a3, q3, rfl, l3⟩ := K3.out.lies
  have L3 : Hid (KnLies w3 a3 k1) := l3
  clear l3
  go_wp2_with fail
  refine (HU.out _ _ _ L3.out).mono ?_; rintro e w4 ⟨⟨v4, rfl, k4⟩, hb4⟩
  have X4 : Hid (Boxed w4 w.heap.size ⟨n, 6, ttl, ad, tg, tx, se⟩) := X3.out.below hb4
  have B4 : Hid (Below w.heap.size w w4) := bel_trans B3.out hb4
  have K4 : Hid (Knowns w4 w.heap.size v4 k2) := k4.base B3.out.size
  clear hb4 k4 c0 c1 c2 c3 c4 c5 c6 X3 B3 K3 L3 HU
  obtain ⟨c0, c1, c2, c3, c4, c5, c6⟩ := hcl.out _ X4.out
  have s1 := nb_size se 4
  have s2 := nb_size 60 4
  have s3 := nb_size 600 4
  have o1 : ¬ 9223372036854775807 < D.size + E.size := by omega
  have o2 : ¬ 9223372036854775807 < D.size + E.size + (nb se 4).size := by omega
  have o3 : ¬ 9223372036854775807 < D.size + E.size + (nb se 4).size + (nb 60 4).size := by omega
  have o4 : ¬ 9223372036854775807 < D.size + E.size + (nb se 4).size + (nb 60 4).size + (nb 60 4).size := by omega
  have o5 : ¬ 9223372036854775807 < D.size + E.size + (nb se 4).size + (nb 60 4).size + (nb 60 4).size + (nb 600 4).size := by omega
  have o6 : ¬ 9223372036854775807 < D.size + E.size + (nb se 4).size + (nb 60 4).size + (nb 60 4).size + (nb 600 4).size + (nb 60 4).size := by omega
  have hDs : G.size ≤ 300 := by rw [← eD0]; simp only [ByteArray.size_append]; omega
  clear s1 s2 s3
  go_wp2_with fail
  refine (refNb _ _ _ (by omega)).mono ?_; rintro e y1 ⟨rfl, hb⟩
  have Y1 : Hid (Below w4.heap.size w4 y1) := hb
  clear hb
  go_wp2_with fail
  refine (refNb _ _ _ (by omega)).mono ?_; rintro e y2 ⟨rfl, hb⟩
  have Y2 : Hid (Below w4.heap.size w4 y2) := bel_trans Y1.out hb
  clear hb
  go_wp2_with fail
  refine (refNb _ _ _ (by omega)).mono ?_; rintro e y3 ⟨rfl, hb⟩
  have Y3 : Hid (Below w4.heap.size w4 y3) := bel_trans Y2.out hb
  clear hb
  go_wp2_with fail
  refine (refNb _ _ _ (by omega)).mono ?_; rintro e y4 ⟨rfl, hb⟩
  have Y4 : Hid (Below w4.heap.size w4 y4) := bel_trans Y3.out hb
  clear hb
  go_wp2_with fail
  refine (refNb _ _ _ (by omega)).mono ?_; rintro e y5 ⟨rfl, hb⟩
  have Y5 : Hid (Below w4.heap.size w4 y5) := bel_trans Y4.out hb
  clear hb
  have X5 : Hid (Boxed y5 w.heap.size ⟨n, 6, ttl, ad, tg, tx, se⟩) := X4.out.below Y5.out
  have B5 : Hid (Below w.heap.size w y5) := bel_trans B4.out Y5.out
  have K5 : Hid (Knowns y5 w.heap.size v4 k2) := K4.out.below Y5.out
  clear Y1 Y2 Y3 Y4 Y5 c0 c1 c2 c3 c4 c5 c6 X4 B4 K4
  obtain ⟨c0, c1, c2, c3, c4, c5, c6⟩ := hcl.out _ X5.out
  go_wp2_with fail
  clear o1 o2 o3 o4 o5 o6
  clear eD0
  have z1 := nb_size 6 2
  have z2 := nb_size 1 2
  have z3 := nb_size ttl 4
  have z4 := nb_size G.size 2
  have p1 : ¬ 9223372036854775807 < N.size + (nb 6 2).size := by omega
  have p2 : ¬ 9223372036854775807 < N.size + (nb 6 2).size + (nb 1 2).size := by omega
  have p3 : ¬ 9223372036854775807 < N.size + (nb 6 2).size + (nb 1 2).size + (nb ttl 4).size := by omega
  have p4 : ¬ 9223372036854775807 < N.size + (nb 6 2).size + (nb 1 2).size + (nb ttl 4).size + (nb G.size 2).size := by omega
  have p5 : ¬ 9223372036854775807 < N.size + (nb 6 2).size + (nb 1 2).size + (nb ttl 4).size + (nb G.size 2).size + G.size := by omega
  have Q3 : Hid (0 ≤ ttl ∧ ttl ≤ 4294967295 ∧ ((4 : Int) = 1 ∨ (4 : Int) = 2 ∨ (4 : Int) = 4)) := by show _ ∧ _; omega
  have Q4 : Hid (0 ≤ (G.size : Int) ∧ (G.size : Int) ≤ 4294967295 ∧ ((2 : Int) = 1 ∨ (2 : Int) = 2 ∨ (2 : Int) = 4)) := by show _ ∧ _; omega
  clear z1 z2 z3 z4
  go_region_held3 (fun w' => w'.cell? ⟨w.heap.size, 1, none⟩ = some (.int .i64 6) ∧ w'.cell? ⟨w.heap.size, 2, none⟩ = some (.int .i64 ttl) ∧ Boxed w' w.heap.size ⟨n, 6, ttl, ad, tg, tx, se⟩ ∧ Below y5.heap.size y5 w')
    (first | exact ⟨c1, c2, X5.out.below (below_drewN (Below.refl y5.heap.size _) 1), below_drewN (Below.refl y5.heap.size _) 1⟩ | exact ⟨sX.cell 1, sX.cell 2, sX, sB⟩)
    (first | (go_at_call 46; refine (refNb _ _ _ (by first | exact Q3.out | exact Q4.out | omega)).mono ?_; rintro e wN ⟨rfl, hbN⟩; obtain ⟨_, _, tX, tB⟩ := ‹_ ∧ _ ∧ Boxed _ w.heap.size _ ∧ Below y5.heap.size y5 _›; have sX := tX.below hbN; have sB := bel_trans tB hbN; clear tX tB hbN))
  obtain ⟨_, _, tX, tB⟩ := ‹_ ∧ _ ∧ Boxed _ w.heap.size _ ∧ Below y5.heap.size y5 _›
  go_wp2
  go_ret3
  exact ⟨⟨_, rfl, K5.out.below tB⟩, bel_trans B5.out tB⟩

set_option maxHeartbeats 2000000 in
theorem refPut_6_no2 (at_ : Int) (a : Option Addr) (cap : Nat) (ks : List Kn) (r : Rec) (w : World) (N : ByteArray) (k0 : List Kn) (eN : mk (putS ks (labsL (bs r.n))) = N) (ek : ks ++ putN ks at_ (labsL (bs r.n)) = k0) (hm : mayR r = true) (hp : mayPutL at_ ks (bs r.n) = true) (hn : r.n.size ≤ 1048576) (hg : r.tg.size ≤ 1048576) (hl : ks.length ≤ 1048500) (hks : ∀ k ∈ ks, k.1.length ≤ 1048576) (hk : KnLies w a ks) (ht : r.ty = 6) (D : ByteArray) (k1 : List Kn) (eD : mk (putS k0 (labsL (bs r.tg))) = D) (ek1 : k0 ++ putN k0 (at_ + N.size + 10) (labsL (bs r.tg)) = k1) (hd : mayPutL (at_ + N.size + 10) k0 (bs r.tg) = true) (hd2 : mayPutL (at_ + N.size + 10 + D.size) k1 (bs r.tg) = false) :
    Calls Tryz.prog 48 #[.int .i64 at_, .slice a ks.length cap, rv r] w fun e w' => e = .returned (.tuple #[.string ⟨#[]⟩, .slice none 0 0, .int .i64 400]) ∧ Below w.heap.size w w' := by
  have HM : Hid (∀ w, _) := fun w => refMay_c r w hn hg
  rw [hm] at HM
  have HN : Hid (∀ w', Below w.heap.size w w' → _) := fun w' hb => rput_c at_ a cap ks r.n w' hn (by omega) hks (hk.below hb) hp
  rw [eN, ek] at HN
  obtain ⟨g1, g2, g3⟩ := put_is eN ek hks
  obtain ⟨a0, a1, _, _⟩ := may_put hp
  obtain ⟨_, _, u1, u2, u3, u4, u5, u6, u7⟩ := may_nums hm
  have gN : (N.size : Int) ≤ 100 := by omega
  have gk : Hid (k0.length ≤ 1048508) := by show k0.length ≤ 1048508; omega
  have gm : Hid (∀ k ∈ k0, k.1.length ≤ 1048576) := g3
  have gg : Hid (r.tg.size ≤ 1048576) := hg
  have HT : Hid (∀ a cap w', KnLies w' a k0 → _) := fun a cap w' h => rput_c (at_ + N.size + 10) a cap k0 r.tg w' hg (by omega) g3 h hd
  rw [eD, ek1] at HT
  obtain ⟨d1, d2, d3⟩ := put_is eD ek1 g3
  have gl : Hid (k1.length ≤ 1048516) := by show k1.length ≤ 1048516; omega
  have gq : Hid (∀ k ∈ k1, k.1.length ≤ 1048576) := d3
  have gD : (D.size : Int) ≤ 100 := by omega
  have HU : Hid (∀ a cap w', KnLies w' a k1 → _) := fun a cap w' h => rput_no (at_ + N.size + 10 + D.size) a cap k1 r.tg w' hg (by omega) d3 h hd2
  have BX : Hid (Boxed (w.alloc (.cells #[.string r.n, .int .i64 r.ty, .int .i64 r.ttl, .int .i64 r.ad, .string r.tg, .string r.tx, .int .i64 r.se] 82)) w.heap.size r) := Boxed.new w r
  have hcl : Hid (∀ (w' : World), Boxed w' w.heap.size r → (w'.cell? ⟨w.heap.size, 0, none⟩ = some (.string r.n) ∧ w'.cell? ⟨w.heap.size, 1, none⟩ = some (.int .i64 r.ty) ∧ w'.cell? ⟨w.heap.size, 2, none⟩ = some (.int .i64 r.ttl) ∧ w'.cell? ⟨w.heap.size, 3, none⟩ = some (.int .i64 r.ad) ∧ w'.cell? ⟨w.heap.size, 4, none⟩ = some (.string r.tg) ∧ w'.cell? ⟨w.heap.size, 5, none⟩ = some (.string r.tx) ∧ w'.cell? ⟨w.heap.size, 6, none⟩ = some (.int .i64 r.se))) := fun w' h => ⟨h.cell 0, h.cell 1, h.cell 2, h.cell 3, h.cell 4, h.cell 5, h.cell 6⟩
  obtain ⟨n, ty, ttl, ad, tg, tx, se⟩ := r
  simp only at ht
  subst ht
  simp only [rv] at *
  clear hm hp hn hg hl hks hk eN ek g1 g2 g3 hd hd2 eD ek1 d1 d2 d3
  go_enter Tryz.func48, Tryz.ntmps48
  go_wp2_with fail
  refine (HM.out _).mono ?_; rintro e w1 ⟨rfl, hb1⟩
  have X1 : Hid (Boxed w1 w.heap.size ⟨n, 6, ttl, ad, tg, tx, se⟩) := BX.out.below hb1
  have B1 : Hid (Below w.heap.size w w1) := bel_trans ((Below.refl _ _).alloc (Nat.le_refl _) _) hb1
  clear hb1 BX
  obtain ⟨c0, c1, c2, c3, c4, c5, c6⟩ := hcl.out _ X1.out
  go_wp2_with fail
  refine (HN.out _ B1.out).mono ?_; rintro e w2 ⟨⟨v2, rfl, k2⟩, hb2⟩
  have X2 : Hid (Boxed w2 w.heap.size ⟨n, 6, ttl, ad, tg, tx, se⟩) := X1.out.below hb2
  have B2 : Hid (Below w.heap.size w w2) := bel_trans B1.out hb2
  have K2 : Hid (Knowns w2 w.heap.size v2 k0) := k2.base B1.out.size
  clear hb2 c0 c1 c2 c3 c4 c5 c6 k2 X1 B1 HM HN
  obtain ⟨c0, c1, c2, c3, c4, c5, c6⟩ := hcl.out _ X2.out
  obtain ⟨a2, q2, rfl, l2⟩ := K2.out.lies
  have L2 : Hid (KnLies w2 a2 k0) := l2
  clear l2
  go_wp2_with fail
  refine (HT.out _ _ _ L2.out).mono ?_; rintro e w3 ⟨⟨v3, rfl, k3⟩, hb3⟩
  have X3 : Hid (Boxed w3 w.heap.size ⟨n, 6, ttl, ad, tg, tx, se⟩) := X2.out.below hb3
  have B3 : Hid (Below w.heap.size w w3) := bel_trans B2.out hb3
  have K3 : Hid (Knowns w3 w.heap.size v3 k1) := k3.base B2.out.size
  clear hb3 k3 c0 c1 c2 c3 c4 c5 c6 X2 B2 K2 L2 HT
  obtain ⟨c0, c1, c2, c3, c4, c5, c6⟩ := hcl.out _ X3.out
  obtain ⟨a3, q3, rfl, l3⟩ := K3.out.lies
  have L3 : Hid (KnLies w3 a3 k1) := l3
  clear l3
  go_wp2_with fail
  refine (HU.out _ _ _ L3.out).mono ?_; rintro e w4 ⟨rfl, hb4⟩
  have X4 : Hid (Boxed w4 w.heap.size ⟨n, 6, ttl, ad, tg, tx, se⟩) := X3.out.below hb4
  have B4 : Hid (Below w.heap.size w w4) := bel_trans B3.out hb4
  clear hb4 c0 c1 c2 c3 c4 c5 c6 X3 B3 K3 L3 HU
  obtain ⟨c0, c1, c2, c3, c4, c5, c6⟩ := hcl.out _ X4.out
  have s1 := nb_size se 4
  have s2 := nb_size 60 4
  have s3 := nb_size 600 4
  have o1 : ¬ 9223372036854775807 < D.size := by omega
  have o2 : ¬ 9223372036854775807 < D.size + (nb se 4).size := by omega
  have o3 : ¬ 9223372036854775807 < D.size + (nb se 4).size + (nb 60 4).size := by omega
  have o4 : ¬ 9223372036854775807 < D.size + (nb se 4).size + (nb 60 4).size + (nb 60 4).size := by omega
  have o5 : ¬ 9223372036854775807 < D.size + (nb se 4).size + (nb 60 4).size + (nb 60 4).size + (nb 600 4).size := by omega
  have o6 : ¬ 9223372036854775807 < D.size + (nb se 4).size + (nb 60 4).size + (nb 60 4).size + (nb 600 4).size + (nb 60 4).size := by omega
  clear s1 s2 s3
  go_wp2_with fail
  refine (refNb _ _ _ (by omega)).mono ?_; rintro e y1 ⟨rfl, hb⟩
  have Y1 : Hid (Below w4.heap.size w4 y1) := hb
  clear hb
  go_wp2_with fail
  refine (refNb _ _ _ (by omega)).mono ?_; rintro e y2 ⟨rfl, hb⟩
  have Y2 : Hid (Below w4.heap.size w4 y2) := bel_trans Y1.out hb
  clear hb
  go_wp2_with fail
  refine (refNb _ _ _ (by omega)).mono ?_; rintro e y3 ⟨rfl, hb⟩
  have Y3 : Hid (Below w4.heap.size w4 y3) := bel_trans Y2.out hb
  clear hb
  go_wp2_with fail
  refine (refNb _ _ _ (by omega)).mono ?_; rintro e y4 ⟨rfl, hb⟩
  have Y4 : Hid (Below w4.heap.size w4 y4) := bel_trans Y3.out hb
  clear hb
  go_wp2_with fail
  refine (refNb _ _ _ (by omega)).mono ?_; rintro e y5 ⟨rfl, hb⟩
  have Y5 : Hid (Below w4.heap.size w4 y5) := bel_trans Y4.out hb
  clear hb
  go_wp2
  go_ret3
  exact ⟨rfl, bel_trans B4.out Y5.out⟩

theorem refPut_no1 (at_ : Int) (v : Value) (r : Rec) (w : World) (hm : mayR r = false) (hn : r.n.size ≤ 1048576) (hg : r.tg.size ≤ 1048576) :
    Calls Tryz.prog 48 #[.int .i64 at_, v, rv r] w fun e w' => e = .returned (.tuple #[.string ⟨#[]⟩, .slice none 0 0, .int .i64 400]) ∧ Below w.heap.size w w' := by
  have HM : Hid (∀ w, _) := fun w => refMay_c r w hn hg
  rw [hm] at HM
  obtain ⟨n, ty, ttl, ad, tg, tx, se⟩ := r
  simp only [rv] at *
  clear hm
  go_enter Tryz.func48, Tryz.ntmps48
  go_wp2_with fail
  refine (HM.out _).mono ?_; rintro e w1 ⟨rfl, hb1⟩
  have B1 : Hid (Below w.heap.size w w1) := bel_trans ((Below.refl _ _).alloc (Nat.le_refl _) _) hb1
  clear hb1
  go_wp2
  go_ret3
  exact ⟨rfl, B1.out⟩

theorem refPut_no2 (at_ : Int) (a : Option Addr) (cap : Nat) (ks : List Kn) (r : Rec) (w : World) (hm : mayR r = true) (hp : mayPutL at_ ks (bs r.n) = false) (hn : r.n.size ≤ 1048576) (hg : r.tg.size ≤ 1048576) (hl : ks.length ≤ 1048500) (hks : ∀ k ∈ ks, k.1.length ≤ 1048576) (hk : KnLies w a ks) :
    Calls Tryz.prog 48 #[.int .i64 at_, .slice a ks.length cap, rv r] w fun e w' => e = .returned (.tuple #[.string ⟨#[]⟩, .slice none 0 0, .int .i64 400]) ∧ Below w.heap.size w w' := by
  have HM : Hid (∀ w, _) := fun w => refMay_c r w hn hg
  rw [hm] at HM
  have HN : Hid (∀ w', Below w.heap.size w w' → _) := fun w' hb => rput_no at_ a cap ks r.n w' hn (by omega) hks (hk.below hb) hp
  have BX : Hid (Boxed (w.alloc (.cells #[.string r.n, .int .i64 r.ty, .int .i64 r.ttl, .int .i64 r.ad, .string r.tg, .string r.tx, .int .i64 r.se] 82)) w.heap.size r) := Boxed.new w r
  have hcl : Hid (∀ (w' : World), Boxed w' w.heap.size r → w'.cell? ⟨w.heap.size, 0, none⟩ = some (.string r.n)) := fun w' h => h.cell 0
  obtain ⟨n, ty, ttl, ad, tg, tx, se⟩ := r
  simp only [rv] at *
  clear hm hp hn hg hl hks hk
  go_enter Tryz.func48, Tryz.ntmps48
  go_wp2_with fail
  refine (HM.out _).mono ?_; rintro e w1 ⟨rfl, hb1⟩
  have c0 := hcl.out _ (BX.out.below hb1)
  have B1 : Hid (Below w.heap.size w w1) := bel_trans ((Below.refl _ _).alloc (Nat.le_refl _) _) hb1
  clear hb1 BX
  go_wp2_with fail
  refine (HN.out _ B1.out).mono ?_; rintro e w2 ⟨rfl, hb2⟩
  have B2 : Hid (Below w.heap.size w w2) := bel_trans B1.out hb2
  clear hb2
  go_wp2
  go_ret3
  exact ⟨rfl, B2.out⟩

end Go.Proofs.YtdmooggmoihggaaGreatDoor
