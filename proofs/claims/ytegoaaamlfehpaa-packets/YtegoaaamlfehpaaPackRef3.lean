/-
  Contract of the document's own PutPacket.
-/
import Derived.Test.YtegoaaamlfehpaaPackRef2
import Derived.Test.YtegoaaamlfehpaaMade
namespace Go.Proofs.Ytegoaaamlfehpaa
open Go.ChangeShapes Go.WideShapes Go.ChangeAt Go.RowKit Go.Pin Go.PlainAid

/-- A number that Num puts. -/
def numOk (x : Int) : Prop := 0 ≤ x ∧ x ≤ 4294967295
set_option maxRecDepth 100000 in
set_option maxHeartbeats 4000000 in
theorem rpPut_yes (p : Pk) (a : Option Addr) (c : Nat) (w : World) (hL : OpLies w a p.os) (hm : mayP p = true) (hp : (putA p.os).2 = 0) :
    Calls Try.prog 12 #[pv p a c] w fun e w' => e = .returned (.tuple #[.string (mk (headP p ++ putO p.os)), .int .i64 0]) ∧ Below w.heap.size w w' := by
  obtain ⟨m1, m2, m4, h16, ho⟩ := (mayP_iff p).1 hm
  have h32 := ho.1
  have HM : Hid (∀ w', Below w.heap.size w w' → _) := fun w' hb => rpMay_c p a c w' (hL.below hb) (by omega) (by unfold maxLen; omega)
  rw [hm] at HM
  have HP : Hid (∀ w', Below w.heap.size w w' → _) := fun w' hb => rPut_c a c p.os w' (by omega) (hL.below hb)
  have hp1 : (putA p.os).1 = putO p.os := by rw [((putA_cases p.os).2.2 ((putA_cases p.os).2.1.1 hp).1 ((putA_cases p.os).2.1.1 hp).2)]
  have hpl := ((putA_cases p.os).2.1.1 hp).2
  rw [hp, hp1] at HP
  obtain ⟨G, hG⟩ : ∃ G : Int → Int → ByteArray, ∀ x k, G x k = be x k.toNat := ⟨fun x k => be x k.toNat, fun _ _ => rfl⟩
  have NUM : Hid (∀ (x k : Int) (w : World), numOk x → (k = 1 ∨ k = 2 ∨ k = 4) → Calls Try.prog 35 #[.int .i64 x, .int .i64 k] w fun e w' => e = .returned (.string (G x k)) ∧ Below w.heap.size w w') := fun x k w hx hk => by
    rw [hG]
    have := refNum x k.toNat w hx.1 (by have := hx.2; omega) (by omega)
    rwa [Int.toNat_of_nonneg (by omega)] at this
  have q0 : numOk p.op := by have := m1 p.op (by simp); unfold inB at this; exact ⟨by omega, by omega⟩
  have z0 : (G p.op 1).size = 1 := by rw [hG]; exact size_be _ _
  have q1 : numOk p.ht := by have := m1 p.ht (by simp); unfold inB at this; exact ⟨by omega, by omega⟩
  have z1 : (G p.ht 1).size = 1 := by rw [hG]; exact size_be _ _
  have q2 : numOk ((p.ch.size : Nat) : Int) := ⟨by omega, by omega⟩
  have z2 : (G p.ch.size 1).size = 1 := by rw [hG]; exact size_be _ _
  have q3 : numOk p.ho := by have := m1 p.ho (by simp); unfold inB at this; exact ⟨by omega, by omega⟩
  have z3 : (G p.ho 1).size = 1 := by rw [hG]; exact size_be _ _
  have q4 : numOk p.xid := by have := m4 p.xid (by simp); unfold inB at this; exact ⟨by omega, by omega⟩
  have z4 : (G p.xid 4).size = 4 := by rw [hG]; exact size_be _ _
  have q5 : numOk p.sc := by have := m2 p.sc (by simp); unfold inB at this; exact ⟨by omega, by omega⟩
  have z5 : (G p.sc 2).size = 2 := by rw [hG]; exact size_be _ _
  have q6 : numOk p.fl := by have := m2 p.fl (by simp); unfold inB at this; exact ⟨by omega, by omega⟩
  have z6 : (G p.fl 2).size = 2 := by rw [hG]; exact size_be _ _
  have q7 : numOk p.ci := by have := m4 p.ci (by simp); unfold inB at this; exact ⟨by omega, by omega⟩
  have z7 : (G p.ci 4).size = 4 := by rw [hG]; exact size_be _ _
  have q8 : numOk p.yi := by have := m4 p.yi (by simp); unfold inB at this; exact ⟨by omega, by omega⟩
  have z8 : (G p.yi 4).size = 4 := by rw [hG]; exact size_be _ _
  have q9 : numOk p.si := by have := m4 p.si (by simp); unfold inB at this; exact ⟨by omega, by omega⟩
  have z9 : (G p.si 4).size = 4 := by rw [hG]; exact size_be _ _
  have q10 : numOk p.gi := by have := m4 p.gi (by simp); unfold inB at this; exact ⟨by omega, by omega⟩
  have z10 : (G p.gi 4).size = 4 := by rw [hG]; exact size_be _ _
  have q11 : numOk 1669485411 := ⟨by omega, by omega⟩
  have z11 : (G 1669485411 4).size = 4 := by rw [hG]; exact size_be _ _
  have zO : (mk (putO p.os)).size ≤ 1200 := by rw [size_mk]; exact hpl
  have HCAT : Hid (∀ Z : ByteArray, Z = mk (List.replicate (208 - p.ch.size) 0) → G p.op 1 ++ G p.ht 1 ++ G p.ch.size 1 ++ G p.ho 1 ++ G p.xid 4 ++ G p.sc 2 ++ G p.fl 2 ++ G p.ci 4 ++ G p.yi 4 ++ G p.si 4 ++ G p.gi 4 ++ p.ch ++ Z ++ G 1669485411 4 ++ mk (putO p.os) = mk (headP p ++ putO p.os)) := by
    show ∀ Z : ByteArray, _ → _
    rintro _ rfl
    simp only [hG]
    apply bs_inj
    simp [headP, nums, bs, mk]
  have zz : (G p.op 1 ++ G p.ht 1 ++ G p.ch.size 1 ++ G p.ho 1 ++ G p.xid 4 ++ G p.sc 2 ++ G p.fl 2 ++ G p.ci 4 ++ G p.yi 4 ++ G p.si 4 ++ G p.gi 4 ++ p.ch).size = 28 + p.ch.size := by simp only [ByteArray.size_append, z0, z1, z2, z3, z4, z5, z6, z7, z8, z9, z10]
  generalize mk (putO p.os) = O at *
  generalize mk (headP p ++ putO p.os) = R at *
  obtain ⟨chs, hch⟩ : ∃ chs, p.ch.size = chs := ⟨_, rfl⟩
  have y1 : ¬ 9223372036854775807 < (G p.op 1).size + (G p.ht 1).size := by omega
  have y2 : ¬ 9223372036854775807 < (G p.op 1).size + (G p.ht 1).size + (G p.ch.size 1).size := by omega
  have y3 : ¬ 9223372036854775807 < (G p.op 1).size + (G p.ht 1).size + (G p.ch.size 1).size + (G p.ho 1).size := by omega
  have y4 : ¬ 9223372036854775807 < (G p.op 1).size + (G p.ht 1).size + (G p.ch.size 1).size + (G p.ho 1).size + (G p.xid 4).size := by omega
  have y5 : ¬ 9223372036854775807 < (G p.op 1).size + (G p.ht 1).size + (G p.ch.size 1).size + (G p.ho 1).size + (G p.xid 4).size + (G p.sc 2).size := by omega
  have y6 : ¬ 9223372036854775807 < (G p.op 1).size + (G p.ht 1).size + (G p.ch.size 1).size + (G p.ho 1).size + (G p.xid 4).size + (G p.sc 2).size + (G p.fl 2).size := by omega
  have y7 : ¬ 9223372036854775807 < (G p.op 1).size + (G p.ht 1).size + (G p.ch.size 1).size + (G p.ho 1).size + (G p.xid 4).size + (G p.sc 2).size + (G p.fl 2).size + (G p.ci 4).size := by omega
  have y8 : ¬ 9223372036854775807 < (G p.op 1).size + (G p.ht 1).size + (G p.ch.size 1).size + (G p.ho 1).size + (G p.xid 4).size + (G p.sc 2).size + (G p.fl 2).size + (G p.ci 4).size + (G p.yi 4).size := by omega
  have y9 : ¬ 9223372036854775807 < (G p.op 1).size + (G p.ht 1).size + (G p.ch.size 1).size + (G p.ho 1).size + (G p.xid 4).size + (G p.sc 2).size + (G p.fl 2).size + (G p.ci 4).size + (G p.yi 4).size + (G p.si 4).size := by omega
  have y10 : ¬ 9223372036854775807 < (G p.op 1).size + (G p.ht 1).size + (G p.ch.size 1).size + (G p.ho 1).size + (G p.xid 4).size + (G p.sc 2).size + (G p.fl 2).size + (G p.ci 4).size + (G p.yi 4).size + (G p.si 4).size + (G p.gi 4).size := by omega
  have y11 : ¬ 9223372036854775807 < (G p.op 1).size + (G p.ht 1).size + (G p.ch.size 1).size + (G p.ho 1).size + (G p.xid 4).size + (G p.sc 2).size + (G p.fl 2).size + (G p.ci 4).size + (G p.yi 4).size + (G p.si 4).size + (G p.gi 4).size + p.ch.size := by omega
  obtain ⟨CT, hCT⟩ : ∃ CT, G p.op 1 ++ G p.ht 1 ++ G p.ch.size 1 ++ G p.ho 1 ++ G p.xid 4 ++ G p.sc 2 ++ G p.fl 2 ++ G p.ci 4 ++ G p.yi 4 ++ G p.si 4 ++ G p.gi 4 ++ p.ch = CT := ⟨_, rfl⟩
  rw [hCT] at zz HCAT
  have HCT : Hid (G p.op 1 ++ G p.ht 1 ++ G p.ch.size 1 ++ G p.ho 1 ++ G p.xid 4 ++ G p.sc 2 ++ G p.fl 2 ++ G p.ci 4 ++ G p.yi 4 ++ G p.si 4 ++ G p.gi 4 ++ p.ch = CT) := hCT
  have HZZ : Hid (CT.size = 28 + chs ∧ chs ≤ 16 ∧ p.ch.size = chs ∧ (G 1669485411 4).size = 4 ∧ O.size ≤ 1200) := ⟨by omega, by omega, hch, z11, zO⟩
  have hchl : (p.ch.size : Int) ≤ 16 := by omega
  rw [hch] at HCAT
  clear z0 z1 z2 z3 z4 z5 z6 z7 z8 z9 z10 z11 zz zO hCT hch m1 m2 m4 h32 ho hpl hp1 hp hG
  obtain ⟨w0, hw0⟩ : ∃ w0, w.alloc (.cells (cellsP p a c) 40) = w0 := ⟨_, rfl⟩
  have hb0 : Below w.heap.size w w0 := by rw [← hw0]; exact (Below.refl _ _).alloc (Nat.le_refl _) _
  have X0 : Hid (BoxP w0 w.heap.size p a c) := by
    show BoxP _ _ _ _ _
    rw [← hw0]; exact BoxP.new w p a c
  have B0 : Hid (Below w.heap.size w w0) := hb0
  have hcell : Hid (∀ w', BoxP w' w.heap.size p a c → _) := fun w' h => h.all
  obtain ⟨c0, c1, c2, c3, c4, c5, c6, c7, c8, c9, c10, c11⟩ := X0.out.all
  clear hb0 hL hm h16
  simp only [pv, cellsP] at *
  go_enter Try.func12, Try.ntmps12
  go_wp2_with fail
  refine (HM.out _ B0.out).mono ?_; rintro e w1 ⟨rfl, hb⟩
  have X1 : Hid (BoxP w1 w.heap.size p a c) := X0.out.below hb
  have B1 : Hid (Below w.heap.size w w1) := bel_trans B0.out hb
  clear hb X0 B0 HM hw0 c0 c1 c2 c3 c4 c5 c6 c7 c8 c9 c10 c11
  obtain ⟨c0, c1, c2, c3, c4, c5, c6, c7, c8, c9, c10, c11⟩ := X1.out.all
  go_wp2_with fail
  refine (HP.out _ B1.out).mono ?_; rintro e w2 ⟨rfl, hb⟩
  have X2 : Hid (BoxP w2 w.heap.size p a c) := X1.out.below hb
  have B2 : Hid (Below w.heap.size w w2) := bel_trans B1.out hb
  clear hb X1 B1 HP c0 c1 c2 c3 c4 c5 c6 c7 c8 c9 c10 c11
  go_wp2_with fail
  have HS : Hid (∀ w', Below w2.heap.size w2 w' → (w'.cell? ⟨w.heap.size, 0, none⟩ = some (.int .i64 p.op) ∧ w'.cell? ⟨w.heap.size, 1, none⟩ = some (.int .i64 p.ht) ∧ w'.cell? ⟨w.heap.size, 2, none⟩ = some (.int .i64 p.ho) ∧ w'.cell? ⟨w.heap.size, 3, none⟩ = some (.int .i64 p.xid) ∧ w'.cell? ⟨w.heap.size, 4, none⟩ = some (.int .i64 p.sc) ∧ w'.cell? ⟨w.heap.size, 5, none⟩ = some (.int .i64 p.fl) ∧ w'.cell? ⟨w.heap.size, 6, none⟩ = some (.int .i64 p.ci) ∧ w'.cell? ⟨w.heap.size, 7, none⟩ = some (.int .i64 p.yi) ∧ w'.cell? ⟨w.heap.size, 8, none⟩ = some (.int .i64 p.si) ∧ w'.cell? ⟨w.heap.size, 9, none⟩ = some (.int .i64 p.gi) ∧ w'.cell? ⟨w.heap.size, 10, none⟩ = some (.string p.ch)) ∧ Below w2.heap.size w2 w') := fun w' hb => by
    obtain ⟨c0, c1, c2, c3, c4, c5, c6, c7, c8, c9, c10, _⟩ := hcell.out _ (X2.out.below hb)
    exact ⟨⟨c0, c1, c2, c3, c4, c5, c6, c7, c8, c9, c10⟩, hb⟩
  go_region_held3 (fun w' => (w'.cell? ⟨w.heap.size, 0, none⟩ = some (.int .i64 p.op) ∧ w'.cell? ⟨w.heap.size, 1, none⟩ = some (.int .i64 p.ht) ∧ w'.cell? ⟨w.heap.size, 2, none⟩ = some (.int .i64 p.ho) ∧ w'.cell? ⟨w.heap.size, 3, none⟩ = some (.int .i64 p.xid) ∧ w'.cell? ⟨w.heap.size, 4, none⟩ = some (.int .i64 p.sc) ∧ w'.cell? ⟨w.heap.size, 5, none⟩ = some (.int .i64 p.fl) ∧ w'.cell? ⟨w.heap.size, 6, none⟩ = some (.int .i64 p.ci) ∧ w'.cell? ⟨w.heap.size, 7, none⟩ = some (.int .i64 p.yi) ∧ w'.cell? ⟨w.heap.size, 8, none⟩ = some (.int .i64 p.si) ∧ w'.cell? ⟨w.heap.size, 9, none⟩ = some (.int .i64 p.gi) ∧ w'.cell? ⟨w.heap.size, 10, none⟩ = some (.string p.ch)) ∧ Below w2.heap.size w2 w')
    (first | exact HS.out _ (below_drewN (Below.refl w2.heap.size _) 1) | exact HS.out _ sB)
    (first | (go_at_call 35; have tB := (‹_ ∧ Below w2.heap.size w2 _›).2; refine (NUM.out _ _ _ (by assumption) (by decide)).mono ?_; rintro e wN ⟨rfl, hbN⟩; have sB := bel_trans tB hbN; clear tB hbN))
  have sF := (‹_ ∧ Below w2.heap.size w2 _›).2
  have B3 : Hid (Below w.heap.size w wN) := bel_trans B2.out sF
  rename World => w3
  rw [HCT.out]
  obtain ⟨hz1, hz2, hz3, hz4, hz5⟩ := HZZ.out
  obtain ⟨cs, MK, CV⟩ := made_any (208 - chs) (by omega)
  have HCV : Hid (_) := CV
  obtain ⟨Z, hZ⟩ : ∃ Z, Z = mk (List.replicate (208 - chs) 0) := ⟨_, rfl⟩
  have HZ : Hid (_) := HCAT.out Z hZ
  have hZs : Z.size = 208 - chs := by rw [hZ, size_mk, List.length_replicate]
  rw [← hZ] at HCV
  have k1 : ¬ 9223372036854775807 < CT.size + Z.size := by omega
  have k2 : ¬ 9223372036854775807 < CT.size + Z.size + (G 1669485411 4).size := by omega
  have k3 : ¬ 9223372036854775807 < CT.size + Z.size + (G 1669485411 4).size + O.size := by omega
  have hsub : IntKind.i64.wrap (236 - (CT.size : Int)) = ((208 - chs : Nat) : Int) := by rw [wrap_in _ (by omega) (by omega)]; omega
  have hsub2 : wrap64 (236 - (CT.size : Int)) = ((208 - chs : Nat) : Int) := by unfold wrap64; omega
  clear hZ hZs hz1 hz2 hz3 hz4 hz5 HZZ HCT HS CV HCAT sF
  obtain ⟨nz, hnz⟩ : ∃ nz : Nat, 208 - chs = nz := ⟨_, rfl⟩
  rw [hnz] at MK HCV hsub hsub2
  clear hnz
  go_wp2_with fail
  have CV0 := HCV.out w3 (w3.alloc (.cells cs 5)).drew (below_drewN (Below.refl _ _) 1)
  have D0 : Hid (Below w.heap.size w w3.drew) := bel_trans B3 (below_drewN (Below.refl _ _) 1)
  have D1 : Hid (Below w.heap.size w (w3.alloc (.cells cs 5)).drew) := bel_trans (bel_trans B3 ((Below.refl _ _).alloc (Nat.le_refl _) (.cells cs 5))) (below_drewN (Below.refl _ _) 1)
  go_region_with (go_at_call 35; refine (NUM.out _ _ _ (by assumption) (by decide)).mono ?_; rintro e w5 ⟨rfl, hb5⟩; have CV5 := HCV.out w5 _ (Below.refl _ _); (first | (have CV6 := HCV.out w3 w5 (bel_trans (below_drewN (Below.refl _ _) 1) hb5)) | skip))
  all_goals (go_wp2; go_ret2; refine ⟨by rw [← HZ.out]; kernel_rfl, ?_⟩; first | exact bel_trans D1.out hb5 | exact bel_trans (bel_trans D0.out hb5) ((Below.refl _ _).alloc (Nat.le_refl _) _))
theorem rpPut_no (p : Pk) (a : Option Addr) (c : Nat) (w : World) (hL : OpLies w a p.os) (hl : p.os.length ≤ 10000000000000) (hch : p.ch.size ≤ maxLen) (hm : mayP p = false) :
    Calls Try.prog 12 #[pv p a c] w fun e w' => e = .returned (.tuple #[.string ⟨#[]⟩, .int .i64 700]) ∧ Below w.heap.size w w' := by
  have HM : Hid (∀ w', Below w.heap.size w w' → _) := fun w' hb => rpMay_c p a c w' (hL.below hb) hl hch
  rw [hm] at HM
  have hx := (BoxP.new w p a c).all
  have B0 : Hid (Below w.heap.size w (w.alloc (.cells (cellsP p a c) 40))) := (Below.refl w.heap.size w).alloc (Nat.le_refl _) _
  obtain ⟨w0, hw0⟩ : ∃ w0, w.alloc (.cells (cellsP p a c) 40) = w0 := ⟨_, rfl⟩
  rw [hw0] at hx B0
  obtain ⟨c0, c1, c2, c3, c4, c5, c6, c7, c8, c9, c10, c11⟩ := hx
  clear hL hm hl hch
  simp only [pv, cellsP] at *
  go_enter Try.func12, Try.ntmps12
  go_wp2_with fail
  refine (HM.out _ B0.out).mono ?_; rintro e w1 ⟨rfl, hb⟩
  have B1 : Hid (Below w.heap.size w w1) := bel_trans B0.out hb
  clear hb
  go_wp2
  go_ret2
  exact ⟨rfl, B1.out⟩
theorem rpPut_long (p : Pk) (a : Option Addr) (c : Nat) (w : World) (hL : OpLies w a p.os) (hm : mayP p = true) (hp : (putA p.os).2 ≠ 0) :
    Calls Try.prog 12 #[pv p a c] w fun e w' => e = .returned (.tuple #[.string ⟨#[]⟩, .int .i64 700]) ∧ Below w.heap.size w w' := by
  obtain ⟨_, _, _, h16, ho⟩ := (mayP_iff p).1 hm
  have h32 := ho.1
  have HM : Hid (∀ w', Below w.heap.size w w' → _) := fun w' hb => rpMay_c p a c w' (hL.below hb) (by omega) (by unfold maxLen; omega)
  rw [hm] at HM
  have HP : Hid (∀ w', Below w.heap.size w w' → _) := fun w' hb => rPut_c a c p.os w' (by omega) (hL.below hb)
  have hne : ((putA p.os).2 != 0) = true := by simpa using hp
  generalize (putA p.os).2 = E at *
  generalize mk (putA p.os).1 = T at *
  have X0 : Hid (BoxP (w.alloc (.cells (cellsP p a c) 40)) w.heap.size p a c) := BoxP.new w p a c
  have B0 : Hid (Below w.heap.size w (w.alloc (.cells (cellsP p a c) 40))) := (Below.refl w.heap.size w).alloc (Nat.le_refl _) _
  obtain ⟨w0, hw0⟩ : ∃ w0, w.alloc (.cells (cellsP p a c) 40) = w0 := ⟨_, rfl⟩
  rw [hw0] at X0 B0
  obtain ⟨c0, c1, c2, c3, c4, c5, c6, c7, c8, c9, c10, c11⟩ := X0.out.all
  have hcell : Hid (∀ w', BoxP w' w.heap.size p a c → _) := fun w' h => h.all
  clear hL hm hp h16 ho h32
  simp only [pv, cellsP] at *
  go_enter Try.func12, Try.ntmps12
  go_wp2_with fail
  refine (HM.out _ B0.out).mono ?_; rintro e w1 ⟨rfl, hb⟩
  have B1 : Hid (Below w.heap.size w w1) := bel_trans B0.out hb
  obtain ⟨d0, d1, d2, d3, d4, d5, d6, d7, d8, d9, d10, d11⟩ := hcell.out _ (X0.out.below hb)
  clear hb B0 X0 HM hw0 c0 c1 c2 c3 c4 c5 c6 c7 c8 c9 c10 c11
  go_wp2_with fail
  refine (HP.out _ B1.out).mono ?_; rintro e w2 ⟨rfl, hb⟩
  have B2 : Hid (Below w.heap.size w w2) := bel_trans B1.out hb
  clear hb B1 HP
  go_wp2
  go_ret2
  exact ⟨rfl, B2.out⟩
theorem rpPut_c (p : Pk) (a : Option Addr) (c : Nat) (w : World) (hL : OpLies w a p.os) (hl : p.os.length ≤ 10000000000000) (hch : p.ch.size ≤ maxLen) :
    Calls Try.prog 12 #[pv p a c] w fun e w' => e = .returned (.tuple #[.string (mk (putP p).1), .int .i64 (putP p).2]) ∧ Below w.heap.size w w' := by
  unfold putP
  cases hm : mayP p with
  | false => simpa [mk] using rpPut_no p a c w hL hl hch hm
  | true =>
    by_cases hp : (putA p.os).2 = 0
    · simpa [hp] using rpPut_yes p a c w hL hm hp
    · simpa [hp, mk] using rpPut_long p a c w hL hm hp
end Go.Proofs.Ytegoaaamlfehpaa
