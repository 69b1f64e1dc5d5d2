/-
  Contract of package packet's Put, at every packet.
-/
import Derived.Test.YtegoaaamlfehpaaPackHead
namespace Go.Proofs.Ytegoaaamlfehpaa
open Go.ChangeShapes Go.WideShapes Go.ChangeAt Go.RowKit Go.Pin Go.PlainAid

set_option maxHeartbeats 2000000 in
theorem pPut_no (p : Pk) (a : Option Addr) (c : Nat) (w : World) (hL : OpLies w a p.os) (hch : p.ch.size ≤ maxLen) (h : (mayP p && decide ((putA p.os).2 = 0)) = false) :
    Calls Try.prog 11 #[pv p a c] w fun e w' => e = .returned (.tuple #[.string ⟨#[]⟩, .int .i64 700]) ∧ Below w.heap.size w w' := by
  have HP : Hid (∀ w', Below w.heap.size w w' → _) := fun w' hb => oPut_c a c p.os w' (hL.below hb)
  have HM : Hid (∀ w', Below w.heap.size w w' → _) := fun w' hb => pMay_c p a c w' (hL.below hb) hch
  have BX : Hid (BoxP (w.alloc (.cells (cellsP p a c) 40)) w.heap.size p a c) := BoxP.new w p a c
  generalize mayP p = V at *
  obtain ⟨E, hE⟩ : ∃ E, (putA p.os).2 = E := ⟨_, rfl⟩
  rw [hE] at HP h
  generalize mk (putA p.os).1 = T at *
  have hcell : Hid (∀ w', BoxP w' w.heap.size p a c → _) := fun w' h => h.all
  have hbel : Hid (∀ w' w'', BoxP w' w.heap.size p a c → Below w'.heap.size w' w'' → BoxP w'' w.heap.size p a c) := fun w' w'' h1 h2 => h1.below h2
  have HE : Hid (V = true → (E != 0) = true) := by intro hv; rw [hv] at h; simpa using h
  clear hL hch h hE
  simp only [pv, cellsP] at *
  have B0 : Hid (Below w.heap.size w _) := (Below.refl w.heap.size w).alloc (Nat.le_refl _) (.cells #[.int .i64 p.op, .int .i64 p.ht, .int .i64 p.ho, .int .i64 p.xid, .int .i64 p.sc, .int .i64 p.fl, .int .i64 p.ci, .int .i64 p.yi, .int .i64 p.si, .int .i64 p.gi, .string p.ch, .slice a p.os.length c] 40)
  go_enter Try.func11, Try.ntmps11
  go_wp2_with fail
  refine (HP.out _ B0.out).mono ?_; rintro e w1 ⟨rfl, hb⟩
  have B1 : Hid (Below w.heap.size w w1) := bel_trans B0.out hb
  have X1 : Hid (BoxP w1 w.heap.size p a c) := hbel.out _ _ BX.out hb
  obtain ⟨c0, c1, c2, c3, c4, c5, c6, c7, c8, c9, c10, c11⟩ := hcell.out _ X1.out
  clear hb B0 BX HP
  go_wp2_with fail
  refine (HM.out _ B1.out).mono ?_; rintro e w2 ⟨rfl, hb⟩
  have B2 := bel_trans B1.out hb
  clear hb c0 c1 c2 c3 c4 c5 c6 c7 c8 c9 c10 c11 HM
  cases V
  · go_wp2
    go_ret2
    exact ⟨rfl, B2⟩
  · have hne := HE.out rfl
    go_wp2
    go_ret2
    exact ⟨rfl, B2⟩
set_option maxHeartbeats 2000000 in
theorem pPut_yes (p : Pk) (a : Option Addr) (c : Nat) (w : World) (hL : OpLies w a p.os) (hm : mayP p = true) (he : (putA p.os).2 = 0) :
    Calls Try.prog 11 #[pv p a c] w fun e w' => e = .returned (.tuple #[.string (mk (headP p ++ putO p.os)), .int .i64 0]) ∧ Below w.heap.size w w' := by
  obtain ⟨_, _, _, h16, _⟩ := (mayP_iff p).1 hm
  obtain ⟨k1, k2, k3⟩ := putA_cases p.os
  obtain ⟨ho, hol⟩ := k2.1 he
  have HP : Hid (∀ w', Below w.heap.size w w' → _) := fun w' hb => oPut_c a c p.os w' (hL.below hb)
  have HM : Hid (∀ w', Below w.heap.size w w' → _) := fun w' hb => pMay_c p a c w' (hL.below hb) (by unfold maxLen; omega)
  rw [hm] at HM
  rw [k3 ho hol] at HP
  simp only at HP
  have HF : Hid (∀ w, _) := fun w => from_g 0 none 0 0 w
  have HH : Hid (∀ b w, Wr w b 0 false ⟨[], [], false⟩ → _) := fun b w h => head_c b p a c w h hm
  have hhl := head_len p h16
  have HT : Hid (∀ b w, Wr w b 0 false ⟨headP p, [], false⟩ → Calls Try.prog 33 #[.pointer (some ⟨b, 0, none⟩), .string (mk (putO p.os))] w fun e w' => e = .returned (.tuple #[]) ∧ Wr w' b 0 false ⟨headP p ++ putO p.os, [], false⟩ ∧ Ink b w w') := by
    intro b w h
    have := text_g b 0 false ⟨headP p, [], false⟩ (mk (putO p.os)) w h (by simp only; omega) (by rw [size_mk]; omega)
    rw [textW_rf0, bs_mk] at this
    exact this
  have HG : Hid (∀ (b : Nat) (w : World), Wr w b 0 false ⟨headP p ++ putO p.os, [], false⟩ → Calls Try.prog 25 #[.pointer (some ⟨b, 0, none⟩)] w fun e w' => e = .returned (.string (mk (headP p ++ putO p.os))) ∧ w' = w) := fun b w hW => given_g b 0 false _ w hW
  have BX : Hid (BoxP (w.alloc (.cells (cellsP p a c) 40)) w.heap.size p a c) := BoxP.new w p a c
  have hcell : Hid (∀ w', BoxP w' w.heap.size p a c → _) := fun w' h => h.all
  have hbel : Hid (∀ w' w'', BoxP w' w.heap.size p a c → Below w'.heap.size w' w'' → BoxP w'' w.heap.size p a c) := fun w' w'' h1 h2 => h1.below h2
  generalize mk (putO p.os) = T at *
  obtain ⟨R, hR⟩ : ∃ R, mk (headP p ++ putO p.os) = R := ⟨_, rfl⟩
  rw [hR] at HG ⊢
  generalize headP p ++ putO p.os = RL at *
  generalize headP p = H at *
  clear hL hm he k1 k2 k3 ho hol h16 hhl hR
  simp only [pv, cellsP] at *
  have B0 : Hid (Below w.heap.size w _) := (Below.refl w.heap.size w).alloc (Nat.le_refl _) (.cells #[.int .i64 p.op, .int .i64 p.ht, .int .i64 p.ho, .int .i64 p.xid, .int .i64 p.sc, .int .i64 p.fl, .int .i64 p.ci, .int .i64 p.yi, .int .i64 p.si, .int .i64 p.gi, .string p.ch, .slice a p.os.length c] 40)
  go_enter Try.func11, Try.ntmps11
  go_wp2_with fail
  refine (HP.out _ B0.out).mono ?_; rintro e w1 ⟨rfl, hb⟩
  have B1 : Hid (Below w.heap.size w w1) := bel_trans B0.out hb
  have X1 : Hid (BoxP w1 w.heap.size p a c) := hbel.out _ _ BX.out hb
  obtain ⟨c0, c1, c2, c3, c4, c5, c6, c7, c8, c9, c10, c11⟩ := hcell.out _ X1.out
  clear hb B0 BX HP
  go_wp2_with fail
  refine (HM.out _ B1.out).mono ?_; rintro e w2 ⟨rfl, hb⟩
  have B2 : Hid (Below w.heap.size w w2) := bel_trans B1.out hb
  have X2 : Hid (BoxP w2 w.heap.size p a c) := hbel.out _ _ X1.out hb
  clear hb c0 c1 c2 c3 c4 c5 c6 c7 c8 c9 c10 c11 HM B1 X1
  go_wp2_with fail
  refine (HF.out _).mono ?_; rintro e w3 ⟨rfl, hb⟩
  have X3 : Hid (BoxP w3 w.heap.size p a c) := hbel.out _ _ X2.out hb
  have B3 : Hid (Below w.heap.size w w3) := bel_trans B2.out hb
  have W4 : Hid (Wr (w3.alloc (.cells #[.int .i64 0, .slice none 0 0, .slice none 0 0, .bool false] 73)) w3.heap.size 0 false ⟨[], [], false⟩) := Wr.new w3 _
  have B4 : Hid (Below w.heap.size w (w3.alloc (.cells #[.int .i64 0, .slice none 0 0, .slice none 0 0, .bool false] 73))) := B3.out.alloc B3.out.size _
  have X4 : Hid (BoxP (w3.alloc (.cells #[.int .i64 0, .slice none 0 0, .slice none 0 0, .bool false] 73)) w.heap.size p a c) := hbel.out _ _ X3.out ((Below.refl _ _).alloc (Nat.le_refl _) _)
  have hle := B3.out.size
  clear hb HF X2 B2 X3 B3
  obtain ⟨c0, c1, c2, c3, c4, c5, c6, c7, c8, c9, c10, c11⟩ := hcell.out _ X4.out
  go_wp2_with fail
  refine (HH.out _ _ W4.out).mono ?_; rintro e w5 ⟨rfl, hW, hI⟩
  have W5 : Hid (_) := hW
  have B5 : Hid (Below w.heap.size w w5) := B4.out.trans (hI.bel.mono hle)
  clear hW hI W4 B4 X4 HH c0 c1 c2 c3 c4 c5 c6 c7 c8 c9 c10 c11
  go_wp2_with fail
  refine (HT.out _ _ W5.out).mono ?_; rintro e w6 ⟨rfl, hW, hI⟩
  have W6 : Hid (_) := hW
  have B6 : Hid (Below w.heap.size w w6) := B5.out.trans (hI.bel.mono hle)
  clear hW hI W5 B5 HT
  go_wp2_with fail
  refine (HG.out _ _ W6.out).mono ?_; rintro e w7 ⟨rfl, rfl⟩
  go_wp2
  go_ret2
  exact ⟨rfl, B6.out⟩
/-- Put: every packet. -/
theorem pPut_c (p : Pk) (a : Option Addr) (c : Nat) (w : World) (hL : OpLies w a p.os) (hch : p.ch.size ≤ maxLen) :
    Calls Try.prog 11 #[pv p a c] w fun e w' => e = .returned (.tuple #[.string (mk (putP p).1), .int .i64 (putP p).2]) ∧ Below w.heap.size w w' := by
  unfold putP
  cases h : mayP p && decide ((putA p.os).2 = 0) with
  | false => exact pPut_no p a c w hL hch h
  | true =>
    simp only [Bool.and_eq_true, decide_eq_true_eq] at h
    exact pPut_yes p a c w hL h.1 h.2
end Go.Proofs.Ytegoaaamlfehpaa
