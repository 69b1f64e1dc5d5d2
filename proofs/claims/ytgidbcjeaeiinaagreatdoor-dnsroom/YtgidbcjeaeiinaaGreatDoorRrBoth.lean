/-
  What is put is told again: records, one behind the other.
-/
import Derived.Test.YtgidbcjeaeiinaaGreatDoorRrFacts
import Derived.Test.YtgidbcjeaeiinaaGreatDoorRrPut2
namespace Go.Proofs.YtgidbcjeaeiinaaGreatDoor
set_option maxRecDepth 100000
open Go.ChangeShapes Go.WideShapes Go.ChangeAt Go.RowKit Go.Pin Go.PlainAid

/-- What a record's type names, put at place fr. -/
def dataL (fr : Int) (ks : List Kn) (r : Rec) : Option (List UInt8 × List Kn) :=
  if r.ty = 1 then some (bs (be r.ad 4), ks)
  else if isN r.ty then if mayPutL fr ks (bs r.tg) then some (putS ks (labsL (bs r.tg)), ks ++ putN ks fr (labsL (bs r.tg))) else none
  else if r.ty = 6 then
    if mayPutL fr ks (bs r.tg) then
      if mayPutL (fr + (putS ks (labsL (bs r.tg))).length) (ks ++ putN ks fr (labsL (bs r.tg))) (bs r.tg) then
        some (putS ks (labsL (bs r.tg)) ++ putS (ks ++ putN ks fr (labsL (bs r.tg))) (labsL (bs r.tg)) ++ bs (be r.se 4) ++ bs (be 60 4) ++ bs (be 60 4) ++ bs (be 600 4) ++ bs (be 60 4),
          ks ++ putN ks fr (labsL (bs r.tg)) ++ putN (ks ++ putN ks fr (labsL (bs r.tg))) (fr + (putS ks (labsL (bs r.tg))).length) (labsL (bs r.tg)))
      else none
    else none
  else if r.ty = 16 then some (bs (be r.tx.size 1) ++ bs r.tx, ks)
  else some (bs r.tx, ks)
/-- A record put. -/
def putL (at_ : Int) (ks : List Kn) (r : Rec) : Option (List UInt8 × List Kn) :=
  if mayR r && mayPutL at_ ks (bs r.n) then
    match dataL (at_ + (putS ks (labsL (bs r.n))).length + 10) (ks ++ putN ks at_ (labsL (bs r.n))) r with
    | none => none
    | some (D, ks') => some (putS ks (labsL (bs r.n)) ++ bs (be r.ty 2) ++ bs (be 1 2) ++ bs (be r.ttl 4) ++ bs (be D.length 2) ++ D, ks')
  else none

theorem nameW_yes {at_ : Int} {n : List UInt8} {x : Wt} (hx : x.rf = false) (h : mayPutL (at_ + x.P.length) x.ks n = true) : nameW at_ n x = ⟨x.P ++ putS x.ks (labsL n), x.ks ++ putN x.ks (at_ + x.P.length) (labsL n), false⟩ := by simp [nameW, hx, h]
theorem nameW_no {at_ : Int} {n : List UInt8} {x : Wt} (hx : x.rf = false) (h : mayPutL (at_ + x.P.length) x.ks n = false) : (nameW at_ n x).rf = true := by simp [nameW, hx, h]
theorem dataW_none {at_ : Int} {r : Rec} {x : Wt} (hx : x.rf = false) (h : dataL (at_ + x.P.length) x.ks r = none) : (dataW at_ r x).rf = true := by
  unfold dataL at h
  unfold dataW
  split
  · rename_i h1; rw [if_pos h1] at h; cases h
  · rename_i h1
    rw [if_neg h1] at h
    split
    · rename_i h2
      rw [if_pos h2] at h
      cases hm : mayPutL (at_ + x.P.length) x.ks (bs r.tg) with
      | true => rw [hm] at h; cases h
      | false => exact nameW_no hx hm
    · rename_i h2
      rw [if_neg h2] at h
      split
      · rename_i h3
        rw [if_pos h3] at h
        cases hm : mayPutL (at_ + x.P.length) x.ks (bs r.tg) with
        | false => unfold soaW; simp only [numW_rf]; exact nameW_rf (nameW_no hx hm)
        | true =>
          rw [hm] at h
          simp only [if_true] at h
          unfold soaW
          simp only [numW_rf]
          rw [nameW_yes hx hm]
          refine nameW_no rfl ?_
          simp only [List.length_append, Int.natCast_add, ← Int.add_assoc]
          cases hm2 : mayPutL (at_ + x.P.length + (putS x.ks (labsL (bs r.tg))).length) (x.ks ++ putN x.ks (at_ + x.P.length) (labsL (bs r.tg))) (bs r.tg) with
          | true => rw [hm2] at h; cases h
          | false => rfl
      · rename_i h3
        rw [if_neg h3] at h
        split at h <;> cases h
theorem dataW_some {at_ : Int} {r : Rec} {x : Wt} {D : List UInt8} {ks' : List Kn} (hx : x.rf = false) (h : dataL (at_ + x.P.length) x.ks r = some (D, ks')) : dataW at_ r x = ⟨x.P ++ D, ks', false⟩ := by
  unfold dataL at h
  unfold dataW
  split
  · rename_i h1
    rw [if_pos h1] at h
    simp only [Option.some.injEq, Prod.mk.injEq] at h
    obtain ⟨rfl, rfl⟩ := h
    simp [numW, textW, hx]
  · rename_i h1
    rw [if_neg h1] at h
    split
    · rename_i h2
      rw [if_pos h2] at h
      split at h
      · rename_i hm
        simp only [Option.some.injEq, Prod.mk.injEq] at h
        obtain ⟨rfl, rfl⟩ := h
        exact nameW_yes hx hm
      · cases h
    · rename_i h2
      rw [if_neg h2] at h
      split
      · rename_i h3
        rw [if_pos h3] at h
        split at h
        · rename_i hm
          split at h
          · rename_i hm2
            simp only [Option.some.injEq, Prod.mk.injEq] at h
            obtain ⟨rfl, rfl⟩ := h
            unfold soaW
            rw [nameW_yes hx hm, nameW_yes rfl (by simp only [List.length_append, Int.natCast_add, ← Int.add_assoc]; exact hm2)]
            simp [numW, textW, ← Int.add_assoc]
          · cases h
        · cases h
      · rename_i h3
        rw [if_neg h3] at h
        split
        · rename_i h4
          rw [if_pos h4] at h
          simp only [Option.some.injEq, Prod.mk.injEq] at h
          obtain ⟨rfl, rfl⟩ := h
          simp [textW, numW, hx]
        · rename_i h4
          rw [if_neg h4] at h
          simp only [Option.some.injEq, Prod.mk.injEq] at h
          obtain ⟨rfl, rfl⟩ := h
          simp [textW, hx]
theorem countW_rf {at_ : Int} {r : Rec} {x : Wt} (hx : x.rf = true) : (countW at_ r x).rf = true := by
  have h := dataW_rf (at_ := at_) (r := r) (x := numW 0 2 x) (by rw [numW_rf]; exact hx)
  simp [countW, h]
theorem over_mid (A Z D s : List UInt8) (h : Z.length = s.length) : over (A ++ Z ++ D) A.length s = A ++ s ++ D := by
  unfold over
  have e1 : (A ++ Z ++ D).take A.length = A := by rw [List.append_assoc, List.take_left]
  have e2 : (A ++ Z ++ D).drop (A.length + s.length) = D := by rw [← h, ← List.length_append, List.drop_left]
  rw [e1, e2]
  simp
theorem putRec_is (at_ : Int) (ks : List Kn) (r : Rec) : putRec at_ ks r = putL at_ ks r := by
  unfold putRec putL
  cases hm : mayR r with
  | false => simp
  | true =>
    simp only [if_true, Bool.true_and]
    have e4 : ∀ x1 : Wt, putW at_ ks r = countW at_ r (numW r.ttl 4 (numW 1 2 (numW r.ty 2 x1))) ∨ x1 ≠ nameW at_ (bs r.n) ⟨[], ks, false⟩ := fun x1 => by
      by_cases h : x1 = nameW at_ (bs r.n) ⟨[], ks, false⟩
      · left; rw [h]; rfl
      · exact .inr h
    cases hp : mayPutL at_ ks (bs r.n) with
    | false =>
      have h1 : (nameW at_ (bs r.n) ⟨[], ks, false⟩).rf = true := nameW_no rfl (by simpa using hp)
      have h2 : (putW at_ ks r).rf = true := by
        refine countW_rf ?_
        simp only [numW_rf]
        exact h1
      simp [h2]
    | true =>
      have h1 : nameW at_ (bs r.n) ⟨[], ks, false⟩ = ⟨putS ks (labsL (bs r.n)), ks ++ putN ks at_ (labsL (bs r.n)), false⟩ := by
        have := nameW_yes (at_ := at_) (n := bs r.n) (x := ⟨[], ks, false⟩) rfl (by simpa using hp)
        simpa using this
      generalize putS ks (labsL (bs r.n)) = N at *
      generalize ks ++ putN ks at_ (labsL (bs r.n)) = k1 at *
      have h2 : putW at_ ks r = countW at_ r ⟨N ++ bs (be r.ty 2) ++ bs (be 1 2) ++ bs (be r.ttl 4), k1, false⟩ := by
        unfold putW; rw [h1]; rfl
      rw [h2]
      have hl : (numW 0 2 ⟨N ++ bs (be r.ty 2) ++ bs (be 1 2) ++ bs (be r.ttl 4), k1, false⟩).P.length = N.length + 10 := by simp [numW, textW, length_bs, size_be]
      have hfr : at_ + ((numW 0 2 ⟨N ++ bs (be r.ty 2) ++ bs (be 1 2) ++ bs (be r.ttl 4), k1, false⟩).P.length : Int) = at_ + N.length + 10 := by rw [hl]; simp; omega
      cases hd : dataL (at_ + N.length + 10) k1 r with
      | none =>
        have h3 : (countW at_ r ⟨N ++ bs (be r.ty 2) ++ bs (be 1 2) ++ bs (be r.ttl 4), k1, false⟩).rf = true := by
          have := dataW_none (x := numW 0 2 ⟨N ++ bs (be r.ty 2) ++ bs (be 1 2) ++ bs (be r.ttl 4), k1, false⟩) rfl (by rw [hfr]; exact hd)
          unfold countW
          simp only [this, if_true]
        rw [if_pos h3]
        rfl
      | some q =>
        obtain ⟨D, ks'⟩ := q
        have h3 := dataW_some (x := numW 0 2 ⟨N ++ bs (be r.ty 2) ++ bs (be 1 2) ++ bs (be r.ttl 4), k1, false⟩) rfl (by rw [hfr]; exact hd)
        have h4 : countW at_ r ⟨N ++ bs (be r.ty 2) ++ bs (be 1 2) ++ bs (be r.ttl 4), k1, false⟩ = ⟨N ++ bs (be r.ty 2) ++ bs (be 1 2) ++ bs (be r.ttl 4) ++ bs (be D.length 2) ++ D, ks', false⟩ := by
          unfold countW
          simp only [h3, Bool.false_eq_true, if_false]
          congr 1
          rw [show (numW 0 2 ⟨N ++ bs (be r.ty 2) ++ bs (be 1 2) ++ bs (be r.ttl 4), k1, false⟩).P = N ++ bs (be r.ty 2) ++ bs (be 1 2) ++ bs (be r.ttl 4) ++ bs (be 0 2) from rfl]
          rw [over_mid _ _ _ _ (by simp [length_bs, size_be])]
          congr 4
          simp; omega
        rw [h4]
        rfl

/-! ### told again -/
theorem bs_app (a b : ByteArray) : bs (a ++ b) = bs a ++ bs b := by simp [bs]
theorem mk_mid (A B : List UInt8) (M : ByteArray) : mk (A ++ bs M ++ B) = mk A ++ M ++ mk B := by
  apply bs_inj
  rw [bs_app, bs_app, bs_mk, bs_mk, bs_mk]
theorem num_at (M A B : List UInt8) (v : Int) (k p : Nat) (hM : M = A ++ bs (be v k) ++ B) (hp : p = A.length) (h : inB v k) : num (mk M) p k = v := by
  subst hM hp
  rw [mk_mid]
  have := num_mid (mk A) (be v k) (mk B) k (by rw [size_be]; exact Nat.le_refl _)
  rw [size_mk] at this
  rw [this]
  exact num_be v k h
theorem name_at (M A B : List UInt8) (ks : List Kn) (n : List UInt8) (p q : Nat) (hg : Go.Pin.Good A ks) (hn : mayL n = true) (hM : M = A ++ putS ks (labsL n) ++ B) (hp : p = A.length) (hq : q = p + (putS ks (labsL n)).length) : getL M p = (n, (q : Int), 0) := by
  subst hM hp hq
  have h := (put_told hg (labsL n) [] A.length (fun x hx => labsL_ok hx) (labsL_len n) (Nat.le_refl _)).1
  simp only [List.append_nil] at h
  have h2 := get_told (h.more B) (fun x hx => labsL_ok hx) (labsL_len n)
  rw [join_labs hn] at h2
  rw [h2]
  simp
theorem good_name {A : List UInt8} {ks : List Kn} (hg : Go.Pin.Good A ks) (n : List UInt8) : Go.Pin.Good (A ++ putS ks (labsL n)) (ks ++ putN ks (A.length : Nat) (labsL n)) := by
  have h := put_good hg (labsL n) [] (fun x hx => labsL_ok hx) (labsL_len n)
  simp only [List.append_nil] at h
  intro k hk
  rcases List.mem_append.1 hk with hk | hk
  · exact hg.more _ k hk
  · exact h k hk
theorem ext_at (M A X B : List UInt8) (p q : Nat) (hM : M = A ++ X ++ B) (hp : p = A.length) (hq : q = p + X.length) : (mk M).extract p q = mk X := by
  subst hM hp hq
  apply bs_inj
  simp [bs, mk]

theorem may_put {at_ : Int} {ks : List Kn} {n : List UInt8} (h : mayPutL at_ ks n = true) : 0 ≤ at_ ∧ at_ ≤ 65535 ∧ mayL n = true ∧ ks.all knownL = true := by
  simp only [mayPutL, Bool.and_eq_true, decide_eq_true_eq] at h
  exact ⟨h.1.1.1, h.1.1.2, h.1.2, h.2⟩

theorem dat_put {A : List UInt8} {ks : List Kn} {r : Rec} {D : List UInt8} {ks' : List Kn} (hm : mayR r = true) (hg : Go.Pin.Good A ks) (h : dataL (A.length : Nat) ks r = some (D, ks')) (B : List UInt8) : Dat (mk (A ++ D ++ B)) A.length D.length r ∧ Go.Pin.Good (A ++ D) ks' := by
  have hmm := hm
  simp only [mayR, upB, Bool.and_eq_true, decide_eq_true_eq] at hmm
  obtain ⟨⟨⟨⟨⟨⟨⟨_, _⟩, _⟩, _⟩, had⟩, htg⟩, hse⟩, htx⟩ := hmm
  unfold dataL at h
  unfold Dat
  by_cases h1 : r.ty = 1
  · rw [if_pos h1] at h ⊢
    simp only [Option.some.injEq, Prod.mk.injEq] at h
    obtain ⟨rfl, rfl⟩ := h
    refine ⟨⟨by rw [length_bs, size_be], by rw [size_mk]; simp [length_bs, size_be], ?_⟩, hg.more _⟩
    exact num_at _ A B r.ad 4 _ rfl rfl (.inr (.inr ⟨rfl, by omega, by omega⟩))
  · rw [if_neg h1] at h ⊢
    by_cases h2 : isN r.ty = true
    · rw [if_pos h2] at h ⊢
      split at h
      · rename_i hp
        simp only [Option.some.injEq, Prod.mk.injEq] at h
        obtain ⟨rfl, rfl⟩ := h
        exact ⟨name_at _ A B ks (bs r.tg) _ _ hg htg (bs_mk _) rfl rfl, good_name hg _⟩
      · cases h
    · rw [if_neg h2] at h ⊢
      by_cases h3 : r.ty = 6
      · rw [if_pos h3] at h ⊢
        split at h
        · rename_i hp
          split at h
          · rename_i hp2
            simp only [Option.some.injEq, Prod.mk.injEq] at h
            obtain ⟨rfl, rfl⟩ := h
            have g1 := good_name hg (bs r.tg)
            have hl1 : ((A.length : Nat) : Int) + (putS ks (labsL (bs r.tg))).length = ((A ++ putS ks (labsL (bs r.tg))).length : Nat) := by simp
            have g2 := good_name g1 (bs r.tg)
            rw [hl1]
            generalize ks ++ putN ks (A.length : Nat) (labsL (bs r.tg)) = k1 at *
            generalize hD1 : putS ks (labsL (bs r.tg)) = D1 at *
            generalize hD2 : putS k1 (labsL (bs r.tg)) = D2 at *
            refine ⟨⟨(A ++ D1).length, (A ++ D1 ++ D2).length, ?_, ?_, ?_, ?_, ?_, ?_, ?_, ?_, ?_⟩, ?_⟩
            · exact name_at _ A (D2 ++ bs (be r.se 4) ++ bs (be 60 4) ++ bs (be 60 4) ++ bs (be 600 4) ++ bs (be 60 4) ++ B) ks (bs r.tg) _ _ hg htg (by rw [bs_mk, hD1]; simp) rfl (by rw [hD1]; simp)
            · exact name_at _ (A ++ D1) (bs (be r.se 4) ++ bs (be 60 4) ++ bs (be 60 4) ++ bs (be 600 4) ++ bs (be 60 4) ++ B) k1 (bs r.tg) _ _ g1 htg (by rw [bs_mk, hD2]; simp) rfl (by rw [hD2]; simp; omega)
            · rw [size_mk]; simp [length_bs, size_be]; omega
            · exact num_at _ (A ++ D1 ++ D2) (bs (be 60 4) ++ bs (be 60 4) ++ bs (be 600 4) ++ bs (be 60 4) ++ B) r.se 4 _ (by simp) rfl (.inr (.inr ⟨rfl, by omega, by omega⟩))
            · exact num_at _ (A ++ D1 ++ D2 ++ bs (be r.se 4)) (bs (be 60 4) ++ bs (be 600 4) ++ bs (be 60 4) ++ B) 60 4 _ (by simp) (by simp [length_bs, size_be]; omega) (.inr (.inr ⟨rfl, by omega, by omega⟩))
            · exact num_at _ (A ++ D1 ++ D2 ++ bs (be r.se 4) ++ bs (be 60 4)) (bs (be 600 4) ++ bs (be 60 4) ++ B) 60 4 _ (by simp) (by simp [length_bs, size_be]; omega) (.inr (.inr ⟨rfl, by omega, by omega⟩))
            · exact num_at _ (A ++ D1 ++ D2 ++ bs (be r.se 4) ++ bs (be 60 4) ++ bs (be 60 4)) (bs (be 60 4) ++ B) 600 4 _ (by simp) (by simp [length_bs, size_be]; omega) (.inr (.inr ⟨rfl, by omega, by omega⟩))
            · exact num_at _ (A ++ D1 ++ D2 ++ bs (be r.se 4) ++ bs (be 60 4) ++ bs (be 60 4) ++ bs (be 600 4)) B 60 4 _ (by simp) (by simp [length_bs, size_be]; omega) (.inr (.inr ⟨rfl, by omega, by omega⟩))
            · simp [length_bs, size_be]; omega
            · have := g2.more (bs (be r.se 4) ++ bs (be 60 4) ++ bs (be 60 4) ++ bs (be 600 4) ++ bs (be 60 4))
              simpa using this
          · cases h
        · cases h
      · rw [if_neg h3] at h ⊢
        by_cases h4 : r.ty = 16
        · rw [if_pos h4] at h ⊢
          simp only [Option.some.injEq, Prod.mk.injEq] at h
          obtain ⟨rfl, rfl⟩ := h
          refine ⟨⟨by rw [size_mk]; simp, by simp [length_bs, size_be]; omega, ?_, ?_⟩, hg.more _⟩
          · exact num_at _ A (bs r.tx ++ B) r.tx.size 1 _ (by simp) rfl (.inl ⟨rfl, by omega, by omega⟩)
          · rw [ext_at _ (A ++ bs (be r.tx.size 1)) (bs r.tx) B _ _ (by simp) (by simp [length_bs, size_be]) (by simp [length_bs, size_be]; omega), mk_bs]
        · rw [if_neg h4] at h ⊢
          simp only [Option.some.injEq, Prod.mk.injEq] at h
          obtain ⟨rfl, rfl⟩ := h
          refine ⟨⟨by rw [size_mk]; simp, ?_⟩, hg.more _⟩
          rw [ext_at _ A (bs r.tx) B _ _ rfl rfl rfl, mk_bs]

theorem put_inrec {A : List UInt8} {ks : List Kn} {r : Rec} {P : List UInt8} {ks' : List Kn} (hg : Go.Pin.Good A ks) (h : putL (A.length : Nat) ks r = some (P, ks')) (B : List UInt8) : mayR r = true ∧ InRec (mk (A ++ P ++ B)) (A.length : Nat) r ((A ++ P).length : Nat) ∧ Go.Pin.Good (A ++ P) ks' := by
  unfold putL at h
  split at h
  · rename_i hc
    simp only [Bool.and_eq_true] at hc
    obtain ⟨hm, hp⟩ := hc
    have hp' := may_put hp
    have hty := mayR_ty hm
    have g1 := good_name hg (bs r.n)
    generalize hN : putS ks (labsL (bs r.n)) = N at *
    generalize ks ++ putN ks (A.length : Nat) (labsL (bs r.n)) = k1 at *
    split at h
    · cases h
    · rename_i D k2 hd
      simp only [Option.some.injEq, Prod.mk.injEq] at h
      obtain ⟨rfl, rfl⟩ := h
      have hl : ((A.length : Nat) : Int) + (N.length : Nat) + 10 = ((A ++ N ++ bs (be r.ty 2) ++ bs (be 1 2) ++ bs (be r.ttl 4) ++ bs (be D.length 2)).length : Nat) := by simp [length_bs, size_be]; omega
      rw [hl] at hd
      have g2 : Go.Pin.Good (A ++ N ++ bs (be r.ty 2) ++ bs (be 1 2) ++ bs (be r.ttl 4) ++ bs (be D.length 2)) k1 := by
        have := g1.more (bs (be r.ty 2) ++ bs (be 1 2) ++ bs (be r.ttl 4) ++ bs (be D.length 2))
        simpa using this
      obtain ⟨hdat, hgood⟩ := dat_put hm g2 hd B
      have hDl : D.length ≤ 65535 := by
        have hz : r.tx.size ≤ 64 := by simp only [mayR, Bool.and_eq_true, decide_eq_true_eq] at hm; exact hm.2
        obtain ⟨D', h1, h2⟩ := dataW_len (0 : Int) r ⟨A ++ N ++ bs (be r.ty 2) ++ bs (be 1 2) ++ bs (be r.ttl 4) ++ bs (be D.length 2), k1, false⟩ hz
        rw [dataW_some (x := ⟨A ++ N ++ bs (be r.ty 2) ++ bs (be 1 2) ++ bs (be r.ttl 4) ++ bs (be D.length 2), k1, false⟩) (D := D) (ks' := k2) rfl (by rw [Int.zero_add]; exact hd)] at h1
        have := List.append_cancel_left h1
        rw [this]; omega
      refine ⟨hm, ⟨by omega, (A ++ N).length, D.length, ?_, ?_, ?_, ?_, ?_, ?_, ?_, ?_⟩, ?_⟩
      · rw [Int.toNat_natCast]
        exact name_at _ A (bs (be r.ty 2) ++ bs (be 1 2) ++ bs (be r.ttl 4) ++ bs (be D.length 2) ++ D ++ B) ks (bs r.n) _ _ hg hp'.2.2.1 (by rw [bs_mk, hN]; simp) rfl (by rw [hN]; simp)
      · rw [size_mk]; simp [length_bs, size_be]; omega
      · exact num_at _ (A ++ N) (bs (be 1 2) ++ bs (be r.ttl 4) ++ bs (be D.length 2) ++ D ++ B) r.ty 2 _ (by simp) rfl (.inr (.inl ⟨rfl, by omega, by omega⟩))
      · exact num_at _ (A ++ N ++ bs (be r.ty 2)) (bs (be r.ttl 4) ++ bs (be D.length 2) ++ D ++ B) 1 2 _ (by simp) (by simp [length_bs, size_be]; omega) (.inr (.inl ⟨rfl, by omega, by omega⟩))
      · exact num_at _ (A ++ N ++ bs (be r.ty 2) ++ bs (be 1 2)) (bs (be D.length 2) ++ D ++ B) r.ttl 4 _ (by simp) (by simp [length_bs, size_be]; omega) (.inr (.inr ⟨rfl, by omega, by omega⟩))
      · exact num_at _ (A ++ N ++ bs (be r.ty 2) ++ bs (be 1 2) ++ bs (be r.ttl 4)) (D ++ B) D.length 2 _ (by simp) (by simp [length_bs, size_be]; omega) (.inr (.inl ⟨rfl, by omega, by omega⟩))
      · simp [length_bs, size_be]; omega
      · have e1 : (A ++ N).length + 10 = (A ++ N ++ bs (be r.ty 2) ++ bs (be 1 2) ++ bs (be r.ttl 4) ++ bs (be D.length 2)).length := by simp [length_bs, size_be]; omega
        have e2 : A ++ (N ++ bs (be r.ty 2) ++ bs (be 1 2) ++ bs (be r.ttl 4) ++ bs (be D.length 2) ++ D) ++ B = A ++ N ++ bs (be r.ty 2) ++ bs (be 1 2) ++ bs (be r.ttl 4) ++ bs (be D.length 2) ++ D ++ B := by simp
        rw [e1, e2]
        exact hdat
      · have e2 : A ++ (N ++ bs (be r.ty 2) ++ bs (be 1 2) ++ bs (be r.ttl 4) ++ bs (be D.length 2) ++ D) = A ++ N ++ bs (be r.ty 2) ++ bs (be 1 2) ++ bs (be r.ttl 4) ++ bs (be D.length 2) ++ D := by simp
        rw [e2]
        exact hgood
  · cases h

/-! ### a longer message -/
theorem bt_more (s t : List UInt8) (i : Nat) (h : i < s.length) : bt (mk (s ++ t)) i = bt (mk s) i := by
  rw [bt_list, bt_list]
  simp only [mk, List.map_append]
  rw [List.getElem?_append_left (by simpa using h)]
theorem num_more (s t : List UInt8) (p : Nat) : ∀ k, p + k ≤ s.length → num (mk (s ++ t)) p k = num (mk s) p k
  | 0, _ => rfl
  | k + 1, h => by rw [num, num, num_more s t p k (by omega), bt_more s t (p + k) (by omega)]
theorem ext_more (s t : List UInt8) (p q : Nat) (h : q ≤ s.length) : (mk (s ++ t)).extract p q = (mk s).extract p q := by
  apply bs_inj
  simp [bs, mk]
  by_cases hp : p ≤ s.length
  · rw [List.drop_append_of_le_length hp, List.take_append_of_le_length (by simp; omega)]
  · rw [show q - p = 0 by omega]; simp
theorem inrec_end {s : ByteArray} {a : Int} {r : Rec} {e : Int} (h : InRec s a r e) : 0 ≤ e ∧ e ≤ s.size := by
  obtain ⟨_, m, k, _, _, _, _, _, _, rfl, hd⟩ := h
  unfold Dat at hd
  refine ⟨by omega, ?_⟩
  split at hd
  · obtain ⟨rfl, hd, _⟩ := hd; omega
  · split at hd
    · have := get_ends hd; rw [length_bs] at this; omega
    · split at hd
      · obtain ⟨j, i, _, _, _, _, _, _, _, _, _⟩ := hd; omega
      · split at hd
        · have := hd.1; omega
        · have := hd.1; omega
theorem inrec_more {s : List UInt8} {a : Int} {r : Rec} {e : Int} (h : InRec (mk s) a r e) (t : List UInt8) : InRec (mk (s ++ t)) a r e := by
  obtain ⟨ha, m, k, g, hs, v1, v2, v3, v4, he, hd⟩ := h
  rw [size_mk] at hs
  rw [bs_mk] at g
  refine ⟨ha, m, k, by rw [bs_mk]; exact get_more g t, by rw [size_mk]; simp; omega, by rw [num_more _ _ _ _ (by omega)]; exact v1, by rw [num_more _ _ _ _ (by omega)]; exact v2, by rw [num_more _ _ _ _ (by omega)]; exact v3, by rw [num_more _ _ _ _ (by omega)]; exact v4, he, ?_⟩
  unfold Dat at hd ⊢
  simp only [size_mk, bs_mk, List.length_append] at hd ⊢
  split
  · rename_i h1
    rw [if_pos h1] at hd
    exact ⟨hd.1, by omega, by rw [num_more _ _ _ _ hd.2.1]; exact hd.2.2⟩
  · rename_i h1
    rw [if_neg h1] at hd
    split
    · rename_i h2
      rw [if_pos h2] at hd
      exact get_more hd t
    · rename_i h2
      rw [if_neg h2] at hd
      split
      · rename_i h3
        rw [if_pos h3] at hd
        obtain ⟨j, i, g1, g2, hi, w1, w2, w3, w4, w5, w6⟩ := hd
        exact ⟨j, i, get_more g1 t, get_more g2 t, by omega, by rw [num_more _ _ _ _ (by omega)]; exact w1, by rw [num_more _ _ _ _ (by omega)]; exact w2, by rw [num_more _ _ _ _ (by omega)]; exact w3, by rw [num_more _ _ _ _ (by omega)]; exact w4, by rw [num_more _ _ _ _ (by omega)]; exact w5, w6⟩
      · rename_i h3
        rw [if_neg h3] at hd
        split
        · rename_i h4
          rw [if_pos h4] at hd
          exact ⟨by omega, hd.2.1, by rw [num_more _ _ _ _ (by omega)]; exact hd.2.2.1, by rw [ext_more _ _ _ _ hd.1]; exact hd.2.2.2⟩
        · rename_i h4
          rw [if_neg h4] at hd
          exact ⟨by omega, by rw [ext_more _ _ _ _ hd.1]; exact hd.2⟩

end Go.Proofs.YtgidbcjeaeiinaaGreatDoor
