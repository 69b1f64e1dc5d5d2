/-
  Plain lemmas that speak of no program but layer 4's records: messages, which may be, how they are put, what a text tells.
-/
import Derived.Test.YtgidbcjeaeiinaaGreatDoorRrIs
namespace Go.Proofs.YtgidbcjeaeiinaaGreatDoor
set_option maxRecDepth 100000
open Go.ChangeShapes Go.WideShapes Go.ChangeAt Go.RowKit Go.Pin Go.PlainAid

/-- A question: its name, its type. -/
structure Qn where
  n : ByteArray
  ty : Int
/-- A message. -/
structure Msg where
  id : Int
  rsp : Bool
  op : Int
  au : Bool
  tr : Bool
  re : Bool
  co : Int
  qs : List Qn
  an : List Rec
  sv : List Rec
  ad : List Rec
  sz : Int
def zeroM : Msg := ⟨0, false, 0, false, false, false, 0, [], [], [], [], 0⟩
def mayQ (q : Qn) : Bool := mayL (bs q.n) && upB q.ty 65535
def mayRs (rs : List Rec) : Bool := rs.all mayR && decide (rs.length ≤ 32)
def maySz (z : Int) : Bool := decide (z = 0) || (decide (512 ≤ z) && decide (z ≤ 65535))
/-- May a message be? -/
def mayM (m : Msg) : Bool := m.qs.all mayQ && upB m.id 65535 && upB m.op 15 && upB m.co 15 && decide (m.qs.length ≤ 4) && mayRs m.an && mayRs m.sv && mayRs m.ad && maySz m.sz
def bitsM (m : Msg) : Int := (if m.rsp then 32768 else 0) + m.op * 2048 + (if m.au then 1024 else 0) + (if m.tr then 512 else 0) + (if m.re then 256 else 0) + m.co
def optN (z : Int) : Nat := if 0 < z then 1 else 0
def headM (m : Msg) : List UInt8 := bs (be m.id 2) ++ bs (be (bitsM m) 2) ++ bs (be m.qs.length 2) ++ bs (be m.an.length 2) ++ bs (be m.sv.length 2) ++ bs (be ((m.ad.length + optN m.sz : Nat) : Int) 2)
/-- What is put so far, and what is known. -/
abbrev Sofar := List UInt8 × List Kn
def putQ (s : Sofar) (q : Qn) : Sofar := (s.1 ++ (putS s.2 (labsL (bs q.n)) ++ bs (be q.ty 2) ++ bs (be 1 2)), s.2 ++ putN s.2 (s.1.length : Nat) (labsL (bs q.n)))
def putR1 (s : Sofar) (r : Rec) : Sofar := match putL (s.1.length : Nat) s.2 r with
  | none => s
  | some (P, ks') => (s.1 ++ P, ks')
def quesM (m : Msg) : Sofar := m.qs.foldl putQ (headM m, [])
def bodyM (m : Msg) : Sofar := (m.an ++ m.sv ++ m.ad).foldl putR1 (quesM m)
def optL (z : Int) : List UInt8 := if 0 < z then 0 :: (bs (be 41 2) ++ bs (be z 2) ++ bs (be 0 4) ++ bs (be 0 2)) else []
/-- All of it. -/
def writtenM (m : Msg) : List UInt8 := (bodyM m).1 ++ optL m.sz
def cutM (m : Msg) : Msg := { m with tr := true, an := [], sv := [], ad := [] }
/-- What Put answers. -/
def putM (m : Msg) (most : Int) : ByteArray × Int :=
  if !mayM m || decide (most < 12) || decide (65535 < most) then (⟨#[]⟩, 500)
  else if ((writtenM m).length : Int) ≤ most then (mk (writtenM m), 0)
  else if ((writtenM (cutM m)).length : Int) ≤ most then (mk (writtenM (cutM m)), 0)
  else (⟨#[]⟩, 501)

/-! ### what a text tells -/
def takeQs (s : ByteArray) : Nat → Nat → Option (List Qn × Nat)
  | 0, a => some ([], a)
  | k + 1, a =>
    if (getL (bs s) a).2.2 = 0 ∧ (getL (bs s) a).2.1 + 4 ≤ s.size ∧ num s ((getL (bs s) a).2.1.toNat + 2) 2 = 1 then
      (takeQs s k ((getL (bs s) a).2.1.toNat + 4)).map fun x => (⟨mk (getL (bs s) a).1, num s (getL (bs s) a).2.1.toNat 2⟩ :: x.1, x.2)
    else none
def takeRs (s : ByteArray) : Nat → Nat → Option (List Rec × Nat)
  | 0, a => some ([], a)
  | k + 1, a => match getRec s (a : Int) with
    | none => none
    | some (r, e) => (takeRs s k e.toNat).map fun x => (r :: x.1, x.2)
/-- An OPT here: its size, where it ends. -/
def optAt (s : ByteArray) (a : Nat) : Option (Int × Nat) :=
  if (getL (bs s) a).2.2 = 0 ∧ (getL (bs s) a).1 = [] ∧ (getL (bs s) a).2.1 + 10 ≤ s.size ∧ num s (getL (bs s) a).2.1.toNat 2 = 41 ∧ (getL (bs s) a).2.1 + 10 + num s ((getL (bs s) a).2.1.toNat + 8) 2 ≤ s.size then
    some (max (num s ((getL (bs s) a).2.1.toNat + 2) 2) 512, ((getL (bs s) a).2.1 + 10 + num s ((getL (bs s) a).2.1.toNat + 8) 2).toNat)
  else none
def takeAd (s : ByteArray) : Nat → Nat → Int → Option (List Rec × Int × Nat)
  | 0, a, z => some ([], z, a)
  | k + 1, a, z => match (if z = 0 then optAt s a else none) with
    | some (z', e) => takeAd s k e z'
    | none => match getRec s (a : Int) with
      | none => none
      | some (r, e) => (takeAd s k e.toNat z).map fun x => (r :: x.1, x.2)
/-- The head's bits. -/
def bit (x : Int) (b : Int) : Bool := decide (x / b % 2 = 1)
/-- What Get tells. -/
def getM (s : ByteArray) : Option Msg :=
  if s.size < 12 then none
  else if (num s 2 2 / 16 % 16 ≠ 0 ∨ 4 < num s 4 2 ∨ 32 < num s 6 2 ∨ 32 < num s 8 2 ∨ 33 < num s 10 2) then none
  else match takeQs s (num s 4 2).toNat 12 with
    | none => none
    | some (qs, a1) => match takeRs s (num s 6 2).toNat a1 with
      | none => none
      | some (an, a2) => match takeRs s (num s 8 2).toNat a2 with
        | none => none
        | some (sv, a3) => match takeAd s (num s 10 2).toNat a3 0 with
          | none => none
          | some (ad, z, a4) => if a4 = s.size ∧ ad.length ≤ 32 then some ⟨num s 0 2, bit (num s 2 2) 32768, num s 2 2 / 2048 % 16, bit (num s 2 2) 1024, bit (num s 2 2) 512, bit (num s 2 2) 256, num s 2 2 % 16, qs, an, sv, ad, z⟩ else none

/-! ### what is put is told -/
theorem takeQs_step {s : ByteArray} {a q k e : Nat} {n : List UInt8} {ls : List Qn} (hg : getL (bs s) a = (n, (q : Int), 0)) (h4 : q + 4 ≤ s.size) (h1 : num s (q + 2) 2 = 1) (h : takeQs s k (q + 4) = some (ls, e)) : takeQs s (k + 1) a = some (⟨mk n, num s q 2⟩ :: ls, e) := by
  simp only [takeQs, hg, Int.toNat_natCast]
  rw [if_pos ⟨trivial, by omega, h1⟩, h]; rfl
theorem takeRs_step {s : ByteArray} {a e k e' : Nat} {r : Rec} {ls : List Rec} (hg : getRec s (a : Int) = some (r, (e : Int))) (h : takeRs s k e = some (ls, e')) : takeRs s (k + 1) a = some (r :: ls, e') := by
  simp only [takeRs, hg, Int.toNat_natCast, h]; rfl
theorem takeAd_rec {s : ByteArray} {a e k e' : Nat} {z z' : Int} {r : Rec} {ls : List Rec} (ho : z = 0 → optAt s a = none) (hg : getRec s (a : Int) = some (r, (e : Int))) (h : takeAd s k e z = some (ls, z', e')) : takeAd s (k + 1) a z = some (r :: ls, z', e') := by
  have : (if z = 0 then optAt s a else none) = none := by split <;> simp_all
  simp only [takeAd, this, hg, Int.toNat_natCast, h]; rfl
theorem takeAd_opt {s : ByteArray} {a e k e' : Nat} {z z' : Int} {ls : List Rec} (ho : optAt s a = some (z, e)) (h : takeAd s k e z = some (ls, z', e')) : takeAd s (k + 1) a 0 = some (ls, z', e') := by
  simp only [takeAd, ho, if_true, h]
/-- Where a record stands there is no OPT. -/
theorem rec_no_opt {s : ByteArray} {a : Nat} {r : Rec} {e : Int} (h : getRec s (a : Int) = some (r, e)) : optAt s a = none := by
  obtain ⟨hm, _, m, k, hg, h10, v1, _⟩ := get_inrec h
  rw [Int.toNat_natCast] at hg
  have ht := (may_zero hm).2
  unfold optAt
  rw [if_neg]
  rintro ⟨_, _, _, h41, _⟩
  rw [hg] at h41
  simp only [Int.toNat_natCast] at h41
  rw [v1] at h41
  rw [h41] at ht
  simp [typeB, isN, isT] at ht

theorem size_add (a b : ByteArray) : (a ++ b).size = a.size + b.size := ByteArray.size_append
/-- Questions, one behind the other. -/
theorem ques_told : ∀ (qs : List Qn) (A : List UInt8) (ks : List Kn) (B : List UInt8), (∀ q ∈ qs, mayQ q = true) → Go.Pin.Good A ks →
    ∃ S K, qs.foldl putQ (A, ks) = (A ++ S, K) ∧ Go.Pin.Good (A ++ S) K ∧ takeQs (mk (A ++ S ++ B)) qs.length A.length = some (qs, (A ++ S).length)
  | [], A, ks, B, _, hg => ⟨[], ks, by simp, by simpa using hg, by simp [takeQs]⟩
  | q :: qs, A, ks, B, hm, hg => by
    have hq := hm q (by simp)
    simp only [mayQ, Bool.and_eq_true, upB, decide_eq_true_eq] at hq
    obtain ⟨hn, hty⟩ := hq
    have hg1 := good_name hg (bs q.n)
    have hg2 := Good.more hg1 (bs (be q.ty 2) ++ bs (be 1 2))
    obtain ⟨S, K, h1, h2, h3⟩ := ques_told qs (A ++ putS ks (labsL (bs q.n)) ++ (bs (be q.ty 2) ++ bs (be 1 2))) (ks ++ putN ks (A.length : Nat) (labsL (bs q.n))) B (fun x hx => hm x (by simp [hx])) hg2
    refine ⟨putS ks (labsL (bs q.n)) ++ (bs (be q.ty 2) ++ bs (be 1 2)) ++ S, K, ?_, ?_, ?_⟩
    · have e0 : putQ (A, ks) q = (A ++ putS ks (labsL (bs q.n)) ++ (bs (be q.ty 2) ++ bs (be 1 2)), ks ++ putN ks (A.length : Nat) (labsL (bs q.n))) := by simp only [putQ, List.append_assoc]
      rw [List.foldl_cons, e0, h1]; simp only [List.append_assoc]
    · rw [← List.append_assoc, ← List.append_assoc]; exact h2
    · have l2 : ∀ v k, (bs (be v k)).length = k := fun v k => by rw [length_bs, size_be]
      have e1 := name_at (A ++ (putS ks (labsL (bs q.n)) ++ (bs (be q.ty 2) ++ bs (be 1 2)) ++ S) ++ B) A ((bs (be q.ty 2) ++ bs (be 1 2)) ++ S ++ B) ks (bs q.n) A.length _ hg hn (by simp only [List.append_assoc]) rfl rfl
      have e2 := num_at (A ++ (putS ks (labsL (bs q.n)) ++ (bs (be q.ty 2) ++ bs (be 1 2)) ++ S) ++ B) (A ++ putS ks (labsL (bs q.n))) (bs (be 1 2) ++ S ++ B) q.ty 2 _ (by simp only [List.append_assoc]) rfl (by unfold inB; omega)
      have e3 := num_at (A ++ (putS ks (labsL (bs q.n)) ++ (bs (be q.ty 2) ++ bs (be 1 2)) ++ S) ++ B) (A ++ putS ks (labsL (bs q.n)) ++ bs (be q.ty 2)) (S ++ B) 1 2 _ (by simp only [List.append_assoc]) rfl (by unfold inB; omega)
      have e4 : takeQs (mk (A ++ (putS ks (labsL (bs q.n)) ++ (bs (be q.ty 2) ++ bs (be 1 2)) ++ S) ++ B)) qs.length (A.length + (putS ks (labsL (bs q.n))).length + 4) = some (qs, (A ++ (putS ks (labsL (bs q.n)) ++ (bs (be q.ty 2) ++ bs (be 1 2)) ++ S)).length) := by
        have : A ++ (putS ks (labsL (bs q.n)) ++ (bs (be q.ty 2) ++ bs (be 1 2)) ++ S) = A ++ putS ks (labsL (bs q.n)) ++ (bs (be q.ty 2) ++ bs (be 1 2)) ++ S := by simp only [List.append_assoc]
        rw [this, ← h3]
        congr 1
        simp only [List.length_append, l2]
      rw [List.length_cons]
      have := takeQs_step (k := qs.length) (ls := qs) (e := (A ++ (putS ks (labsL (bs q.n)) ++ (bs (be q.ty 2) ++ bs (be 1 2)) ++ S)).length) (s := mk (A ++ (putS ks (labsL (bs q.n)) ++ (bs (be q.ty 2) ++ bs (be 1 2)) ++ S) ++ B)) (a := A.length) (n := bs q.n) e1 (by rw [size_mk]; simp only [List.length_append, l2]; omega) (by rw [List.length_append, List.length_append, l2] at e3; exact e3) e4
      rw [this, mk_bs]
      rw [List.length_append] at e2
      rw [e2]

theorem good_all {s : List UInt8} {ks : List Kn} (h : Go.Pin.Good s ks) : ks.all knownL = true := List.all_eq_true.2 fun k hk => (h k hk).1
theorem putL_some {A : List UInt8} {ks : List Kn} {r : Rec} (hg : Go.Pin.Good A ks) (hA : A.length ≤ 60000) (hm : mayR r = true) : ∃ P ks', putL (A.length : Nat) ks r = some (P, ks') := by
  have hmm := hm
  simp only [mayR, Bool.and_eq_true] at hmm
  have hn := hmm.1.1.1.1.1.2
  have ht := hmm.1.1.2
  have hp : mayPutL (A.length : Nat) ks (bs r.n) = true := by simp [mayPutL, hn, good_all hg]; omega
  have g1 := good_name hg (bs r.n)
  have l1 := putS_len ks (labsL (bs r.n)) (fun x hx => labsL_ok hx)
  have l2 := labsL_len (bs r.n)
  unfold putL
  rw [hm, hp]
  simp only [Bool.and_self, if_true]
  generalize putS ks (labsL (bs r.n)) = N at *
  generalize ks ++ putN ks (A.length : Nat) (labsL (bs r.n)) = k1 at *
  obtain ⟨D, ks', hd⟩ : ∃ D ks', dataL ((A.length : Nat) + (N.length : Nat) + 10) k1 r = some (D, ks') := by
    unfold dataL
    by_cases h1 : r.ty = 1
    · rw [if_pos h1]; exact ⟨_, _, rfl⟩
    · rw [if_neg h1]
      have hq : mayPutL ((A.length : Nat) + (N.length : Nat) + 10) k1 (bs r.tg) = true := by simp [mayPutL, ht, good_all g1]; omega
      by_cases h2 : isN r.ty = true
      · rw [if_pos h2, if_pos hq]; exact ⟨_, _, rfl⟩
      · rw [if_neg h2]
        by_cases h3 : r.ty = 6
        · rw [if_pos h3, if_pos hq]
          have g2 : Go.Pin.Good (A ++ N ++ List.replicate 10 0) k1 := g1.more _
          have g3 := good_name g2 (bs r.tg)
          have e : (((A ++ N ++ List.replicate 10 0).length : Nat) : Int) = (A.length : Nat) + (N.length : Nat) + 10 := by simp; omega
          rw [e] at g3
          have m1 := putS_len k1 (labsL (bs r.tg)) (fun x hx => labsL_ok hx)
          have m2 := labsL_len (bs r.tg)
          have hq2 : mayPutL ((A.length : Nat) + (N.length : Nat) + 10 + (putS k1 (labsL (bs r.tg))).length) (k1 ++ putN k1 ((A.length : Nat) + (N.length : Nat) + 10) (labsL (bs r.tg))) (bs r.tg) = true := by simp only [mayPutL, ht, good_all g3, Bool.and_true, Bool.and_eq_true, decide_eq_true_eq]; omega
          rw [if_pos hq2]
          exact ⟨_, _, rfl⟩
        · rw [if_neg h3]
          split
          · exact ⟨_, _, rfl⟩
          · exact ⟨_, _, rfl⟩
  rw [hd]
  exact ⟨_, _, rfl⟩
/-- Records, one behind the other. -/
theorem recs_told : ∀ (rs : List Rec) (A : List UInt8) (ks : List Kn), (∀ r ∈ rs, mayR r = true) → Go.Pin.Good A ks → A.length + 500 * rs.length ≤ 60000 →
    ∃ S K, rs.foldl putR1 (A, ks) = (A ++ S, K) ∧ Go.Pin.Good (A ++ S) K ∧ S.length ≤ 500 * rs.length ∧ ∀ B, takeRs (mk (A ++ S ++ B)) rs.length A.length = some (rs, (A ++ S).length) ∧
      ∀ j z, takeAd (mk (A ++ S ++ B)) (rs.length + j) A.length z = (takeAd (mk (A ++ S ++ B)) j (A ++ S).length z).map fun x => (rs ++ x.1, x.2)
  | [], A, ks, _, hg, _ => ⟨[], ks, by simp, by simpa using hg, by simp, fun B => ⟨by simp [takeRs], fun j z => by simp⟩⟩
  | r :: rs, A, ks, hm, hg, hl => by
    rw [List.length_cons] at hl
    obtain ⟨P, k1, hp⟩ := putL_some hg (by omega) (hm r (by simp))
    have hP := (putL_len hp).2.1
    have hg1 := (put_get hg hp []).2
    obtain ⟨S, K, h1, h2, h3, h4⟩ := recs_told rs (A ++ P) k1 (fun x hx => hm x (by simp [hx])) hg1 (by rw [List.length_append]; omega)
    have hA : ∀ B, A ++ (P ++ S) ++ B = A ++ P ++ S ++ B := fun B => by simp only [List.append_assoc]
    have hA' : A ++ (P ++ S) = A ++ P ++ S := by simp only [List.append_assoc]
    refine ⟨P ++ S, K, ?_, ?_, ?_, fun B => ?_⟩
    · have e0 : putR1 (A, ks) r = (A ++ P, k1) := by simp only [putR1, hp]
      rw [List.foldl_cons, e0, h1, hA']
    · rw [hA']; exact h2
    · rw [List.length_append, List.length_cons]; omega
    · obtain ⟨h5, h6⟩ := h4 B
      rw [hA, hA', List.length_cons]
      have hr := (put_get hg hp (S ++ B)).1
      rw [show A ++ P ++ (S ++ B) = A ++ P ++ S ++ B by simp only [List.append_assoc]] at hr
      refine ⟨takeRs_step hr h5, fun j z => ?_⟩
      rw [show rs.length + 1 + j = (rs.length + j) + 1 by omega]
      have hn : (if z = 0 then optAt (mk (A ++ P ++ S ++ B)) A.length else none) = none := by rw [rec_no_opt hr]; split <;> rfl
      rw [takeAd, hn]
      simp only [hr, Int.toNat_natCast]
      rw [h6 j z, Option.map_map]
      rfl
/-- The last one: an OPT. -/
theorem opt_told (A B : List UInt8) (z : Int) (h0 : 512 ≤ z) (h1 : z ≤ 65535) : optAt (mk (A ++ optL z ++ B)) A.length = some (z, (A ++ optL z).length) := by
  have l2 : ∀ v k, (bs (be v k)).length = k := fun v k => by rw [length_bs, size_be]
  have eo : optL z = [0] ++ (bs (be 41 2) ++ bs (be z 2) ++ bs (be 0 4) ++ bs (be 0 2)) := by rw [optL, if_pos (by omega)]; rfl
  rw [eo]
  have hg : getL (A ++ ([0] ++ (bs (be 41 2) ++ bs (be z 2) ++ bs (be 0 4) ++ bs (be 0 2))) ++ B) A.length = ([], ((A.length + 1 : Nat) : Int), 0) :=
    name_at _ A ((bs (be 41 2) ++ bs (be z 2) ++ bs (be 0 4) ++ bs (be 0 2)) ++ B) [] [] A.length (A.length + 1) (fun k hk => by cases hk) (by decide) (by simp only [List.append_assoc]; rfl) rfl rfl
  have e1 := num_at (A ++ ([0] ++ (bs (be 41 2) ++ bs (be z 2) ++ bs (be 0 4) ++ bs (be 0 2))) ++ B) (A ++ [0]) (bs (be z 2) ++ bs (be 0 4) ++ bs (be 0 2) ++ B) 41 2 (A.length + 1) (by simp only [List.append_assoc]) (by simp) (by unfold inB; omega)
  have e2 := num_at (A ++ ([0] ++ (bs (be 41 2) ++ bs (be z 2) ++ bs (be 0 4) ++ bs (be 0 2))) ++ B) (A ++ [0] ++ bs (be 41 2)) (bs (be 0 4) ++ bs (be 0 2) ++ B) z 2 (A.length + 1 + 2) (by simp only [List.append_assoc]) (by simp [l2]) (by unfold inB; omega)
  have e3 := num_at (A ++ ([0] ++ (bs (be 41 2) ++ bs (be z 2) ++ bs (be 0 4) ++ bs (be 0 2))) ++ B) (A ++ [0] ++ bs (be 41 2) ++ bs (be z 2) ++ bs (be 0 4)) B 0 2 (A.length + 1 + 8) (by simp only [List.append_assoc]) (by simp [l2]) (by unfold inB; omega)
  unfold optAt
  rw [bs_mk, hg, size_mk]
  simp only [Int.toNat_natCast, e1, e2, e3]
  have hlen : (A ++ ([0] ++ (bs (be 41 2) ++ bs (be z 2) ++ bs (be 0 4) ++ bs (be 0 2))) ++ B).length = A.length + 11 + B.length := by simp [l2]; omega
  have hlen2 : (A ++ ([0] ++ (bs (be 41 2) ++ bs (be z 2) ++ bs (be 0 4) ++ bs (be 0 2)))).length = A.length + 11 := by simp [l2]
  rw [hlen, hlen2, if_pos ⟨trivial, trivial, by omega, trivial, by omega⟩]
  congr 2
  omega
theorem headM_len (m : Msg) : (headM m).length = 12 := by
  have l2 : ∀ v k, (bs (be v k)).length = k := fun v k => by rw [length_bs, size_be]
  simp [headM, l2]
theorem ques_len : ∀ (qs : List Qn) (s : Sofar), (qs.foldl putQ s).1.length ≤ s.1.length + 100 * qs.length
  | [], s => by simp
  | q :: qs, s => by
    have h := ques_len qs (putQ s q)
    have l1 := putS_len s.2 (labsL (bs q.n)) (fun x hx => labsL_ok hx)
    have l2 := labsL_len (bs q.n)
    have l3 : ∀ v k, (bs (be v k)).length = k := fun v k => by rw [length_bs, size_be]
    have : (putQ s q).1.length ≤ s.1.length + 100 := by simp only [putQ, List.length_append, l3]; omega
    rw [List.foldl_cons, List.length_cons]; omega

end Go.Proofs.YtgidbcjeaeiinaaGreatDoor
