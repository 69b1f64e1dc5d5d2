/-
  Several texts in one.
-/
import Derived.Test.YtdmooggmoihggaaGreatDoorBRis
/-
  Plain lemmas that speak of no program but layer 4's records: messages, which may be, how they are put, what a text tells.
-/
namespace Go.Proofs.YtdmooggmoihggaaGreatDoor
set_option maxRecDepth 100000
open Go.ChangeShapes Go.WideShapes Go.ChangeAt Go.RowKit Go.Pin Go.PlainAid

/-- A question: its name, its type. -/
structure Qn where
  n : ByteArray
  ty : Int
/-- A message. -/
structure Msg where
  id : Int
  rsp : Bool
  op : Int
  au : Bool
  tr : Bool
  re : Bool
  co : Int
  qs : List Qn
  an : List Rec
  sv : List Rec
  ad : List Rec
  sz : Int
def zeroM : Msg := ⟨0, false, 0, false, false, false, 0, [], [], [], [], 0⟩
def mayQ (q : Qn) : Bool := mayL (bs q.n) && upB q.ty 65535
def mayRs (rs : List Rec) : Bool := rs.all mayR && decide (rs.length ≤ 32)
def maySz (z : Int) : Bool := decide (z = 0) || (decide (512 ≤ z) && decide (z ≤ 65535))
/-- May a message be? -/
def mayM (m : Msg) : Bool := m.qs.all mayQ && upB m.id 65535 && upB m.op 15 && upB m.co 15 && decide (m.qs.length ≤ 4) && mayRs m.an && mayRs m.sv && mayRs m.ad && maySz m.sz
def bitsM (m : Msg) : Int := (if m.rsp then 32768 else 0) + m.op * 2048 + (if m.au then 1024 else 0) + (if m.tr then 512 else 0) + (if m.re then 256 else 0) + m.co
def optN (z : Int) : Nat := if 0 < z then 1 else 0
def headM (m : Msg) : List UInt8 := bs (be m.id 2) ++ bs (be (bitsM m) 2) ++ bs (be m.qs.length 2) ++ bs (be m.an.length 2) ++ bs (be m.sv.length 2) ++ bs (be ((m.ad.length + optN m.sz : Nat) : Int) 2)
/-- What is put so far, and what is known. -/
abbrev Sofar := List UInt8 × List Kn
def putQ (s : Sofar) (q : Qn) : Sofar := (s.1 ++ (putS s.2 (labsL (bs q.n)) ++ bs (be q.ty 2) ++ bs (be 1 2)), s.2 ++ putN s.2 (s.1.length : Nat) (labsL (bs q.n)))
def putR1 (s : Sofar) (r : Rec) : Sofar := match putL (s.1.length : Nat) s.2 r with
  | none => s
  | some (P, ks') => (s.1 ++ P, ks')
def quesM (m : Msg) : Sofar := m.qs.foldl putQ (headM m, [])
def bodyM (m : Msg) : Sofar := (m.an ++ m.sv ++ m.ad).foldl putR1 (quesM m)
def optL (z : Int) : List UInt8 := if 0 < z then 0 :: (bs (be 41 2) ++ bs (be z 2) ++ bs (be 0 4) ++ bs (be 0 2)) else []
/-- All of it. -/
def writtenM (m : Msg) : List UInt8 := (bodyM m).1 ++ optL m.sz
def cutM (m : Msg) : Msg := { m with tr := true, an := [], sv := [], ad := [] }
/-- What Put answers. -/
def putM (m : Msg) (most : Int) : ByteArray × Int :=
  if !mayM m || decide (most < 12) || decide (65535 < most) then (⟨#[]⟩, 500)
  else if ((writtenM m).length : Int) ≤ most then (mk (writtenM m), 0)
  else if ((writtenM (cutM m)).length : Int) ≤ most then (mk (writtenM (cutM m)), 0)
  else (⟨#[]⟩, 501)

/-! ### what a text tells -/
def takeQs (s : ByteArray) : Nat → Nat → Option (List Qn × Nat)
  | 0, a => some ([], a)
  | k + 1, a =>
    if (getL (bs s) a).2.2 = 0 ∧ (getL (bs s) a).2.1 + 4 ≤ s.size ∧ num s ((getL (bs s) a).2.1.toNat + 2) 2 = 1 then
      (takeQs s k ((getL (bs s) a).2.1.toNat + 4)).map fun x => (⟨mk (getL (bs s) a).1, num s (getL (bs s) a).2.1.toNat 2⟩ :: x.1, x.2)
    else none
def takeRs (s : ByteArray) : Nat → Nat → Option (List Rec × Nat)
  | 0, a => some ([], a)
  | k + 1, a => match getRec s (a : Int) with
    | none => none
    | some (r, e) => (takeRs s k e.toNat).map fun x => (r :: x.1, x.2)
/-- An OPT here: its size, where it ends. -/
def optAt (s : ByteArray) (a : Nat) : Option (Int × Nat) :=
  if (getL (bs s) a).2.2 = 0 ∧ (getL (bs s) a).1 = [] ∧ (getL (bs s) a).2.1 + 10 ≤ s.size ∧ num s (getL (bs s) a).2.1.toNat 2 = 41 ∧ (getL (bs s) a).2.1 + 10 + num s ((getL (bs s) a).2.1.toNat + 8) 2 ≤ s.size then
    some (max (num s ((getL (bs s) a).2.1.toNat + 2) 2) 512, ((getL (bs s) a).2.1 + 10 + num s ((getL (bs s) a).2.1.toNat + 8) 2).toNat)
  else none
def takeAd (s : ByteArray) : Nat → Nat → Int → Option (List Rec × Int × Nat)
  | 0, a, z => some ([], z, a)
  | k + 1, a, z => match (if z = 0 then optAt s a else none) with
    | some (z', e) => takeAd s k e z'
    | none => match getRec s (a : Int) with
      | none => none
      | some (r, e) => (takeAd s k e.toNat z).map fun x => (r :: x.1, x.2)
/-- The head's bits. -/
def bit (x : Int) (b : Int) : Bool := decide (x / b % 2 = 1)
/-- What Get tells. -/
def getM (s : ByteArray) : Option Msg :=
  if s.size < 12 then none
  else if (num s 2 2 / 16 % 16 ≠ 0 ∨ 4 < num s 4 2 ∨ 32 < num s 6 2 ∨ 32 < num s 8 2 ∨ 33 < num s 10 2) then none
  else match takeQs s (num s 4 2).toNat 12 with
    | none => none
    | some (qs, a1) => match takeRs s (num s 6 2).toNat a1 with
      | none => none
      | some (an, a2) => match takeRs s (num s 8 2).toNat a2 with
        | none => none
        | some (sv, a3) => match takeAd s (num s 10 2).toNat a3 0 with
          | none => none
          | some (ad, z, a4) => if a4 = s.size ∧ ad.length ≤ 32 then some ⟨num s 0 2, bit (num s 2 2) 32768, num s 2 2 / 2048 % 16, bit (num s 2 2) 1024, bit (num s 2 2) 512, bit (num s 2 2) 256, num s 2 2 % 16, qs, an, sv, ad, z⟩ else none

/-! ### what is put is told -/
theorem takeQs_step {s : ByteArray} {a q k e : Nat} {n : List UInt8} {ls : List Qn} (hg : getL (bs s) a = (n, (q : Int), 0)) (h4 : q + 4 ≤ s.size) (h1 : num s (q + 2) 2 = 1) (h : takeQs s k (q + 4) = some (ls, e)) : takeQs s (k + 1) a = some (⟨mk n, num s q 2⟩ :: ls, e) := by
  simp only [takeQs, hg, Int.toNat_natCast]
  rw [if_pos ⟨trivial, by omega, h1⟩, h]; rfl
theorem takeRs_step {s : ByteArray} {a e k e' : Nat} {r : Rec} {ls : List Rec} (hg : getRec s (a : Int) = some (r, (e : Int))) (h : takeRs s k e = some (ls, e')) : takeRs s (k + 1) a = some (r :: ls, e') := by
  simp only [takeRs, hg, Int.toNat_natCast, h]; rfl
theorem takeAd_rec {s : ByteArray} {a e k e' : Nat} {z z' : Int} {r : Rec} {ls : List Rec} (ho : z = 0 → optAt s a = none) (hg : getRec s (a : Int) = some (r, (e : Int))) (h : takeAd s k e z = some (ls, z', e')) : takeAd s (k + 1) a z = some (r :: ls, z', e') := by
  have : (if z = 0 then optAt s a else none) = none := by split <;> simp_all
  simp only [takeAd, this, hg, Int.toNat_natCast, h]; rfl
theorem takeAd_opt {s : ByteArray} {a e k e' : Nat} {z z' : Int} {ls : List Rec} (ho : optAt s a = some (z, e)) (h : takeAd s k e z = some (ls, z', e')) : takeAd s (k + 1) a 0 = some (ls, z', e') := by
  simp only [takeAd, ho, if_true, h]
/-- Where a record stands there is no OPT. -/
theorem rec_no_opt {s : ByteArray} {a : Nat} {r : Rec} {e : Int} (h : getRec s (a : Int) = some (r, e)) : optAt s a = none := by
  obtain ⟨hm, _, m, k, hg, h10, v1, _⟩ := get_inrec h
  rw [Int.toNat_natCast] at hg
  have ht := (may_zero hm).2
  unfold optAt
  rw [if_neg]
  rintro ⟨_, _, _, h41, _⟩
  rw [hg] at h41
  simp only [Int.toNat_natCast] at h41
  rw [v1] at h41
  rw [h41] at ht
  simp [typeB, isN, isT] at ht

theorem size_add (a b : ByteArray) : (a ++ b).size = a.size + b.size := ByteArray.size_append
/-- Questions, one behind the other. -/
theorem ques_told : ∀ (qs : List Qn) (A : List UInt8) (ks : List Kn) (B : List UInt8), (∀ q ∈ qs, mayQ q = true) → Go.Pin.Good A ks →
    ∃ S K, qs.foldl putQ (A, ks) = (A ++ S, K) ∧ Go.Pin.Good (A ++ S) K ∧ takeQs (mk (A ++ S ++ B)) qs.length A.length = some (qs, (A ++ S).length)
  | [], A, ks, B, _, hg => ⟨[], ks, by simp, by simpa using hg, by simp [takeQs]⟩
  | q :: qs, A, ks, B, hm, hg => by
    have hq := hm q (by simp)
    simp only [mayQ, Bool.and_eq_true, upB, decide_eq_true_eq] at hq
    obtain ⟨hn, hty⟩ := hq
    have hg1 := good_name hg (bs q.n)
    have hg2 := Good.more hg1 (bs (be q.ty 2) ++ bs (be 1 2))
    obtain ⟨S, K, h1, h2, h3⟩ := ques_told qs (A ++ putS ks (labsL (bs q.n)) ++ (bs (be q.ty 2) ++ bs (be 1 2))) (ks ++ putN ks (A.length : Nat) (labsL (bs q.n))) B (fun x hx => hm x (by simp [hx])) hg2
    refine ⟨putS ks (labsL (bs q.n)) ++ (bs (be q.ty 2) ++ bs (be 1 2)) ++ S, K, ?_, ?_, ?_⟩
    · have e0 : putQ (A, ks) q = (A ++ putS ks (labsL (bs q.n)) ++ (bs (be q.ty 2) ++ bs (be 1 2)), ks ++ putN ks (A.length : Nat) (labsL (bs q.n))) := by simp only [putQ, List.append_assoc]
      rw [List.foldl_cons, e0, h1]; simp only [List.append_assoc]
    · rw [← List.append_assoc, ← List.append_assoc]; exact h2
    · have l2 : ∀ v k, (bs (be v k)).length = k := fun v k => by rw [length_bs, size_be]
      have e1 := name_at (A ++ (putS ks (labsL (bs q.n)) ++ (bs (be q.ty 2) ++ bs (be 1 2)) ++ S) ++ B) A ((bs (be q.ty 2) ++ bs (be 1 2)) ++ S ++ B) ks (bs q.n) A.length _ hg hn (by simp only [List.append_assoc]) rfl rfl
      have e2 := num_at (A ++ (putS ks (labsL (bs q.n)) ++ (bs (be q.ty 2) ++ bs (be 1 2)) ++ S) ++ B) (A ++ putS ks (labsL (bs q.n))) (bs (be 1 2) ++ S ++ B) q.ty 2 _ (by simp only [List.append_assoc]) rfl (by unfold inB; omega)
      have e3 := num_at (A ++ (putS ks (labsL (bs q.n)) ++ (bs (be q.ty 2) ++ bs (be 1 2)) ++ S) ++ B) (A ++ putS ks (labsL (bs q.n)) ++ bs (be q.ty 2)) (S ++ B) 1 2 _ (by simp only [List.append_assoc]) rfl (by unfold inB; omega)
      have e4 : takeQs (mk (A ++ (putS ks (labsL (bs q.n)) ++ (bs (be q.ty 2) ++ bs (be 1 2)) ++ S) ++ B)) qs.length (A.length + (putS ks (labsL (bs q.n))).length + 4) = some (qs, (A ++ (putS ks (labsL (bs q.n)) ++ (bs (be q.ty 2) ++ bs (be 1 2)) ++ S)).length) := by
        have : A ++ (putS ks (labsL (bs q.n)) ++ (bs (be q.ty 2) ++ bs (be 1 2)) ++ S) = A ++ putS ks (labsL (bs q.n)) ++ (bs (be q.ty 2) ++ bs (be 1 2)) ++ S := by simp only [List.append_assoc]
        rw [this, ← h3]
        congr 1
        simp only [List.length_append, l2]
      rw [List.length_cons]
      have := takeQs_step (k := qs.length) (ls := qs) (e := (A ++ (putS ks (labsL (bs q.n)) ++ (bs (be q.ty 2) ++ bs (be 1 2)) ++ S)).length) (s := mk (A ++ (putS ks (labsL (bs q.n)) ++ (bs (be q.ty 2) ++ bs (be 1 2)) ++ S) ++ B)) (a := A.length) (n := bs q.n) e1 (by rw [size_mk]; simp only [List.length_append, l2]; omega) (by rw [List.length_append, List.length_append, l2] at e3; exact e3) e4
      rw [this, mk_bs]
      rw [List.length_append] at e2
      rw [e2]

theorem good_all {s : List UInt8} {ks : List Kn} (h : Go.Pin.Good s ks) : ks.all knownL = true := List.all_eq_true.2 fun k hk => (h k hk).1
theorem putL_some {A : List UInt8} {ks : List Kn} {r : Rec} (hg : Go.Pin.Good A ks) (hA : A.length ≤ 60000) (hm : mayR r = true) : ∃ P ks', putL (A.length : Nat) ks r = some (P, ks') := by
  have hmm := hm
  simp only [mayR, Bool.and_eq_true] at hmm
  have hn := hmm.1.1.1.1.1.2
  have ht := hmm.1.1.2
  have hp : mayPutL (A.length : Nat) ks (bs r.n) = true := by simp [mayPutL, hn, good_all hg]; omega
  have g1 := good_name hg (bs r.n)
  have l1 := putS_len ks (labsL (bs r.n)) (fun x hx => labsL_ok hx)
  have l2 := labsL_len (bs r.n)
  unfold putL
  rw [hm, hp]
  simp only [Bool.and_self, if_true]
  generalize putS ks (labsL (bs r.n)) = N at *
  generalize ks ++ putN ks (A.length : Nat) (labsL (bs r.n)) = k1 at *
  obtain ⟨D, ks', hd⟩ : ∃ D ks', dataL ((A.length : Nat) + (N.length : Nat) + 10) k1 r = some (D, ks') := by
    unfold dataL
    by_cases h1 : r.ty = 1
    · rw [if_pos h1]; exact ⟨_, _, rfl⟩
    · rw [if_neg h1]
      have hq : mayPutL ((A.length : Nat) + (N.length : Nat) + 10) k1 (bs r.tg) = true := by simp [mayPutL, ht, good_all g1]; omega
      by_cases h2 : isN r.ty = true
      · rw [if_pos h2, if_pos hq]; exact ⟨_, _, rfl⟩
      · rw [if_neg h2]
        by_cases h3 : r.ty = 6
        · rw [if_pos h3, if_pos hq]
          have g2 : Go.Pin.Good (A ++ N ++ List.replicate 10 0) k1 := g1.more _
          have g3 := good_name g2 (bs r.tg)
          have e : (((A ++ N ++ List.replicate 10 0).length : Nat) : Int) = (A.length : Nat) + (N.length : Nat) + 10 := by simp; omega
          rw [e] at g3
          have m1 := putS_len k1 (labsL (bs r.tg)) (fun x hx => labsL_ok hx)
          have m2 := labsL_len (bs r.tg)
          have hq2 : mayPutL ((A.length : Nat) + (N.length : Nat) + 10 + (putS k1 (labsL (bs r.tg))).length) (k1 ++ putN k1 ((A.length : Nat) + (N.length : Nat) + 10) (labsL (bs r.tg))) (bs r.tg) = true := by simp only [mayPutL, ht, good_all g3, Bool.and_true, Bool.and_eq_true, decide_eq_true_eq]; omega
          rw [if_pos hq2]
          exact ⟨_, _, rfl⟩
        · rw [if_neg h3]
          split
          · exact ⟨_, _, rfl⟩
          · exact ⟨_, _, rfl⟩
  rw [hd]
  exact ⟨_, _, rfl⟩
/-- Records, one behind the other. -/
theorem recs_told : ∀ (rs : List Rec) (A : List UInt8) (ks : List Kn), (∀ r ∈ rs, mayR r = true) → Go.Pin.Good A ks → A.length + 500 * rs.length ≤ 60000 →
    ∃ S K, rs.foldl putR1 (A, ks) = (A ++ S, K) ∧ Go.Pin.Good (A ++ S) K ∧ S.length ≤ 500 * rs.length ∧ ∀ B, takeRs (mk (A ++ S ++ B)) rs.length A.length = some (rs, (A ++ S).length) ∧
      ∀ j z, takeAd (mk (A ++ S ++ B)) (rs.length + j) A.length z = (takeAd (mk (A ++ S ++ B)) j (A ++ S).length z).map fun x => (rs ++ x.1, x.2)
  | [], A, ks, _, hg, _ => ⟨[], ks, by simp, by simpa using hg, by simp, fun B => ⟨by simp [takeRs], fun j z => by simp⟩⟩
  | r :: rs, A, ks, hm, hg, hl => by
    rw [List.length_cons] at hl
    obtain ⟨P, k1, hp⟩ := putL_some hg (by omega) (hm r (by simp))
    have hP := (putL_len hp).2.1
    have hg1 := (put_get hg hp []).2
    obtain ⟨S, K, h1, h2, h3, h4⟩ := recs_told rs (A ++ P) k1 (fun x hx => hm x (by simp [hx])) hg1 (by rw [List.length_append]; omega)
    have hA : ∀ B, A ++ (P ++ S) ++ B = A ++ P ++ S ++ B := fun B => by simp only [List.append_assoc]
    have hA' : A ++ (P ++ S) = A ++ P ++ S := by simp only [List.append_assoc]
    refine ⟨P ++ S, K, ?_, ?_, ?_, fun B => ?_⟩
    · have e0 : putR1 (A, ks) r = (A ++ P, k1) := by simp only [putR1, hp]
      rw [List.foldl_cons, e0, h1, hA']
    · rw [hA']; exact h2
    · rw [List.length_append, List.length_cons]; omega
    · obtain ⟨h5, h6⟩ := h4 B
      rw [hA, hA', List.length_cons]
      have hr := (put_get hg hp (S ++ B)).1
      rw [show A ++ P ++ (S ++ B) = A ++ P ++ S ++ B by simp only [List.append_assoc]] at hr
      refine ⟨takeRs_step hr h5, fun j z => ?_⟩
      rw [show rs.length + 1 + j = (rs.length + j) + 1 by omega]
      have hn : (if z = 0 then optAt (mk (A ++ P ++ S ++ B)) A.length else none) = none := by rw [rec_no_opt hr]; split <;> rfl
      rw [takeAd, hn]
      simp only [hr, Int.toNat_natCast]
      rw [h6 j z, Option.map_map]
      rfl
/-- The last one: an OPT. -/
theorem opt_told (A B : List UInt8) (z : Int) (h0 : 512 ≤ z) (h1 : z ≤ 65535) : optAt (mk (A ++ optL z ++ B)) A.length = some (z, (A ++ optL z).length) := by
  have l2 : ∀ v k, (bs (be v k)).length = k := fun v k => by rw [length_bs, size_be]
  have eo : optL z = [0] ++ (bs (be 41 2) ++ bs (be z 2) ++ bs (be 0 4) ++ bs (be 0 2)) := by rw [optL, if_pos (by omega)]; rfl
  rw [eo]
  have hg : getL (A ++ ([0] ++ (bs (be 41 2) ++ bs (be z 2) ++ bs (be 0 4) ++ bs (be 0 2))) ++ B) A.length = ([], ((A.length + 1 : Nat) : Int), 0) :=
    name_at _ A ((bs (be 41 2) ++ bs (be z 2) ++ bs (be 0 4) ++ bs (be 0 2)) ++ B) [] [] A.length (A.length + 1) (fun k hk => by cases hk) (by decide) (by simp only [List.append_assoc]; rfl) rfl rfl
  have e1 := num_at (A ++ ([0] ++ (bs (be 41 2) ++ bs (be z 2) ++ bs (be 0 4) ++ bs (be 0 2))) ++ B) (A ++ [0]) (bs (be z 2) ++ bs (be 0 4) ++ bs (be 0 2) ++ B) 41 2 (A.length + 1) (by simp only [List.append_assoc]) (by simp) (by unfold inB; omega)
  have e2 := num_at (A ++ ([0] ++ (bs (be 41 2) ++ bs (be z 2) ++ bs (be 0 4) ++ bs (be 0 2))) ++ B) (A ++ [0] ++ bs (be 41 2)) (bs (be 0 4) ++ bs (be 0 2) ++ B) z 2 (A.length + 1 + 2) (by simp only [List.append_assoc]) (by simp [l2]) (by unfold inB; omega)
  have e3 := num_at (A ++ ([0] ++ (bs (be 41 2) ++ bs (be z 2) ++ bs (be 0 4) ++ bs (be 0 2))) ++ B) (A ++ [0] ++ bs (be 41 2) ++ bs (be z 2) ++ bs (be 0 4)) B 0 2 (A.length + 1 + 8) (by simp only [List.append_assoc]) (by simp [l2]) (by unfold inB; omega)
  unfold optAt
  rw [bs_mk, hg, size_mk]
  simp only [Int.toNat_natCast, e1, e2, e3]
  have hlen : (A ++ ([0] ++ (bs (be 41 2) ++ bs (be z 2) ++ bs (be 0 4) ++ bs (be 0 2))) ++ B).length = A.length + 11 + B.length := by simp [l2]; omega
  have hlen2 : (A ++ ([0] ++ (bs (be 41 2) ++ bs (be z 2) ++ bs (be 0 4) ++ bs (be 0 2)))).length = A.length + 11 := by simp [l2]
  rw [hlen, hlen2, if_pos ⟨trivial, trivial, by omega, trivial, by omega⟩]
  congr 2
  omega
theorem headM_len (m : Msg) : (headM m).length = 12 := by
  have l2 : ∀ v k, (bs (be v k)).length = k := fun v k => by rw [length_bs, size_be]
  simp [headM, l2]
theorem ques_len : ∀ (qs : List Qn) (s : Sofar), (qs.foldl putQ s).1.length ≤ s.1.length + 100 * qs.length
  | [], s => by simp
  | q :: qs, s => by
    have h := ques_len qs (putQ s q)
    have l1 := putS_len s.2 (labsL (bs q.n)) (fun x hx => labsL_ok hx)
    have l2 := labsL_len (bs q.n)
    have l3 : ∀ v k, (bs (be v k)).length = k := fun v k => by rw [length_bs, size_be]
    have : (putQ s q).1.length ≤ s.1.length + 100 := by simp only [putQ, List.length_append, l3]; omega
    rw [List.foldl_cons, List.length_cons]; omega

end Go.Proofs.YtdmooggmoihggaaGreatDoor

/-
  Messages, plainly: what is put is told again; what is cut, or goes on, is none.
-/
namespace Go.Proofs.YtdmooggmoihggaaGreatDoor
set_option maxRecDepth 100000
open Go.ChangeShapes Go.WideShapes Go.ChangeAt Go.RowKit Go.Pin Go.PlainAid

structure MayM (m : Msg) : Prop where
  qs : ∀ q ∈ m.qs, mayQ q = true
  id : 0 ≤ m.id ∧ m.id ≤ 65535
  op : 0 ≤ m.op ∧ m.op ≤ 15
  co : 0 ≤ m.co ∧ m.co ≤ 15
  ql : m.qs.length ≤ 4
  an : ∀ r ∈ m.an, mayR r = true
  anl : m.an.length ≤ 32
  sv : ∀ r ∈ m.sv, mayR r = true
  svl : m.sv.length ≤ 32
  ad : ∀ r ∈ m.ad, mayR r = true
  adl : m.ad.length ≤ 32
  sz : m.sz = 0 ∨ (512 ≤ m.sz ∧ m.sz ≤ 65535)
theorem mayM_iff (m : Msg) : mayM m = true ↔ MayM m := by
  simp only [mayM, mayRs, maySz, upB, Bool.and_eq_true, Bool.or_eq_true, decide_eq_true_eq, List.all_eq_true]
  constructor
  · rintro ⟨⟨⟨⟨⟨⟨⟨⟨h1, h2⟩, h3⟩, h4⟩, h5⟩, h6⟩, h7⟩, h8⟩, h9⟩
    exact ⟨h1, h2, h3, h4, h5, h6.1, h6.2, h7.1, h7.2, h8.1, h8.2, h9⟩
  · intro h
    exact ⟨⟨⟨⟨⟨⟨⟨⟨h.qs, h.id⟩, h.op⟩, h.co⟩, h.ql⟩, h.an, h.anl⟩, h.sv, h.svl⟩, h.ad, h.adl⟩, h.sz⟩
theorem mayM_cut {m : Msg} (h : MayM m) : MayM (cutM m) := ⟨h.qs, h.id, h.op, h.co, h.ql, by simp [cutM], by simp [cutM], by simp [cutM], by simp [cutM], by simp [cutM], by simp [cutM], h.sz⟩

theorem bits_told {m : Msg} (h1 : 0 ≤ m.op ∧ m.op ≤ 15) (h2 : 0 ≤ m.co ∧ m.co ≤ 15) : (0 ≤ bitsM m ∧ bitsM m < 65536) ∧ bitsM m / 16 % 16 = 0 ∧ bit (bitsM m) 32768 = m.rsp ∧ bitsM m / 2048 % 16 = m.op ∧ bit (bitsM m) 1024 = m.au ∧ bit (bitsM m) 512 = m.tr ∧ bit (bitsM m) 256 = m.re ∧ bitsM m % 16 = m.co := by
  obtain ⟨id, rsp, op, au, tr, re, co, qs, an, sv, ad, sz⟩ := m
  simp only at h1 h2
  simp only [bitsM, bit]
  cases rsp <;> cases au <;> cases tr <;> cases re <;> simp <;> omega

theorem len_be (v : Int) (k : Nat) : (bs (be v k)).length = k := by rw [length_bs, size_be]
/-- The head's six numbers, whatever is behind. -/
theorem head_told {m : Msg} (h : MayM m) (B : List UInt8) : num (mk (headM m ++ B)) 0 2 = m.id ∧ num (mk (headM m ++ B)) 2 2 = bitsM m ∧ num (mk (headM m ++ B)) 4 2 = m.qs.length ∧ num (mk (headM m ++ B)) 6 2 = m.an.length ∧ num (mk (headM m ++ B)) 8 2 = m.sv.length ∧ num (mk (headM m ++ B)) 10 2 = (m.ad.length + optN m.sz : Nat) := by
  have hb := (bits_told h.op h.co).1
  have hid := h.id
  have hql := h.ql
  have ha := h.anl
  have hs := h.svl
  have hd := h.adl
  have ho : optN m.sz ≤ 1 := by unfold optN; split <;> omega
  unfold headM
  refine ⟨num_at _ [] (bs (be (bitsM m) 2) ++ bs (be m.qs.length 2) ++ bs (be m.an.length 2) ++ bs (be m.sv.length 2) ++ bs (be ((m.ad.length + optN m.sz : Nat) : Int) 2) ++ B) _ _ _ (by simp only [List.append_assoc, List.nil_append]) rfl (by unfold inB; omega),
    num_at _ (bs (be m.id 2)) (bs (be m.qs.length 2) ++ bs (be m.an.length 2) ++ bs (be m.sv.length 2) ++ bs (be ((m.ad.length + optN m.sz : Nat) : Int) 2) ++ B) _ _ _ (by simp only [List.append_assoc]) (by simp only [len_be]) (by unfold inB; omega),
    num_at _ (bs (be m.id 2) ++ bs (be (bitsM m) 2)) (bs (be m.an.length 2) ++ bs (be m.sv.length 2) ++ bs (be ((m.ad.length + optN m.sz : Nat) : Int) 2) ++ B) _ _ _ (by simp only [List.append_assoc]) (by simp only [List.length_append, len_be]) (by unfold inB; omega),
    num_at _ (bs (be m.id 2) ++ bs (be (bitsM m) 2) ++ bs (be m.qs.length 2)) (bs (be m.sv.length 2) ++ bs (be ((m.ad.length + optN m.sz : Nat) : Int) 2) ++ B) _ _ _ (by simp only [List.append_assoc]) (by simp only [List.length_append, len_be]) (by unfold inB; omega),
    num_at _ (bs (be m.id 2) ++ bs (be (bitsM m) 2) ++ bs (be m.qs.length 2) ++ bs (be m.an.length 2)) (bs (be ((m.ad.length + optN m.sz : Nat) : Int) 2) ++ B) _ _ _ (by simp only [List.append_assoc]) (by simp only [List.length_append, len_be]) (by unfold inB; omega),
    num_at _ (bs (be m.id 2) ++ bs (be (bitsM m) 2) ++ bs (be m.qs.length 2) ++ bs (be m.an.length 2) ++ bs (be m.sv.length 2)) B _ _ _ (by simp only [List.append_assoc]) (by simp only [List.length_append, len_be]) (by unfold inB; omega)⟩

/-- How a message that may be is put: its parts, and where they end. -/
theorem parts_told {m : Msg} (h : MayM m) : ∃ Q X Y Z : List UInt8, writtenM m = headM m ++ Q ++ X ++ Y ++ Z ++ optL m.sz ∧ (headM m ++ Q ++ X ++ Y ++ Z).length ≤ 59000 ∧
    (∀ B, takeQs (mk (headM m ++ Q ++ B)) m.qs.length 12 = some (m.qs, (headM m ++ Q).length)) ∧
    (∀ B, takeRs (mk (headM m ++ Q ++ X ++ B)) m.an.length (headM m ++ Q).length = some (m.an, (headM m ++ Q ++ X).length)) ∧
    (∀ B, takeRs (mk (headM m ++ Q ++ X ++ Y ++ B)) m.sv.length (headM m ++ Q ++ X).length = some (m.sv, (headM m ++ Q ++ X ++ Y).length)) ∧
    (∀ B j z, takeAd (mk (headM m ++ Q ++ X ++ Y ++ Z ++ B)) (m.ad.length + j) (headM m ++ Q ++ X ++ Y).length z = (takeAd (mk (headM m ++ Q ++ X ++ Y ++ Z ++ B)) j (headM m ++ Q ++ X ++ Y ++ Z).length z).map fun x => (m.ad ++ x.1, x.2)) := by
  have hql := h.ql
  have ha := h.anl
  have hs := h.svl
  have hd := h.adl
  have hl := headM_len m
  obtain ⟨Q, K, q1, q2, _⟩ := ques_told m.qs (headM m) [] [] h.qs (fun k hk => by cases hk)
  have q3 : ∀ B, takeQs (mk (headM m ++ Q ++ B)) m.qs.length 12 = some (m.qs, (headM m ++ Q).length) := fun B => by
    obtain ⟨Q', K', e1, _, e3⟩ := ques_told m.qs (headM m) [] B h.qs (fun k hk => by cases hk)
    rw [q1] at e1
    simp only [Prod.mk.injEq, List.append_cancel_left_eq] at e1
    rw [← e1.1, hl] at e3
    exact e3
  have q4 : (headM m ++ Q).length ≤ 12 + 100 * m.qs.length := by
    have := ques_len m.qs (headM m, [])
    rw [q1] at this
    simp only [hl] at this
    exact this
  obtain ⟨X, K1, x1, x2, x3, x4⟩ := recs_told m.an (headM m ++ Q) K h.an q2 (by omega)
  have l1 : (headM m ++ Q ++ X).length = (headM m ++ Q).length + X.length := List.length_append
  obtain ⟨Y, K2, y1, y2, y3, y4⟩ := recs_told m.sv (headM m ++ Q ++ X) K1 h.sv x2 (by omega)
  have l2 : (headM m ++ Q ++ X ++ Y).length = (headM m ++ Q ++ X).length + Y.length := List.length_append
  obtain ⟨Z, K3, z1, z2, z3, z4⟩ := recs_told m.ad (headM m ++ Q ++ X ++ Y) K2 h.ad y2 (by omega)
  have l3 : (headM m ++ Q ++ X ++ Y ++ Z).length = (headM m ++ Q ++ X ++ Y).length + Z.length := List.length_append
  refine ⟨Q, X, Y, Z, ?_, by omega, q3, fun B => (x4 B).1, fun B => (y4 B).1, fun B => (z4 B).2⟩
  unfold writtenM bodyM quesM
  rw [q1, List.foldl_append, List.foldl_append, x1, y1, z1]

theorem optN_cases (z : Int) (h : z = 0 ∨ (512 ≤ z ∧ z ≤ 65535)) : (z = 0 ∧ optN z = 0 ∧ optL z = []) ∨ (512 ≤ z ∧ z ≤ 65535 ∧ optN z = 1) := by
  rcases h with h | h
  · left; subst h; exact ⟨rfl, rfl, rfl⟩
  · right; exact ⟨h.1, h.2, by unfold optN; rw [if_pos (by omega)]⟩
theorem optL_len (z : Int) : (optL z).length ≤ 11 := by
  unfold optL; split
  · simp [len_be]
  · simp
/-- What is put is told. -/
theorem getM_written {m : Msg} (h : MayM m) : getM (mk (writtenM m)) = some m ∧ 12 ≤ (writtenM m).length ∧ (writtenM m).length ≤ 60000 := by
  obtain ⟨Q, X, Y, Z, hw, hlen, hq, ha, hs, hd⟩ := parts_told h
  have hl := headM_len m
  have ho := optL_len m.sz
  have hql := h.ql
  have hal := h.anl
  have hsl := h.svl
  have hdl := h.adl
  have hsize : (writtenM m).length = (headM m ++ Q ++ X ++ Y ++ Z).length + (optL m.sz).length := by rw [hw, List.length_append]
  have h12 : 12 ≤ (headM m ++ Q ++ X ++ Y ++ Z).length := by simp only [List.length_append, hl]; omega
  refine ⟨?_, by omega, by omega⟩
  obtain ⟨n0, n2, n4, n6, n8, n10⟩ := head_told h (Q ++ X ++ Y ++ Z ++ optL m.sz)
  have ew : headM m ++ (Q ++ X ++ Y ++ Z ++ optL m.sz) = writtenM m := by rw [hw]; simp only [List.append_assoc]
  rw [ew] at n0 n2 n4 n6 n8 n10
  have hb := bits_told h.op h.co
  have oc := optN_cases m.sz h.sz
  have hq' := hq (X ++ Y ++ Z ++ optL m.sz)
  have ha' := ha (Y ++ Z ++ optL m.sz)
  have hs' := hs (Z ++ optL m.sz)
  have hd' := hd (optL m.sz) (optN m.sz) 0
  have e1 : headM m ++ Q ++ (X ++ Y ++ Z ++ optL m.sz) = writtenM m := by rw [hw]; simp only [List.append_assoc]
  have e2 : headM m ++ Q ++ X ++ (Y ++ Z ++ optL m.sz) = writtenM m := by rw [hw]; simp only [List.append_assoc]
  have e3 : headM m ++ Q ++ X ++ Y ++ (Z ++ optL m.sz) = writtenM m := by rw [hw]; simp only [List.append_assoc]
  rw [e1] at hq'
  rw [e2] at ha'
  rw [e3] at hs'
  rw [← hw] at hd'
  have hend : takeAd (mk (writtenM m)) (optN m.sz) (headM m ++ Q ++ X ++ Y ++ Z).length 0 = some ([], m.sz, (writtenM m).length) := by
    rcases oc with ⟨z0, z1, z2⟩ | ⟨z0, z1, z2⟩
    · rw [z1, hsize, z2, z0]; simp [takeAd]
    · rw [z2]
      have := opt_told (headM m ++ Q ++ X ++ Y ++ Z) [] m.sz z0 z1
      rw [List.append_nil, ← hw] at this
      exact takeAd_opt this (by simp [takeAd])
  rw [hend] at hd'
  have on : optN m.sz ≤ 1 := by unfold optN; split <;> omega
  unfold getM
  rw [size_mk, n0, n2, n4, n6, n8, n10]
  simp only [Int.toNat_natCast]
  rw [if_neg (by omega), if_neg (by omega), hq']
  simp only
  rw [ha']
  simp only
  rw [hs']
  simp only
  rw [hd']
  simp only [Option.map_some, List.append_nil]
  rw [if_pos ⟨trivial, hdl⟩]
  obtain ⟨_, _, b1, b2, b3, b4, b5, b6⟩ := hb
  rw [b1, b2, b3, b4, b5, b6]

/-! ### what goes on -/
theorem rec_more {s : List UInt8} {a r e} (h : getRec (mk s) a = some (r, e)) (t : List UInt8) : getRec (mk (s ++ t)) a = some (r, e) ∧ 0 ≤ e ∧ e ≤ s.length := by
  obtain ⟨h1, h2⟩ := get_inrec h
  have := inrec_end h2
  rw [size_mk] at this
  exact ⟨inrec_get h1 (inrec_more h2 t), this⟩
theorem takeQs_more {s : List UInt8} (t : List UInt8) : ∀ (k a : Nat) (x : List Qn × Nat), takeQs (mk s) k a = some x → a ≤ s.length → takeQs (mk (s ++ t)) k a = some x ∧ x.2 ≤ s.length
  | 0, a, x, h, ha => by simp only [takeQs, Option.some.injEq] at h ⊢; subst h; exact ⟨rfl, ha⟩
  | k + 1, a, x, h, _ => by
    rw [takeQs] at h
    split at h
    · rename_i hc
      obtain ⟨h1, h2, h3⟩ := hc
      rw [bs_mk] at h1 h2 h3 h
      rw [size_mk] at h2
      rcases hg : getL s a with ⟨n, q, e⟩
      rw [hg] at h1 h2 h3 h
      simp only at h1 h2 h3 h
      subst h1
      have hb := get_ends hg
      obtain ⟨q, rfl⟩ : ∃ q' : Nat, q = q' := ⟨q.toNat, by omega⟩
      simp only [Int.toNat_natCast] at h3 h
      simp only [Option.map_eq_some_iff] at h
      obtain ⟨y, hy, rfl⟩ := h
      obtain ⟨r1, r2⟩ := takeQs_more t k (q + 4) y hy (by omega)
      refine ⟨?_, r2⟩
      have := takeQs_step (s := mk (s ++ t)) (by rw [bs_mk]; exact get_more hg t) (by rw [size_mk, List.length_append]; omega) (by rw [num_more _ _ _ _ (by omega)]; exact h3) (show takeQs (mk (s ++ t)) k (q + 4) = some (y.1, y.2) from r1)
      rw [this, num_more _ _ _ _ (by omega)]
    · cases h
theorem takeRs_more {s : List UInt8} (t : List UInt8) : ∀ (k a : Nat) (x : List Rec × Nat), takeRs (mk s) k a = some x → a ≤ s.length → takeRs (mk (s ++ t)) k a = some x ∧ x.2 ≤ s.length
  | 0, a, x, h, ha => by simp only [takeRs, Option.some.injEq] at h ⊢; subst h; exact ⟨rfl, ha⟩
  | k + 1, a, x, h, _ => by
    rw [takeRs] at h
    split at h
    · cases h
    · rename_i r e hr
      obtain ⟨m1, m2, m3⟩ := rec_more hr t
      simp only [Option.map_eq_some_iff] at h
      obtain ⟨y, hy, rfl⟩ := h
      obtain ⟨r1, r2⟩ := takeRs_more t k e.toNat y hy (by omega)
      refine ⟨?_, r2⟩
      rw [show e = ((e.toNat : Nat) : Int) by omega] at m1
      exact takeRs_step m1 (show takeRs (mk (s ++ t)) k e.toNat = some (y.1, y.2) from r1)
theorem opt_more {s : List UInt8} (t : List UInt8) {a : Nat} {z : Int} {e : Nat} (h : optAt (mk s) a = some (z, e)) : optAt (mk (s ++ t)) a = some (z, e) ∧ e ≤ s.length ∧ z ≠ 0 := by
  unfold optAt at h ⊢
  split at h
  · rename_i hc
    obtain ⟨h1, h2, h3, h4, h5⟩ := hc
    rw [bs_mk] at h1 h2 h3 h4 h5 h
    rw [size_mk] at h3 h5
    rcases hg : getL s a with ⟨n, q, er⟩
    rw [hg] at h1 h2 h3 h4 h5 h
    simp only at h1 h2 h3 h4 h5 h
    subst h1 h2
    have hb := get_ends hg
    obtain ⟨q, rfl⟩ : ∃ q' : Nat, q = q' := ⟨q.toNat, by omega⟩
    simp only [Int.toNat_natCast] at h4 h5 h
    have hn := num_bd (mk s) (q + 8) 2
    simp only [Option.some.injEq, Prod.mk.injEq] at h
    obtain ⟨rfl, rfl⟩ := h
    rw [bs_mk, get_more hg t, size_mk, List.length_append]
    simp only [Int.toNat_natCast]
    rw [num_more _ _ q 2 (by omega), num_more _ _ (q + 8) 2 (by omega), num_more _ _ (q + 2) 2 (by omega), if_pos ⟨trivial, trivial, by omega, h4, by omega⟩]
    exact ⟨rfl, by omega, by omega⟩
  · cases h
theorem takeAd_more {s : List UInt8} (t : List UInt8) : ∀ (k a : Nat) (z : Int) (x : List Rec × Int × Nat), takeAd (mk s) k a z = some x → a ≤ s.length → takeAd (mk (s ++ t)) k a z = some x ∧ x.2.2 ≤ s.length
  | 0, a, z, x, h, ha => by simp only [takeAd, Option.some.injEq] at h ⊢; subst h; exact ⟨rfl, ha⟩
  | k + 1, a, z, x, h, _ => by
    rw [takeAd] at h
    split at h
    · rename_i z' e ho
      by_cases hz : z = 0
      · subst hz
        rw [if_pos rfl] at ho
        obtain ⟨o1, o2, _⟩ := opt_more t ho
        obtain ⟨r1, r2⟩ := takeAd_more t k e z' x h o2
        exact ⟨takeAd_opt o1 (show takeAd (mk (s ++ t)) k e z' = some (x.1, x.2.1, x.2.2) from r1), r2⟩
      · rw [if_neg hz] at ho; cases ho
    · rename_i ho
      split at h
      · cases h
      · rename_i r e hr
        obtain ⟨m1, m2, m3⟩ := rec_more hr t
        simp only [Option.map_eq_some_iff] at h
        obtain ⟨y, hy, rfl⟩ := h
        obtain ⟨r1, r2⟩ := takeAd_more t k e.toNat z y hy (by omega)
        refine ⟨?_, r2⟩
        rw [show e = ((e.toNat : Nat) : Int) by omega] at m1
        exact takeAd_rec (fun _ => rec_no_opt m1) m1 (show takeAd (mk (s ++ t)) k e.toNat z = some (y.1, y.2.1, y.2.2) from r1)
/-- A message that goes on is none. -/
theorem getM_more {s : List UInt8} {m : Msg} (h : getM (mk s) = some m) (t : List UInt8) (ht : t ≠ []) : getM (mk (s ++ t)) = none := by
  unfold getM at h
  rw [size_mk] at h
  split at h
  · cases h
  rename_i h12
  split at h
  · cases h
  rename_i hb
  split at h
  · cases h
  rename_i qs a1 hq
  split at h
  · cases h
  rename_i an a2 ha
  split at h
  · cases h
  rename_i sv a3 hs
  split at h
  · cases h
  rename_i ad z a4 hd
  split at h
  · rename_i he
    obtain ⟨q1, q2⟩ := takeQs_more t _ _ _ hq (by omega)
    obtain ⟨a1', a2'⟩ := takeRs_more t _ _ _ ha q2
    obtain ⟨s1, s2⟩ := takeRs_more t _ _ _ hs a2'
    obtain ⟨d1, d2⟩ := takeAd_more t _ _ _ _ hd s2
    have hl : t.length ≠ 0 := by simpa using ht
    unfold getM
    rw [size_mk, List.length_append, num_more _ _ 0 2 (by omega), num_more _ _ 2 2 (by omega), num_more _ _ 4 2 (by omega), num_more _ _ 6 2 (by omega), num_more _ _ 8 2 (by omega), num_more _ _ 10 2 (by omega), if_neg (by omega), if_neg hb, q1]
    simp only
    rw [a1']
    simp only
    rw [s1]
    simp only
    rw [d1]
    simp only
    rw [if_neg (by omega)]
  · cases h
theorem getM_cut {m : Msg} (h : MayM m) (k : Nat) (hk : k < (writtenM m).length) : getM (mk ((writtenM m).take k)) = none := by
  cases hc : getM (mk ((writtenM m).take k)) with
  | none => rfl
  | some x =>
    have := getM_more hc ((writtenM m).drop k) (by intro e; have := congrArg List.length e; simp at this; omega)
    rw [List.take_append_drop, (getM_written h).1] at this
    cases this
theorem getM_on {m : Msg} (h : MayM m) (t : List UInt8) (ht : t ≠ []) : getM (mk (writtenM m ++ t)) = none := getM_more (getM_written h).1 t ht

end Go.Proofs.YtdmooggmoihggaaGreatDoor

/-
  Plain facts for the laws of layer 5: what Put answers, by its bound.
-/
namespace Go.Proofs.YtdmooggmoihggaaGreatDoor
set_option maxRecDepth 100000
open Go.ChangeShapes Go.WideShapes Go.ChangeAt Go.RowKit Go.Pin Go.PlainAid

theorem putM_no {m : Msg} (h : mayM m = false) (k : Int) : putM m k = (⟨#[]⟩, 500) := by
  unfold putM; rw [h]; rfl
theorem putM_yes {m : Msg} (h : MayM m) {k : Int} (h0 : 12 ≤ k) (h1 : k ≤ 65535) : putM m k = if ((writtenM m).length : Int) ≤ k then (mk (writtenM m), 0) else if ((writtenM (cutM m)).length : Int) ≤ k then (mk (writtenM (cutM m)), 0) else (⟨#[]⟩, 501) := by
  unfold putM
  rw [(mayM_iff m).2 h, if_neg]
  simp; omega
theorem putM_max {m : Msg} (h : MayM m) : putM m 65535 = (mk (writtenM m), 0) := by
  have := (getM_written h).2.2
  rw [putM_yes h (by decide) (by decide), if_pos (by omega)]
theorem mk_toList_eq {a b : List UInt8} (h : a = b) : ((mk a).toList == (mk b).toList) = true := by subst h; simp
theorem mk_toList_ne {a b : List UInt8} (h : a ≠ b) : ((mk a).toList == (mk b).toList) = false := eq_no fun e => h (by have := congrArg bs e; rwa [bs_mk, bs_mk] at this)
/-- DnsRoom's five cases. -/
theorem room {m : Msg} (h : MayM m) {lo hi : Int} (h0 : 12 ≤ lo) (h1 : lo ≤ hi) (h2 : hi ≤ 65535) :
    ((putM m lo).2 = 0 ∧ ((putM m lo).1.toList == (mk (writtenM m)).toList) = true ∧ (putM m hi).2 = 0 ∧ ((putM m hi).1.toList == (mk (writtenM m)).toList) = true) ∨
    ((putM m lo).2 = 0 ∧ ((putM m lo).1.toList == (mk (writtenM m)).toList) = false ∧ (putM m hi).2 = 0 ∧ ((putM m hi).1.toList == (mk (writtenM m)).toList) = true) ∨
    ((putM m lo).2 = 0 ∧ ((putM m lo).1.toList == (mk (writtenM m)).toList) = false ∧ (putM m hi).2 = 0 ∧ ((putM m hi).1.toList == (mk (writtenM m)).toList) = false ∧ ((putM m hi).1.toList == (putM m lo).1.toList) = true) ∨
    ((putM m lo).2 = 501 ∧ (putM m hi).2 = 0) ∨ ((putM m lo).2 = 501 ∧ (putM m hi).2 = 501) := by
  rw [putM_yes h h0 (by omega), putM_yes h (by omega) h2]
  have hne : ∀ k : Int, ¬ ((writtenM m).length : Int) ≤ k → ((writtenM (cutM m)).length : Int) ≤ k → writtenM (cutM m) ≠ writtenM m := fun k h1 h2 e => by rw [e] at h2; exact h1 h2
  generalize writtenM (cutM m) = c at *
  generalize writtenM m = s at *
  by_cases a1 : (s.length : Int) ≤ lo
  · rw [if_pos a1, if_pos (by omega)]; exact .inl ⟨rfl, mk_toList_eq rfl, rfl, mk_toList_eq rfl⟩
  · rw [if_neg a1]
    by_cases a2 : (c.length : Int) ≤ lo
    · rw [if_pos a2]
      by_cases a3 : (s.length : Int) ≤ hi
      · rw [if_pos a3]; exact .inr (.inl ⟨rfl, mk_toList_ne (hne lo a1 a2), rfl, mk_toList_eq rfl⟩)
      · rw [if_neg a3, if_pos (by omega)]
        exact .inr (.inr (.inl ⟨rfl, mk_toList_ne (hne lo a1 a2), rfl, mk_toList_ne (hne lo a1 a2), mk_toList_eq rfl⟩))
    · rw [if_neg a2]
      by_cases a3 : (s.length : Int) ≤ hi
      · rw [if_pos a3]; exact .inr (.inr (.inr (.inl ⟨rfl, rfl⟩)))
      · rw [if_neg a3]
        by_cases a4 : (c.length : Int) ≤ hi
        · rw [if_pos a4]; exact .inr (.inr (.inr (.inl ⟨rfl, rfl⟩)))
        · rw [if_neg a4]; exact .inr (.inr (.inr (.inr ⟨rfl, rfl⟩)))
theorem num_two (s : ByteArray) (a : Nat) : num s a 2 = bt s a * 256 + bt s (a + 1) := by
  simp [num]
theorem written_head {m : Msg} (h : MayM m) : ∃ B, writtenM m = headM m ++ B := by
  obtain ⟨Q, X, Y, Z, h1, _⟩ := parts_told h
  exact ⟨Q ++ X ++ Y ++ Z ++ optL m.sz, by rw [h1]; simp only [List.append_assoc]⟩
/-- The head's numbers in what is put. -/
theorem heads {m : Msg} (h : MayM m) : num (mk (writtenM m)) 0 2 = m.id ∧ num (mk (writtenM m)) 2 2 = bitsM m ∧ num (mk (writtenM m)) 4 2 = m.qs.length ∧ num (mk (writtenM m)) 6 2 = m.an.length ∧ num (mk (writtenM m)) 8 2 = m.sv.length ∧ num (mk (writtenM m)) 10 2 = (m.ad.length + optN m.sz : Nat) := by
  obtain ⟨B, hB⟩ := written_head h
  rw [hB]; exact head_told h B

end Go.Proofs.YtdmooggmoihggaaGreatDoor

/-
  Plain facts on how a message is put, part by part: every state on the way.
-/
namespace Go.Proofs.YtdmooggmoihggaaGreatDoor
set_option maxRecDepth 100000
open Go.ChangeShapes Go.WideShapes Go.ChangeAt Go.RowKit Go.Pin Go.PlainAid

/-- What every state keeps to. -/
structure OkS (s : Sofar) : Prop where
  good : Go.Pin.Good s.1 s.2
  len : s.1.length ≤ 59000
  kl : s.2.length ≤ 100000
theorem mayL_len {n : List UInt8} (h : mayL n = true) : n.length ≤ 72 := by
  have h1 := join_len (labsL n) (fun x hx => labsL_ok hx)
  have h2 := labsL_len n
  rw [join_labs h] at h1
  omega
theorem OkS.each {s : Sofar} (h : OkS s) : ∀ k ∈ s.2, k.1.length ≤ maxLen := fun k hk => by
  have := (h.good k hk).1
  simp only [knownL, Bool.and_eq_true] at this
  have := mayL_len this.1.1.2
  unfold maxLen; omega
theorem OkS.fine {s : Sofar} (h : OkS s) : Fine ⟨s.1, s.2, false⟩ 59000 100000 := ⟨h.len, h.kl, h.each⟩
theorem OkS.mayPut {s : Sofar} (h : OkS s) {n : List UInt8} (hn : mayL n = true) : mayPutL (s.1.length : Nat) s.2 n = true := by
  have h1 := h.len
  simp only [mayPutL, hn, good_all h.good, Bool.and_true, Bool.and_eq_true, decide_eq_true_eq]; omega

/-- How a question, a record, an OPT turn the state. -/
def quesW (q : Qn) (x : Wt) : Wt := numW 1 2 (numW q.ty 2 (nameW 0 (bs q.n) x))
def recW (r : Rec) (x : Wt) : Wt := if x.rf then x else match putL (0 + (x.P.length : Nat)) x.ks r with | none => { x with rf := true } | some (P, ks) => ⟨x.P ++ P, ks, false⟩
def optW (z : Int) (x : Wt) : Wt := numW 0 2 (numW 0 4 (numW z 2 (numW 41 2 (nameW 0 [] x))))
theorem quesW_is {s : Sofar} (h : OkS s) {q : Qn} (hq : mayQ q = true) : quesW q ⟨s.1, s.2, false⟩ = ⟨(putQ s q).1, (putQ s q).2, false⟩ := by
  simp only [mayQ, Bool.and_eq_true] at hq
  have := h.mayPut hq.1
  simp [quesW, nameW, numW, textW, this, putQ]
theorem recW_is {s : Sofar} (h : OkS s) {r : Rec} (hr : mayR r = true) : recW r ⟨s.1, s.2, false⟩ = ⟨(putR1 s r).1, (putR1 s r).2, false⟩ := by
  obtain ⟨P, ks', hp⟩ := putL_some h.good (by have := h.len; omega) hr
  simp [recW, putR1, hp]
theorem optW_is {s : Sofar} (h : OkS s) {z : Int} (hz : 0 < z) : ∃ ks, optW z ⟨s.1, s.2, false⟩ = ⟨s.1 ++ optL z, ks, false⟩ := by
  have := h.mayPut mayL_nil
  refine ⟨s.2 ++ putN s.2 (0 + s.1.length : Int) (labsL []), ?_⟩
  simp only [optW, nameW, numW, textW, Bool.false_eq_true, if_false, Int.zero_add, this, if_true, optL, if_pos hz]
  congr 1
  simp [labsL_nil, putS]

def stQ (m : Msg) (j : Nat) : Sofar := (m.qs.take j).foldl putQ (headM m, [])
def stR (m : Msg) (j : Nat) : Sofar := ((m.an ++ m.sv ++ m.ad).take j).foldl putR1 (quesM m)
theorem stQ_len (m : Msg) : stQ m m.qs.length = quesM m := by simp [stQ, quesM]
theorem stR_zero (m : Msg) : stR m 0 = quesM m := by simp [stR]
theorem stR_len (m : Msg) : stR m (m.an.length + m.sv.length + m.ad.length) = bodyM m := by
  have : m.an.length + m.sv.length + m.ad.length = (m.an ++ m.sv ++ m.ad).length := by simp; omega
  rw [stR, this, List.take_length, bodyM]
theorem stQ_next {m : Msg} {j : Nat} {q : Qn} (h : m.qs[j]? = some q) : stQ m (j + 1) = putQ (stQ m j) q := by
  have : m.qs.take (j + 1) = m.qs.take j ++ [q] := by rw [List.take_add_one, h]; rfl
  simp [stQ, this]
theorem stR_next {m : Msg} {j : Nat} {r : Rec} (h : (m.an ++ m.sv ++ m.ad)[j]? = some r) : stR m (j + 1) = putR1 (stR m j) r := by
  have : (m.an ++ m.sv ++ m.ad).take (j + 1) = (m.an ++ m.sv ++ m.ad).take j ++ [r] := by rw [List.take_add_one, h]; rfl
  rw [stR, this, List.foldl_append]; rfl
theorem ques_kl : ∀ (qs : List Qn) (s : Sofar), (qs.foldl putQ s).2.length ≤ s.2.length + 8 * qs.length
  | [], s => by simp
  | q :: qs, s => by
    have h := ques_kl qs (putQ s q)
    have l1 := putN_len s.2 (labsL (bs q.n)) (s.1.length : Nat)
    have l2 := labsL_len (bs q.n)
    have : (putQ s q).2.length ≤ s.2.length + 8 := by simp only [putQ, List.length_append]; omega
    rw [List.foldl_cons, List.length_cons]; omega
theorem recs_kl : ∀ (rs : List Rec) (s : Sofar), (rs.foldl putR1 s).2.length ≤ s.2.length + 24 * rs.length
  | [], s => by simp
  | r :: rs, s => by
    have h := recs_kl rs (putR1 s r)
    have : (putR1 s r).2.length ≤ s.2.length + 24 := by
      unfold putR1
      split
      · omega
      · rename_i P ks' hp
        exact (putL_len hp).2.2.1
    rw [List.foldl_cons, List.length_cons]; omega
theorem stQ_ok {m : Msg} (h : MayM m) (j : Nat) : OkS (stQ m j) := by
  have hql := h.ql
  have hl := headM_len m
  have hj : (m.qs.take j).length ≤ 4 := by rw [List.length_take]; omega
  obtain ⟨Q, K, q1, q2, _⟩ := ques_told (m.qs.take j) (headM m) [] [] (fun q hq => h.qs q (List.mem_of_mem_take hq)) (fun k hk => by cases hk)
  have l1 := ques_len (m.qs.take j) (headM m, [])
  have l2 := ques_kl (m.qs.take j) (headM m, [])
  simp only [hl, List.length_nil] at l1 l2
  refine ⟨?_, ?_, ?_⟩
  · unfold stQ; rw [q1]; exact q2
  · unfold stQ; omega
  · unfold stQ; omega
theorem mem_all {m : Msg} (h : MayM m) {r : Rec} (hr : r ∈ m.an ++ m.sv ++ m.ad) : mayR r = true := by
  rcases List.mem_append.1 hr with hr | hr
  · rcases List.mem_append.1 hr with hr | hr
    · exact h.an r hr
    · exact h.sv r hr
  · exact h.ad r hr
theorem stR_ok {m : Msg} (h : MayM m) (j : Nat) : OkS (stR m j) := by
  have hql := h.ql
  have ha := h.anl
  have hs := h.svl
  have hd := h.adl
  have hl := headM_len m
  have o := stQ_ok h m.qs.length
  rw [stQ_len] at o
  have l1 := ques_len m.qs (headM m, [])
  have l2 := ques_kl m.qs (headM m, [])
  simp only [hl, List.length_nil] at l1 l2
  have hj : ((m.an ++ m.sv ++ m.ad).take j).length ≤ 96 := by rw [List.length_take]; simp only [List.length_append]; omega
  have lq : (quesM m).1.length ≤ 412 := by unfold quesM; omega
  have lk : (quesM m).2.length ≤ 32 := by unfold quesM; omega
  obtain ⟨S, K, r1, r2, r3, _⟩ := recs_told ((m.an ++ m.sv ++ m.ad).take j) (quesM m).1 (quesM m).2 (fun r hr => mem_all h (List.mem_of_mem_take hr)) o.good (by omega)
  have l3 := recs_kl ((m.an ++ m.sv ++ m.ad).take j) (quesM m)
  refine ⟨?_, ?_, ?_⟩
  · unfold stR; rw [show quesM m = ((quesM m).1, (quesM m).2) from rfl, r1]; exact r2
  · unfold stR; rw [show quesM m = ((quesM m).1, (quesM m).2) from rfl, r1, List.length_append]; omega
  · unfold stR; omega
theorem all_an {m : Msg} {i : Nat} {r : Rec} (h : m.an[i]? = some r) : (m.an ++ m.sv ++ m.ad)[i]? = some r := by
  have := (List.getElem?_eq_some_iff.1 h).1
  rw [List.append_assoc, List.getElem?_append_left this]; exact h
theorem all_sv {m : Msg} {i : Nat} {r : Rec} (h : m.sv[i]? = some r) : (m.an ++ m.sv ++ m.ad)[m.an.length + i]? = some r := by
  have := (List.getElem?_eq_some_iff.1 h).1
  rw [List.append_assoc, List.getElem?_append_right (by omega), Nat.add_sub_cancel_left, List.getElem?_append_left this]; exact h
theorem all_ad {m : Msg} {i : Nat} {r : Rec} (h : m.ad[i]? = some r) : (m.an ++ m.sv ++ m.ad)[m.an.length + m.sv.length + i]? = some r := by
  rw [List.getElem?_append_right (by simp), List.length_append, Nat.add_sub_cancel_left]; exact h
theorem written_is (m : Msg) : writtenM m = (stR m (m.an.length + m.sv.length + m.ad.length)).1 ++ optL m.sz := by rw [stR_len]; rfl

end Go.Proofs.YtdmooggmoihggaaGreatDoor
