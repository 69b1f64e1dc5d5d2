/-
  Plain: a packet put is told again, whatever stands in its two places and behind.
-/
import Derived.Test.YtkohojifnmklmaaPackPure
import Derived.Test.YtkohojifnmklmaaOBase
import Derived.Test.YtkohojifnmklmaaOptRead
namespace Go.Proofs.Ytkohojifnmklmaa
open Go.RowKit Go.Pin Go.PlainAid

/-- The first 44 bytes. -/
def frontP (p : Pk) : List UInt8 := nums 1 [p.op, p.ht, p.ch.size, p.ho] ++ nums 4 [p.xid] ++ nums 2 [p.sc, p.fl] ++ nums 4 [p.ci, p.yi, p.si, p.gi] ++ bs p.ch ++ List.replicate (16 - p.ch.size) 0
/-- A packet's text: what stands in the two places, what behind. -/
def wholeP (p : Pk) (boot file rest : List UInt8) : List UInt8 := frontP p ++ boot ++ file ++ nums 4 [1669485411] ++ rest
theorem front_len (p : Pk) (h : p.ch.size ≤ 16) : (frontP p).length = 44 := by
  simp only [frontP, List.length_append, nums_len, List.length_cons, List.length_nil, length_bs, List.length_replicate]
  omega
theorem head_whole (p : Pk) (h : p.ch.size ≤ 16) (rest : List UInt8) : headP p ++ rest = wholeP p (List.replicate 64 0) (List.replicate 128 0) rest := by
  have e : List.replicate (208 - p.ch.size) (0 : UInt8) = List.replicate (16 - p.ch.size) 0 ++ List.replicate 64 0 ++ List.replicate 128 0 := by
    rw [List.append_assoc, List.replicate_append_replicate, List.replicate_append_replicate]
    congr 1; omega
  simp only [headP, wholeP, frontP, e, List.append_assoc]
theorem num_atp {v : Int} {k : Nat} (h : inB v k) (X Y : List UInt8) (n : Nat) (hn : X.length = n) : num (mk (X ++ (bs (be v k) ++ Y))) n k = v := by
  have e : mk (X ++ (bs (be v k) ++ Y)) = mk X ++ be v k ++ mk Y := by
    apply bs_inj; simp [bs, mk]
  rw [e, ← hn, show X.length = (mk X).size by rw [size_mk], num_mid _ _ _ k (by rw [size_be]; exact Nat.le_refl _), num_be v k h]
theorem cut_at (X M Y : List UInt8) (n m : Nat) (hn : X.length = n) (hm : M.length = m) : cut (mk (X ++ (M ++ Y))) n m = M := by
  subst hn hm
  simp [cut, bs_mk]
/-- The head of a packet that may be. -/
def HeadMay (p : Pk) : Prop := (∀ v ∈ [p.op, p.ht, p.ho], inB v 1) ∧ (∀ v ∈ [p.sc, p.fl], inB v 2) ∧ (∀ v ∈ [p.xid, p.ci, p.yi, p.si, p.gi], inB v 4) ∧ p.ch.size ≤ 16
theorem whole_nums (p : Pk) (boot file rest : List UInt8) (h : HeadMay p) (hb : boot.length = 64) (hf : file.length = 128) :
    num (mk (wholeP p boot file rest)) 0 1 = p.op ∧ num (mk (wholeP p boot file rest)) 1 1 = p.ht ∧ num (mk (wholeP p boot file rest)) 2 1 = p.ch.size ∧ num (mk (wholeP p boot file rest)) 3 1 = p.ho ∧ num (mk (wholeP p boot file rest)) 4 4 = p.xid ∧ num (mk (wholeP p boot file rest)) 8 2 = p.sc ∧ num (mk (wholeP p boot file rest)) 10 2 = p.fl ∧ num (mk (wholeP p boot file rest)) 12 4 = p.ci ∧ num (mk (wholeP p boot file rest)) 16 4 = p.yi ∧ num (mk (wholeP p boot file rest)) 20 4 = p.si ∧ num (mk (wholeP p boot file rest)) 24 4 = p.gi ∧ num (mk (wholeP p boot file rest)) 236 4 = 1669485411 ∧ cut (mk (wholeP p boot file rest)) 28 p.ch.size = bs p.ch ∧ cut (mk (wholeP p boot file rest)) 44 64 = boot ∧ cut (mk (wholeP p boot file rest)) 108 128 = file ∧ (bs (mk (wholeP p boot file rest))).drop 240 = rest ∧ 240 ≤ ((mk (wholeP p boot file rest))).size := by
  obtain ⟨m1, m2, m4, h16⟩ := h
  have hsz : inB (p.ch.size : Int) 1 := .inl ⟨rfl, by omega, by omega⟩
  have hck : inB 1669485411 4 := .inr (.inr ⟨rfl, by omega, by omega⟩)
  have fl := front_len p h16
  have n0 : num (mk (wholeP p boot file rest)) 0 1 = p.op := by
    have e : wholeP p boot file rest = [] ++ (bs (be p.op 1) ++ (bs (be p.ht 1) ++ bs (be p.ch.size 1) ++ bs (be p.ho 1) ++ nums 4 [p.xid] ++ nums 2 [p.sc, p.fl] ++ nums 4 [p.ci, p.yi, p.si, p.gi] ++ bs p.ch ++ List.replicate (16 - p.ch.size) 0 ++ boot ++ file ++ nums 4 [1669485411] ++ rest)) := by simp [wholeP, frontP, nums]
    rw [e]; exact num_atp (m1 _ (by simp)) _ _ _ rfl
  have n1 : num (mk (wholeP p boot file rest)) 1 1 = p.ht := by
    have e : wholeP p boot file rest = bs (be p.op 1) ++ (bs (be p.ht 1) ++ (bs (be p.ch.size 1) ++ bs (be p.ho 1) ++ nums 4 [p.xid] ++ nums 2 [p.sc, p.fl] ++ nums 4 [p.ci, p.yi, p.si, p.gi] ++ bs p.ch ++ List.replicate (16 - p.ch.size) 0 ++ boot ++ file ++ nums 4 [1669485411] ++ rest)) := by simp [wholeP, frontP, nums]
    rw [e]; exact num_atp (m1 _ (by simp)) _ _ _ (by simp [length_bs, size_be])
  have n2 : num (mk (wholeP p boot file rest)) 2 1 = p.ch.size := by
    have e : wholeP p boot file rest = nums 1 [p.op, p.ht] ++ (bs (be p.ch.size 1) ++ (bs (be p.ho 1) ++ nums 4 [p.xid] ++ nums 2 [p.sc, p.fl] ++ nums 4 [p.ci, p.yi, p.si, p.gi] ++ bs p.ch ++ List.replicate (16 - p.ch.size) 0 ++ boot ++ file ++ nums 4 [1669485411] ++ rest)) := by simp [wholeP, frontP, nums]
    rw [e]; exact num_atp hsz _ _ _ (by rw [nums_len]; rfl)
  have n3 : num (mk (wholeP p boot file rest)) 3 1 = p.ho := by
    have e : wholeP p boot file rest = nums 1 [p.op, p.ht, p.ch.size] ++ (bs (be p.ho 1) ++ (nums 4 [p.xid] ++ nums 2 [p.sc, p.fl] ++ nums 4 [p.ci, p.yi, p.si, p.gi] ++ bs p.ch ++ List.replicate (16 - p.ch.size) 0 ++ boot ++ file ++ nums 4 [1669485411] ++ rest)) := by simp [wholeP, frontP, nums]
    rw [e]; exact num_atp (m1 _ (by simp)) _ _ _ (by rw [nums_len]; rfl)
  have n4 : num (mk (wholeP p boot file rest)) 4 4 = p.xid := by
    have e : wholeP p boot file rest = nums 1 [p.op, p.ht, p.ch.size, p.ho] ++ (bs (be p.xid 4) ++ (nums 2 [p.sc, p.fl] ++ nums 4 [p.ci, p.yi, p.si, p.gi] ++ bs p.ch ++ List.replicate (16 - p.ch.size) 0 ++ boot ++ file ++ nums 4 [1669485411] ++ rest)) := by simp [wholeP, frontP, nums]
    rw [e]; exact num_atp (m4 _ (by simp)) _ _ _ (by rw [nums_len]; rfl)
  have n8 : num (mk (wholeP p boot file rest)) 8 2 = p.sc := by
    have e : wholeP p boot file rest = (nums 1 [p.op, p.ht, p.ch.size, p.ho] ++ nums 4 [p.xid]) ++ (bs (be p.sc 2) ++ (bs (be p.fl 2) ++ nums 4 [p.ci, p.yi, p.si, p.gi] ++ bs p.ch ++ List.replicate (16 - p.ch.size) 0 ++ boot ++ file ++ nums 4 [1669485411] ++ rest)) := by simp [wholeP, frontP, nums]
    rw [e]; exact num_atp (m2 _ (by simp)) _ _ _ (by rw [List.length_append, nums_len, nums_len]; rfl)
  have n10 : num (mk (wholeP p boot file rest)) 10 2 = p.fl := by
    have e : wholeP p boot file rest = (nums 1 [p.op, p.ht, p.ch.size, p.ho] ++ nums 4 [p.xid] ++ nums 2 [p.sc]) ++ (bs (be p.fl 2) ++ (nums 4 [p.ci, p.yi, p.si, p.gi] ++ bs p.ch ++ List.replicate (16 - p.ch.size) 0 ++ boot ++ file ++ nums 4 [1669485411] ++ rest)) := by simp [wholeP, frontP, nums]
    rw [e]; exact num_atp (m2 _ (by simp)) _ _ _ (by rw [List.length_append, List.length_append, nums_len, nums_len, nums_len]; rfl)
  have n12 : num (mk (wholeP p boot file rest)) 12 4 = p.ci := by
    have e : wholeP p boot file rest = (nums 1 [p.op, p.ht, p.ch.size, p.ho] ++ nums 4 [p.xid] ++ nums 2 [p.sc, p.fl]) ++ (bs (be p.ci 4) ++ (nums 4 [p.yi, p.si, p.gi] ++ bs p.ch ++ List.replicate (16 - p.ch.size) 0 ++ boot ++ file ++ nums 4 [1669485411] ++ rest)) := by simp [wholeP, frontP, nums]
    rw [e]; exact num_atp (m4 _ (by simp)) _ _ _ (by rw [List.length_append, List.length_append, nums_len, nums_len, nums_len]; rfl)
  have n16 : num (mk (wholeP p boot file rest)) 16 4 = p.yi := by
    have e : wholeP p boot file rest = (nums 1 [p.op, p.ht, p.ch.size, p.ho] ++ nums 4 [p.xid] ++ nums 2 [p.sc, p.fl] ++ nums 4 [p.ci]) ++ (bs (be p.yi 4) ++ (nums 4 [p.si, p.gi] ++ bs p.ch ++ List.replicate (16 - p.ch.size) 0 ++ boot ++ file ++ nums 4 [1669485411] ++ rest)) := by simp [wholeP, frontP, nums]
    rw [e]; exact num_atp (m4 _ (by simp)) _ _ _ (by simp only [List.length_append, nums_len]; rfl)
  have n20 : num (mk (wholeP p boot file rest)) 20 4 = p.si := by
    have e : wholeP p boot file rest = (nums 1 [p.op, p.ht, p.ch.size, p.ho] ++ nums 4 [p.xid] ++ nums 2 [p.sc, p.fl] ++ nums 4 [p.ci, p.yi]) ++ (bs (be p.si 4) ++ (nums 4 [p.gi] ++ bs p.ch ++ List.replicate (16 - p.ch.size) 0 ++ boot ++ file ++ nums 4 [1669485411] ++ rest)) := by simp [wholeP, frontP, nums]
    rw [e]; exact num_atp (m4 _ (by simp)) _ _ _ (by simp only [List.length_append, nums_len]; rfl)
  have n24 : num (mk (wholeP p boot file rest)) 24 4 = p.gi := by
    have e : wholeP p boot file rest = (nums 1 [p.op, p.ht, p.ch.size, p.ho] ++ nums 4 [p.xid] ++ nums 2 [p.sc, p.fl] ++ nums 4 [p.ci, p.yi, p.si]) ++ (bs (be p.gi 4) ++ (bs p.ch ++ List.replicate (16 - p.ch.size) 0 ++ boot ++ file ++ nums 4 [1669485411] ++ rest)) := by simp [wholeP, frontP, nums]
    rw [e]; exact num_atp (m4 _ (by simp)) _ _ _ (by simp only [List.length_append, nums_len]; rfl)
  have n236 : num (mk (wholeP p boot file rest)) 236 4 = 1669485411 := by
    have e : wholeP p boot file rest = (frontP p ++ boot ++ file) ++ (bs (be 1669485411 4) ++ rest) := by simp [wholeP, nums]
    rw [e]; exact num_atp hck _ _ _ (by simp only [List.length_append, fl, hb, hf])
  have c28 : cut (mk (wholeP p boot file rest)) 28 p.ch.size = bs p.ch := by
    have e : wholeP p boot file rest = (nums 1 [p.op, p.ht, p.ch.size, p.ho] ++ nums 4 [p.xid] ++ nums 2 [p.sc, p.fl] ++ nums 4 [p.ci, p.yi, p.si, p.gi]) ++ (bs p.ch ++ (List.replicate (16 - p.ch.size) 0 ++ boot ++ file ++ nums 4 [1669485411] ++ rest)) := by simp [wholeP, frontP]
    rw [e]; exact cut_at _ _ _ _ _ (by simp only [List.length_append, nums_len]; rfl) (length_bs _)
  have c44 : cut (mk (wholeP p boot file rest)) 44 64 = boot := by
    have e : wholeP p boot file rest = frontP p ++ (boot ++ (file ++ nums 4 [1669485411] ++ rest)) := by simp [wholeP]
    rw [e]; exact cut_at _ _ _ _ _ fl hb
  have c108 : cut (mk (wholeP p boot file rest)) 108 128 = file := by
    have e : wholeP p boot file rest = (frontP p ++ boot) ++ (file ++ (nums 4 [1669485411] ++ rest)) := by simp [wholeP]
    rw [e]; exact cut_at _ _ _ _ _ (by rw [List.length_append, fl, hb]) hf
  have len : (frontP p ++ boot ++ file ++ nums 4 [1669485411]).length = 240 := by simp only [List.length_append, fl, hb, hf, nums_len]; rfl
  have d240 : (bs (mk (wholeP p boot file rest))).drop 240 = rest := by
    rw [bs_mk]
    show (frontP p ++ boot ++ file ++ nums 4 [1669485411] ++ rest).drop 240 = rest
    rw [← len, List.drop_left]
  have hsize : 240 ≤ (mk (wholeP p boot file rest)).size := by
    rw [size_mk]
    show 240 ≤ (frontP p ++ boot ++ file ++ nums 4 [1669485411] ++ rest).length
    rw [List.length_append, len]; omega
  exact ⟨n0, n1, n2, n3, n4, n8, n10, n12, n16, n20, n24, n236, c28, c44, c108, d240, hsize⟩
theorem get_whole (p : Pk) (boot file rest : List UInt8) (h : HeadMay p) (hb : boot.length = 64) (hf : file.length = 128) :
    getP (mk (wholeP p boot file rest)) = (optsP rest boot file).map fun os => { p with os := os } := by
  obtain ⟨n0, n1, n2, n3, n4, n8, n10, n12, n16, n20, n24, n236, c28, c44, c108, d240, hsize⟩ := whole_nums p boot file rest h hb hf
  have h16 := h.2.2.2
  unfold getP
  rw [if_pos ⟨hsize, by rw [n2]; omega, n236⟩, d240, c44, c108, n0, n1, n2, n3, n4, n8, n10, n12, n16, n20, n24, Int.toNat_natCast, c28, mk_bs]
  cases optsP rest boot file <;> rfl

/-! ### options that do not tell of the two places -/
theorem find_absent {os : List Opn} {c : Int} (h : ∀ o ∈ os, o.1 ≠ c) : findO os c = none := find_none (place_none.2 h)
theorem opts_plain {os : List Opn} (h : MayO os) (h52 : ∀ o ∈ os, o.1 ≠ 52) (behind boot file : List UInt8) : optsP (putO os ++ behind) boot file = some os := by
  have e : ovr os = [] := by unfold ovr; rw [find_absent h52]; rfl
  unfold optsP
  rw [get_put h]
  simp [e]
/-- What is put is told again. -/
theorem get_putP {p : Pk} (h : mayP p = true) (h52 : ∀ o ∈ p.os, o.1 ≠ 52) (behind : List UInt8) : getP (mk (headP p ++ putO p.os ++ behind)) = some p := by
  obtain ⟨m1, m2, m4, h16, ho⟩ := (mayP_iff p).1 h
  rw [List.append_assoc, head_whole p h16, get_whole p _ _ _ ⟨m1, m2, m4, h16⟩ (by simp) (by simp), opts_plain ho h52]
  rfl
end Go.Proofs.Ytkohojifnmklmaa
