/-
  Contracts of package fqdn: which flags may be; Put, of all flags and every name.
-/
import Derived.Test.YteaediobcjednaaGiverBy
import Derived.Test.YteaediobcjednaaFqdnPure
namespace Go.Proofs.Yteaediobcjednaa
open Go.ChangeShapes Go.WideShapes Go.ChangeAt Go.RowKit Go.Pin Go.PlainAid

theorem Wr.fresh (w : World) (t : TypeId) : Wr (w.alloc (.cells #[.int .i64 0, .slice none 0 0, .slice none 0 0, .bool false] t)) w.heap.size 0 false ⟨[], [], false⟩ :=
  ⟨new_cell _ _ _ _ _ rfl, new_cell _ _ _ _ _ rfl, ⟨none, 0, none, 0, new_cell _ _ _ _ _ rfl, Bytes.nil _ _, new_cell _ _ _ _ _ rfl, .inl rfl, (fun y h => by cases h), (fun h => by cases h)⟩, fun _ => new_frozen _ _ _ _, by simp⟩
theorem fqMay_c (f : Int) (w : World) : Calls Try.prog 16 #[.int .i64 f] w fun e w' => e = .returned (.bool (mayF f)) ∧ w' = w := by
  by_cases h0 : 0 ≤ f
  · by_cases h1 : f ≤ 15
    · have h : f = 0 ∨ f = 1 ∨ f = 2 ∨ f = 3 ∨ f = 4 ∨ f = 5 ∨ f = 6 ∨ f = 7 ∨ f = 8 ∨ f = 9 ∨ f = 10 ∨ f = 11 ∨ f = 12 ∨ f = 13 ∨ f = 14 ∨ f = 15 := by omega
      rcases h with rfl | rfl | rfl | rfl | rfl | rfl | rfl | rfl | rfl | rfl | rfl | rfl | rfl | rfl | rfl | rfl
      all_goals
        go_enter Try.func16, Try.ntmps16
        go_wp2
        go_ret
        exact ⟨rfl, rfl⟩
    · have d0 : decide (0 ≤ f) = true := by simpa using h0
      have d1 : decide (f ≤ 15) = false := by simpa using h1
      have hm : mayF f = false := by simp [mayF, d1]
      rw [hm]
      go_enter Try.func16, Try.ntmps16
      go_wp2
      go_ret
      exact ⟨rfl, rfl⟩
  · have d0 : decide (0 ≤ f) = false := by simpa using h0
    have hm : mayF f = false := by simp [mayF, d0]
    rw [hm]
    go_enter Try.func16, Try.ntmps16
    go_wp2
    go_ret
    exact ⟨rfl, rfl⟩

/-- A number in k bytes, if it has room in them. -/
noncomputable def numA (v : Int) (k : Nat) (x : Wt) : Wt := open Classical in if inB v k then numW v k x else { x with rf := true }
theorem number_no (b : Nat) (at_ : Int) (G : Bool) (x : Wt) (v : Int) (k : Nat) (w : World) (h : Wr w b at_ G x) (hv : ¬ inB v k) :
    Calls Try.prog 14 #[.pointer (some ⟨b, 0, none⟩), .int .i64 v, .int .i64 k] w fun e w' => e = .returned (.tuple #[]) ∧ Wr w' b at_ G { x with rf := true } ∧ Ink b w w' := by
  have HB : Hid (∀ w, _) := fun w => put_no v k w hv
  have W2 : Hid (Wr (w.setCell ⟨b, 3, none⟩ (.bool true)) b at_ G { x with rf := true }) := h.mark true G (fun _ h => by cases h)
  have HT : Hid (∀ w, Wr w b at_ G { x with rf := true } → _) := fun w h => text_skip b at_ G { x with rf := true } (.string ⟨#[]⟩) w h rfl
  have lt := h.lt
  have c3 := h.c3
  have f3 := h.fz 3
  clear h hv
  cases hr : x.rf
  all_goals
    rw [hr] at c3
    go_enter Try.func14, Try.ntmps14
    go_wp2_with fail
    refine (HB.out _).mono ?_; rintro e w1 ⟨rfl, rfl⟩
    go_wp2_with fail
    refine (HT.out _ W2.out).mono ?_; rintro e w2 ⟨rfl, rfl⟩
    go_wp2
    go_end0
    exact ⟨rfl, W2.out, Ink.set _ _ _⟩
theorem number_any (b : Nat) (at_ : Int) (G : Bool) (x : Wt) (v : Int) (k : Nat) (w : World) (h : Wr w b at_ G x) (hP : x.P.length ≤ 100000) :
    Calls Try.prog 14 #[.pointer (some ⟨b, 0, none⟩), .int .i64 v, .int .i64 k] w fun e w' => e = .returned (.tuple #[]) ∧ Wr w' b at_ G (numA v k x) ∧ Ink b w w' := by
  unfold numA
  by_cases hv : inB v k
  · rw [if_pos hv]; exact number_g b at_ G x v k w h hv hP
  · rw [if_neg hv]; exact number_no b at_ G x v k w h hv

/-- What stands in the writer at the end. -/
noncomputable def endW (f : Int) (n : List UInt8) : Wt := nameW 0 n (numW 65535 2 (numA f 1 ⟨[], [], false⟩))
theorem end_put (f : Int) (n : List UInt8) : putF f n = if mayF f && !(endW f n).rf then some (endW f n).P else none := by
  unfold putF
  cases hm : mayF f with
  | false => simp
  | true =>
    have hb := mayF_bd hm
    have hi : inB f ((1 : Nat) : Int) := .inl ⟨rfl, by omega, by omega⟩
    have he : endW f n = if mayPutL (0 + (3 : Nat)) [] n then ⟨UInt8.ofNat f.toNat :: 255 :: 255 :: putS [] (labsL n), putN [] (0 + (3 : Nat)) (labsL n), false⟩ else ⟨[UInt8.ofNat f.toNat, 255, 255], [], true⟩ := by
      have h1 : bs (be f 1) = [UInt8.ofNat f.toNat] := by rw [be_1 f (by omega) (by omega)]; rfl
      have h2 : bs (be 65535 2) = [255, 255] := rfl
      unfold endW numA
      rw [if_pos hi]
      simp [nameW, numW, textW, h1, h2]
    have hp : mayPutL (0 + (3 : Nat)) [] n = mayL n := by simp [mayPutL]
    rw [he, hp]
    cases hl : mayL n with
    | true => simp
    | false => simp
def fqA (r : Option (List UInt8)) : ByteArray × Int := match r with
  | some P => (mk P, 0)
  | none => (⟨#[]⟩, 800)

set_option maxHeartbeats 1000000 in
theorem fPut_c (f : Int) (n : ByteArray) (w : World) (hn : n.size ≤ maxLen) :
    Calls Try.prog 7 #[.int .i64 f, .string n] w fun e w' => e = .returned (.tuple #[.string (fqA (putF f (bs n))).1, .int .i64 (fqA (putF f (bs n))).2]) ∧ Below w.heap.size w w' := by
  have hE := end_put f (bs n)
  have HF : Hid (∀ w, _) := fun w => from_g 0 none 0 0 w
  have HN : Hid (∀ b w, Wr w b 0 false ⟨[], [], false⟩ → _) := fun b w h => number_any b 0 false ⟨[], [], false⟩ f 1 w h (by simp)
  have l1 : (numA f 1 ⟨[], [], false⟩).P.length ≤ 1 ∧ (numA f 1 ⟨[], [], false⟩).ks = [] := by
    unfold numA; split <;> simp [numW, textW, length_bs, size_be]
  have HC : Hid (∀ b w, Wr w b 0 false (numA f 1 ⟨[], [], false⟩) → _) := fun b w h => number_g b 0 false (numA f 1 ⟨[], [], false⟩) 65535 2 w h (by unfold inB; omega) (by omega)
  have l2 : (numW 65535 2 (numA f 1 ⟨[], [], false⟩)).P.length ≤ 3 ∧ (numW 65535 2 (numA f 1 ⟨[], [], false⟩)).ks = [] := by
    unfold numW textW; split
    · exact ⟨by omega, l1.2⟩
    · refine ⟨?_, l1.2⟩
      have : (bs (be 65535 2)).length = 2 := by rw [length_bs, size_be]
      simp only [List.length_append]; omega
  have HM : Hid (∀ b w, Wr w b 0 false (numW 65535 2 (numA f 1 ⟨[], [], false⟩)) → _) := fun b w h => name_g b 0 false (numW 65535 2 (numA f 1 ⟨[], [], false⟩)) n w h (by omega) (by rw [l2.2]; simp) (by rw [l2.2]; simp) hn (fun _ => by omega)
  have HO : Hid (∀ b w, Wr w b 0 true (endW f (bs n)) → _) := fun b w h => ok_g b 0 true (endW f (bs n)) w h
  have HG : Hid (∀ b w, Wr w b 0 true (endW f (bs n)) → _) := fun b w h => given_g b 0 true (endW f (bs n)) w h
  have HY : Hid (∀ w, _) := fun w => fqMay_c f w
  have eE : endW f (bs n) = nameW 0 (bs n) (numW 65535 2 (numA f 1 ⟨[], [], false⟩)) := rfl
  rw [← eE] at HM
  clear l1 l2 eE
  generalize numA f 1 ⟨[], [], false⟩ = x1 at *
  generalize numW 65535 2 x1 = x2 at *
  generalize endW f (bs n) = x3 at *
  generalize putF f (bs n) = R at *
  generalize mayF f = m at *
  obtain ⟨P3, k3, r3⟩ := x3
  simp only at hE HO HG
  have hE' : fqA R = if m && !r3 then (mk P3, 0) else (⟨#[]⟩, 800) := by rw [hE]; cases m <;> cases r3 <;> rfl
  rw [hE']
  clear hE hE'
  generalize mk P3 = S at *
  cases m
  all_goals cases r3
  all_goals
    simp only [Bool.not_false, Bool.not_true, Bool.and_true, Bool.and_false, if_true, Bool.false_eq_true, if_false]
    go_enter Try.func7, Try.ntmps7
    go_wp2_with fail
    refine (HF.out _).mono ?_; rintro e w1 ⟨rfl, hb1⟩
    have W2 : Hid (Wr (w1.alloc (.cells #[.int .i64 0, .slice none 0 0, .slice none 0 0, .bool false] 43)) w1.heap.size 0 false ⟨[], [], false⟩) := Wr.fresh w1 _
    have B2 : Hid (Below w.heap.size w (w1.alloc (.cells #[.int .i64 0, .slice none 0 0, .slice none 0 0, .bool false] 43))) := hb1.alloc hb1.size _
    have hle := hb1.size
    clear hb1 HF
    go_wp2_with fail
    refine (HN.out _ _ W2.out).mono ?_; rintro e w3 ⟨rfl, hW, hI⟩
    have W3 : Hid (_) := hW
    have B3 : Hid (Below w.heap.size w w3) := B2.out.trans (hI.bel.mono hle)
    clear hW hI W2 B2 HN
    go_wp2_with fail
    refine (HC.out _ _ W3.out).mono ?_; rintro e w4 ⟨rfl, hW, hI⟩
    have W4 : Hid (_) := hW
    have B4 : Hid (Below w.heap.size w w4) := B3.out.trans (hI.bel.mono hle)
    clear hW hI W3 B3 HC
    go_wp2_with fail
    refine (HM.out _ _ W4.out).mono ?_; rintro e w5 ⟨rfl, hW, hI⟩
    have W5 : Hid (_) := hW
    have B5 : Hid (Below w.heap.size w w5) := B4.out.trans (hI.bel.mono hle)
    clear hW hI W4 B4 HM
    go_wp2_with (first
      | (go_at_call 16; refine (HY.out _).mono ?_; rintro e w6 ⟨rfl, rfl⟩)
      | (go_at_call 17; refine (HO.out _ _ W5.out).mono ?_; rintro e w6 ⟨rfl, rfl⟩)
      | (go_at_call 18; refine (HG.out _ _ W5.out).mono ?_; rintro e w6 ⟨rfl, rfl⟩)
      | fail)
    go_ret2
    exact ⟨rfl, B5.out⟩

end Go.Proofs.Yteaediobcjednaa
