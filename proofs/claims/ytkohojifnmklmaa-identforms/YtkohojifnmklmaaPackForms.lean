/-
  Plain facts for PacketForms: the packets that may not be, the texts that tell none.
-/
import Derived.Test.YtkohojifnmklmaaPackAwk
import Derived.Test.YtkohojifnmklmaaPackGet
namespace Go.Proofs.Ytkohojifnmklmaa
open Go.RowKit Go.Pin Go.PlainAid

abbrev RowP := Pk × Option Addr × Nat
/-- The packets that may not be, and where their options lie. -/
def badP (d : Int) (Z : ByteArray) (A : Option Addr) : List RowP :=
  [(⟨-d, 0, 0, 0, 0, 0, 0, 0, 0, 0, ⟨#[]⟩, []⟩, none, 0), (⟨255 + d, 0, 0, 0, 0, 0, 0, 0, 0, 0, ⟨#[]⟩, []⟩, none, 0), (⟨0, 255 + d, 0, 0, 0, 0, 0, 0, 0, 0, ⟨#[]⟩, []⟩, none, 0), (⟨0, 0, -d, 0, 0, 0, 0, 0, 0, 0, ⟨#[]⟩, []⟩, none, 0),
   (⟨0, 0, 0, -d, 0, 0, 0, 0, 0, 0, ⟨#[]⟩, []⟩, none, 0), (⟨0, 0, 0, 4294967295 + d, 0, 0, 0, 0, 0, 0, ⟨#[]⟩, []⟩, none, 0), (⟨0, 0, 0, 0, 65535 + d, 0, 0, 0, 0, 0, ⟨#[]⟩, []⟩, none, 0), (⟨0, 0, 0, 0, 0, -d, 0, 0, 0, 0, ⟨#[]⟩, []⟩, none, 0),
   (⟨0, 0, 0, 0, 0, 0, -d, 0, 0, 0, ⟨#[]⟩, []⟩, none, 0), (⟨0, 0, 0, 0, 0, 0, 0, 4294967295 + d, 0, 0, ⟨#[]⟩, []⟩, none, 0), (⟨0, 0, 0, 0, 0, 0, 0, 0, -d, 0, ⟨#[]⟩, []⟩, none, 0), (⟨0, 0, 0, 0, 0, 0, 0, 0, 0, 4294967295 + d, ⟨#[]⟩, []⟩, none, 0),
   (⟨0, 0, 0, 0, 0, 0, 0, 0, 0, 0, Z, []⟩, none, 0), (⟨0, 0, 0, 0, 0, 0, 0, 0, 0, 0, ⟨#[]⟩, [(255, [])]⟩, A, 1)]
theorem badP_no (d : Int) (Z : ByteArray) (A : Option Addr) (hd : 1 ≤ d ∧ d ≤ 1024) (hZ : 16 < Z.size ∧ Z.size ≤ 2000) : ∀ r ∈ badP d Z A, mayP r.1 = false ∧ r.1.ch.size ≤ maxLen ∧ ((r.1.os = [] ∧ r.2.1 = none) ∨ (r.1.os = [(255, [])] ∧ r.2.1 = A)) := by
  have no (p : Pk) (h : ¬ mayP p = true) : mayP p = false := by simpa using h
  intro r hr
  have b1 : ¬ inB (-d) 1 := fun h => by unfold inB at h; omega
  have b2 : ¬ inB (-d) 2 := fun h => by unfold inB at h; omega
  have b4 : ¬ inB (-d) 4 := fun h => by unfold inB at h; omega
  have c1 : ¬ inB (255 + d) 1 := fun h => by unfold inB at h; omega
  have c2 : ¬ inB (65535 + d) 2 := fun h => by unfold inB at h; omega
  have c4 : ¬ inB (4294967295 + d) 4 := fun h => by unfold inB at h; omega
  simp only [badP, List.mem_cons, List.not_mem_nil, or_false] at hr
  rcases hr with rfl | rfl | rfl | rfl | rfl | rfl | rfl | rfl | rfl | rfl | rfl | rfl | rfl | rfl
  all_goals refine ⟨no _ fun h => ?_, (by first | exact Nat.zero_le _ | (unfold maxLen; show Z.size ≤ _; omega)), (by simp)⟩
  all_goals obtain ⟨m1, m2, m4, h16, ho⟩ := (mayP_iff _).1 h
  · exact b1 (m1 _ (by simp))
  · exact c1 (m1 _ (by simp))
  · exact c1 (m1 _ (by simp))
  · exact b1 (m1 _ (by simp))
  · exact b4 (m4 _ (by simp))
  · exact c4 (m4 _ (by simp))
  · exact c2 (m2 _ (by simp))
  · exact b2 (m2 _ (by simp))
  · exact b4 (m4 _ (by simp))
  · exact c4 (m4 _ (by simp))
  · exact b4 (m4 _ (by simp))
  · exact c4 (m4 _ (by simp))
  · simp only at h16; omega
  · have := (okO_iff _).1 (ho.2.1 (255, []) (by simp)); omega

def textC : ByteArray := mk (headP zeroP ++ [255])
theorem zeroP_may : mayP zeroP = true := by decide
theorem zeroP_opts : putO zeroP.os = [255] := by simp [zeroP, putO, bodyO]
theorem zeroP_put : putP zeroP = (bs textC, 0) := by
  have h0 := (putA_cases zeroP.os).2.1.2 ⟨((mayP_iff _).1 zeroP_may).2.2.2.2 |> fun h => by simpa [mayO] using h, by rw [zeroP_opts]; decide⟩
  unfold putP
  rw [zeroP_may, h0, zeroP_opts, textC, bs_mk]; rfl
theorem textC_size : textC.size = 241 := by rw [textC, size_mk, List.length_append, headP_len _ (by decide)]; rfl
theorem textC_bs : bs textC = headP zeroP ++ [255] := bs_mk _
theorem form0 : getP ⟨#[]⟩ = none := by
  unfold getP
  rw [if_neg]
  rintro ⟨h, _⟩
  simp [ByteArray.size] at h
theorem form1 : getP (textC.extract 0 239) = none := by
  unfold getP
  rw [if_neg]
  rintro ⟨h, _⟩
  simp only [ByteArray.size_extract] at h
  omega
theorem form2 : getP (textC.extract 0 2 ++ ⟨#[17]⟩ ++ textC.extract 3 241) = none := by
  unfold getP
  rw [if_neg]
  rintro ⟨_, h, _⟩
  have e : textC.extract 0 2 ++ ⟨#[17]⟩ ++ textC.extract 3 241 = mk ([0, 0] ++ (bs (be 17 1) ++ bs (textC.extract 3 241))) := by
    apply bs_inj
    rw [bs_mk, bs_cat, bs_cat, cut_bs textC 0 2 (by decide), textC_bs, List.append_assoc]
    have : ((headP zeroP ++ [255]).drop 0).take (2 - 0) = [0, 0] := by kernel_rfl
    rw [this]; rfl
  rw [e, num_atp (by unfold inB; omega) _ _ 2 rfl] at h
  omega
theorem form3 : getP (textC.extract 0 236 ++ ⟨#[99, 130, 83, 100]⟩ ++ textC.extract 240 241) = none := by
  unfold getP
  rw [if_neg]
  rintro ⟨_, _, h⟩
  have e : textC.extract 0 236 ++ ⟨#[99, 130, 83, 100]⟩ ++ textC.extract 240 241 = mk (bs (textC.extract 0 236) ++ (bs (be 1669485412 4) ++ bs (textC.extract 240 241))) := by
    apply bs_inj
    rw [bs_mk, bs_cat, bs_cat, List.append_assoc]
    have : bs (⟨#[99, 130, 83, 100]⟩ : ByteArray) = bs (be 1669485412 4) := by kernel_rfl
    rw [this]
  rw [e, num_atp (by unfold inB; omega) _ _ 236 (by rw [length_bs, ByteArray.size_extract, textC_size]; rfl)] at h
  omega
theorem form4 : getP (textC.extract 0 240 ++ ⟨#[5]⟩) = none := by
  have e : textC.extract 0 240 ++ ⟨#[5]⟩ = mk (headP zeroP ++ [5]) := by
    apply bs_inj
    rw [bs_mk, bs_cat, cut_bs textC 0 240 (by decide), textC_bs, List.drop_zero, ← headP_len zeroP (by decide), Nat.sub_zero, List.take_left]
    rfl
  obtain ⟨m1, m2, m4, h16, _⟩ := (mayP_iff zeroP).1 zeroP_may
  rw [e, head_whole _ h16, get_whole zeroP _ _ _ ⟨m1, m2, m4, h16⟩ (by simp) (by simp)]
  unfold optsP
  rw [getO_one (by decide) (by decide)]
  rfl
theorem form5 : ∃ p, getP ((textC.extract 0 240 ++ ⟨#[52, 1, 1, 255]⟩).extract 0 108 ++ ⟨#[5, 80]⟩ ++ (textC.extract 0 240 ++ ⟨#[52, 1, 1, 255]⟩).extract 110 244) = some p := by
  have e0 : textC.extract 0 240 ++ ⟨#[52, 1, 1, 255]⟩ = mk (headP zeroP ++ [52, 1, 1, 255]) := by
    apply bs_inj
    rw [bs_mk, bs_cat, cut_bs textC 0 240 (by decide), textC_bs, List.drop_zero, ← headP_len zeroP (by decide), Nat.sub_zero, List.take_left]
    rfl
  have e : (textC.extract 0 240 ++ ⟨#[52, 1, 1, 255]⟩).extract 0 108 ++ ⟨#[5, 80]⟩ ++ (textC.extract 0 240 ++ ⟨#[52, 1, 1, 255]⟩).extract 110 244 = mk (wholeP zeroP (List.replicate 64 0) ([5, 80] ++ (List.replicate 80 0 ++ List.replicate 46 0)) [52, 1, 1, 255]) := by
    apply bs_inj
    rw [e0, bs_mk, bs_cat, bs_cat, cut_bs _ 0 108 (by decide), cut_bs _ 110 244 (by decide), bs_mk]
    kernel_rfl
  obtain ⟨m1, m2, m4, h16, _⟩ := (mayP_iff zeroP).1 zeroP_may
  rw [e, get_whole zeroP _ _ _ ⟨m1, m2, m4, h16⟩ (by simp) (by simp)]
  have g1 : getO [52, 1, 1, 255] [] = some [(52, [1])] := by
    rw [getO_part (by decide) (by decide) (by decide), if_pos (by decide)]
    exact getO_end _ _
  have g2 : getO ([5, 80] ++ (List.replicate 80 0 ++ List.replicate 46 0)) [] = some [(5, List.replicate 80 0)] := by
    show getO (5 :: 80 :: (List.replicate 80 0 ++ List.replicate 46 0)) [] = _
    have hn : (80 : UInt8).toNat = 80 := rfl
    rw [getO_part (by decide) (by decide) (by simp), hn, List.take_left' (by simp), List.drop_left' (by simp), if_pos (by simp [roomO, joinO, findO])]
    have := getO_pads 46 [] (joinO [] (5 : UInt8).toNat (List.replicate 80 0))
    rw [List.append_nil, getO_nil] at this
    exact this
  have g3 : joinP ([(52, [1])] ++ [(5, List.replicate 80 0)]) = some [(5, List.replicate 80 0)] := by
    have e : rowsJ ([(52, [1])] ++ [(5, List.replicate 80 0)]) = 5 :: 80 :: List.replicate 80 0 := by
      have : ([(52, [1]), (5, List.replicate 80 (0 : UInt8))] : List Opn).filter (fun o => decide (o.1 ≠ 52)) = [(5, List.replicate 80 0)] := by kernel_rfl
      show bodyO (([(52, [1]), (5, List.replicate 80 (0 : UInt8))] : List Opn).filter (fun o => decide (o.1 ≠ 52))) = _
      rw [this]
      simp [bodyO, parts_short, byteO]
    have hn : (80 : UInt8).toNat = 80 := rfl
    unfold joinP
    rw [e, getO_part (by decide) (by decide) (by simp), hn, List.take_of_length_le (by simp), List.drop_of_length_le (by simp), if_pos (by simp [roomO, joinO, findO]), getO_nil]
    rfl
  unfold optsP
  rw [g1]
  have g5 : ovr [(52, [1])] = [1] := rfl
  simp only [g5, g2, g3, if_true]
  exact ⟨_, rfl⟩
theorem flat_12 : ∀ (l : List RowP) (I : Nat) (r : RowP) (j : Nat), l[I]? = some r → j < 12 → (l.flatMap fun r => (cellsP r.1 r.2.1 r.2.2).toList)[I * 12 + j]? = (cellsP r.1 r.2.1 r.2.2)[j]?
  | [], _, _, _, h, _ => by simp at h
  | a :: l, 0, r, j, h, hj => by
    simp only [List.getElem?_cons_zero, Option.some.injEq] at h
    subst h
    rw [List.flatMap_cons, Nat.zero_mul, Nat.zero_add, List.getElem?_append_left (by simp [cellsP]; omega), Array.getElem?_toList]
  | a :: l, I + 1, r, j, h, hj => by
    simp only [List.getElem?_cons_succ] at h
    rw [List.flatMap_cons, List.getElem?_append_right (by simp [cellsP]; omega)]
    have : (I + 1) * 12 + j - (cellsP a.1 a.2.1 a.2.2).toList.length = I * 12 + j := by simp [cellsP]; omega
    rw [this]
    exact flat_12 l I r j h hj
end Go.Proofs.Ytkohojifnmklmaa
