/-
  Plain facts for the laws' own 'awake' of layer 7.
-/
import Derived.Test.YtkohojifnmklmaaPackWhole
import Derived.Test.YtkohojifnmklmaaOptGot
namespace Go.Proofs.Ytkohojifnmklmaa
open Go.RowKit Go.Pin Go.PlainAid

theorem cut_bs (s : ByteArray) (a b : Nat) (h : a ≤ b) : bs (s.extract a b) = ((bs s).drop a).take (b - a) := by
  have := bs_extract s a (b - a)
  rw [show a + (b - a) = b by omega] at this
  exact this
theorem bs_cat (a b : ByteArray) : bs (a ++ b) = bs a ++ bs b := by simp [bs]
/-- Parts of a packet's text that are written over. -/
theorem replaced (p : Pk) (h16 : p.ch.size ≤ 16) (rest : List UInt8) (T N F L : ByteArray) (hT : bs T = wholeP p (List.replicate 64 0) (List.replicate 128 0) rest) (hn : N.size ≤ 64) (hf : F.size ≤ 128) :
    T.extract 0 44 ++ N ++ T.extract (44 + N.size) 108 ++ F ++ T.extract (108 + F.size) 240 ++ L = mk (wholeP p (bs N ++ List.replicate (64 - N.size) 0) (bs F ++ List.replicate (128 - F.size) 0) (bs L)) := by
  have fl := front_len p h16
  have x1 : bs (T.extract 0 44) = frontP p := by
    have := bs_extract T 0 44
    rw [Nat.zero_add] at this
    rw [this, hT, List.drop_zero, ← fl]
    simp only [wholeP, List.append_assoc, List.take_left]
  have x2 : bs (T.extract (44 + N.size) 108) = List.replicate (64 - N.size) 0 := by
    have := bs_extract T (44 + N.size) (64 - N.size)
    rw [show 44 + N.size + (64 - N.size) = 108 by omega] at this
    rw [this, hT]
    simp only [wholeP, List.append_assoc]
    rw [← List.drop_drop, ← fl, List.drop_left, List.drop_append_of_le_length (by rw [List.length_replicate]; exact hn), List.drop_replicate, List.take_append_of_le_length (by rw [List.length_replicate]; exact Nat.le_refl _), List.take_of_length_le (by rw [List.length_replicate]; exact Nat.le_refl _)]
  have x3 : bs (T.extract (108 + F.size) 240) = List.replicate (128 - F.size) 0 ++ nums 4 [1669485411] := by
    have := bs_extract T (108 + F.size) (132 - F.size)
    rw [show 108 + F.size + (132 - F.size) = 240 by omega] at this
    rw [this, hT]
    have hl : (frontP p ++ List.replicate 64 0).length = 108 := by rw [List.length_append, fl, List.length_replicate]
    have e : wholeP p (List.replicate 64 0) (List.replicate 128 0) rest = (frontP p ++ List.replicate 64 0) ++ (List.replicate 128 0 ++ (nums 4 [1669485411] ++ rest)) := by simp only [wholeP, List.append_assoc]
    rw [e, ← List.drop_drop, ← hl, List.drop_left, List.drop_append_of_le_length (by rw [List.length_replicate]; exact hf), List.drop_replicate, ← List.append_assoc]
    have h4 : (List.replicate (128 - F.size) (0 : UInt8) ++ nums 4 [1669485411]).length = 132 - F.size := by rw [List.length_append, List.length_replicate, nums_len, List.length_cons, List.length_nil]; omega
    rw [← h4, List.take_left]
  apply bs_inj
  rw [bs_mk]
  simp only [bs_cat, x1, x2, x3, wholeP, List.append_assoc]
def pkA : Pk := ⟨1, 1, 0, 258, 0, 0, 0, 0, 0, 0, ⟨#[97, 98, 99, 100, 101, 102]⟩, [(53, [1])]⟩
theorem pkA_may : mayP pkA = true := by decide
theorem pkA_opts : putO pkA.os = [53, 1, 1, 255] := by simp [pkA, putO, bodyO, parts_short, byteO]
def textA : ByteArray := mk (headP pkA ++ [53, 1, 1, 255])
theorem pkA_put : putP pkA = (bs textA, 0) := by
  have h0 := (putA_cases pkA.os).2.1.2 ⟨((mayP_iff _).1 pkA_may).2.2.2.2 |> fun h => by simpa [mayO] using h, by rw [pkA_opts]; decide⟩
  unfold putP
  rw [pkA_may, h0, pkA_opts, textA, bs_mk]; rfl
theorem textA_size : textA.size = 244 := by rw [textA, size_mk, List.length_append, headP_len _ (by decide)]; rfl
theorem textA_whole : bs textA = wholeP pkA (List.replicate 64 0) (List.replicate 128 0) [53, 1, 1, 255] := by rw [textA, bs_mk, head_whole _ (by decide)]
theorem pkA_get : getP textA = some pkA := by
  have := get_putP pkA_may (by decide) []
  rw [pkA_opts, List.append_nil] at this
  exact this
theorem textA_8 : ((textA.extract 0 8).toList == [1, 1, 6, 0, 0, 0, 1, 2]) = true := by
  have h : bs (textA.extract 0 8) = [1, 1, 6, 0, 0, 0, 1, 2] := by
    have e := cut_bs textA 0 8 (by decide)
    rw [show bs textA = headP pkA ++ [53, 1, 1, 255] from bs_mk _] at e
    exact e.trans (by kernel_rfl)
  rw [beq_iff_eq, ByteArray.toList_eq]; exact h
theorem textA_28 : ((textA.extract 28 34).toList == [97, 98, 99, 100, 101, 102]) = true := by
  have h : bs (textA.extract 28 34) = [97, 98, 99, 100, 101, 102] := by
    have e := cut_bs textA 28 34 (by decide)
    rw [show bs textA = headP pkA ++ [53, 1, 1, 255] from bs_mk _] at e
    exact e.trans (by kernel_rfl)
  rw [beq_iff_eq, ByteArray.toList_eq]; exact h
theorem textA_236 : ((textA.extract 236 240).toList == [99, 130, 83, 99]) = true := by
  have h : bs (textA.extract 236 240) = [99, 130, 83, 99] := by
    have e := cut_bs textA 236 240 (by decide)
    rw [show bs textA = headP pkA ++ [53, 1, 1, 255] from bs_mk _] at e
    exact e.trans (by kernel_rfl)
  rw [beq_iff_eq, ByteArray.toList_eq]; exact h
theorem textA_short : getP (textA.extract 0 239) = none := by
  unfold getP
  rw [if_neg]
  rintro ⟨h, _⟩
  simp only [ByteArray.size_extract] at h
  omega
def textO : ByteArray := textA.extract 0 44 ++ ⟨#[12, 1, 121, 255]⟩ ++ textA.extract 48 108 ++ ⟨#[12, 1, 122, 255]⟩ ++ textA.extract 112 240 ++ ⟨#[52, 1, 3, 255]⟩
def pkO : Pk := { pkA with os := [(12, [122, 121])] }
theorem textO_get : getP textO = some pkO := by
  have e : textO = mk (wholeP pkA (bs ⟨#[12, 1, 121, 255]⟩ ++ List.replicate 60 0) (bs ⟨#[12, 1, 122, 255]⟩ ++ List.replicate 124 0) (bs ⟨#[52, 1, 3, 255]⟩)) :=
    replaced pkA (by decide) _ textA ⟨#[12, 1, 121, 255]⟩ ⟨#[12, 1, 122, 255]⟩ ⟨#[52, 1, 3, 255]⟩ textA_whole (by decide) (by decide)
  obtain ⟨m1, m2, m4, h16, _⟩ := (mayP_iff pkA).1 pkA_may
  rw [e, get_whole pkA _ _ _ ⟨m1, m2, m4, h16⟩ rfl rfl]
  have g1 : getO (bs (⟨#[52, 1, 3, 255]⟩ : ByteArray)) [] = some [(52, [3])] := by
    show getO [52, 1, 3, 255] [] = _
    rw [getO_part (by decide) (by decide) (by decide), if_pos (by decide)]
    exact getO_end _ _
  have g2 : getO (bs (⟨#[12, 1, 121, 255]⟩ : ByteArray) ++ List.replicate 60 0) [] = some [(12, [121])] := by
    show getO (12 :: 1 :: 121 :: 255 :: List.replicate 60 0) [] = _
    rw [getO_part (by decide) (by decide) (by simp), if_pos (by decide)]
    exact getO_end _ _
  have g3 : getO (bs (⟨#[12, 1, 122, 255]⟩ : ByteArray) ++ List.replicate 124 0) [] = some [(12, [122])] := by
    show getO (12 :: 1 :: 122 :: 255 :: List.replicate 124 0) [] = _
    rw [getO_part (by decide) (by decide) (by simp), if_pos (by decide)]
    exact getO_end _ _
  have g4 : joinP ([(52, [3])] ++ [(12, [122])] ++ [(12, [121])]) = some [(12, [122, 121])] := by
    have e : rowsJ ([(52, [3])] ++ [(12, [122])] ++ [(12, [121])]) = [12, 1, 122, 12, 1, 121] := by simp [rowsJ, bodyO, parts_short, byteO]
    unfold joinP
    rw [e, getO_part (by decide) (by decide) (by decide), if_pos (by decide)]
    show getO [12, 1, 121] [(12, [122])] = _
    rw [getO_part (by decide) (by decide) (by decide), if_pos (by decide)]
    exact getO_nil _
  have g5 : ovr [(52, [3])] = [3] := rfl
  unfold optsP
  rw [g1]
  simp only [g5, g2, g3, g4]
  rfl
def pkL : Pk := ⟨0, 0, 0, 0, 0, 0, 0, 0, 0, 0, ⟨#[49, 50, 51, 52, 53, 54, 55, 56, 57, 48, 49, 50, 51, 52, 53, 54, 55]⟩, []⟩
theorem pkL_put : putP pkL = (bs ⟨#[]⟩, 700) := by
  have : mayP pkL = false := by decide
  unfold putP
  rw [this]; rfl
end Go.Proofs.Ytkohojifnmklmaa
