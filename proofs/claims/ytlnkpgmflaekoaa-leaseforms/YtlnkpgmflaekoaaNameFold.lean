/-
  Contracts of name.Fold and of the reference's Fold, at whatever text.
-/
import Derived.Test.YtlnkpgmflaekoaaName
import Derived.Laws.IdiomStrings
namespace Go.Proofs.Ytlnkpgmflaekoaa
open Go.ChangeShapes Go.WideShapes Go.ChangeAt Go.RowKit Go.Pin Go.PlainAid

theorem bytes_new (s : ByteArray) (w : World) : ∃ (w1 : World) (cap : Nat), (convert 9 28 (.string s)).run Try.prog w = .ok (.slice (some ⟨w.heap.size, 0, none⟩) s.size cap) w1 ∧ Below w.heap.size w w1 ∧ w1.heap.size = w.heap.size + 1 ∧
    (∀ j, j < s.size → w1.cell? ⟨w.heap.size, j, none⟩ = some (.int .u8 (bt s j)) ∧ w1.frozen? ⟨w.heap.size, j, none⟩ = false) := by
  refine ⟨_, _, run_bytes_of_string w 9 28 5 s Try.underlying9 Try.underlying28 Try.underlying5, ?_, ?_, ?_⟩
  · exact ((Below.refl _ _).drew).alloc (Nat.le_refl _) _
  · exact World.size_alloc _ _
  · intro j hj
    have hc := World.cell?_alloc_mark w.drew (bytesRow s (grownCap w s.size 0 5)) 5 ((bytesRow s (grownCap w s.size 0 5)).size, (bytesRow s (grownCap w s.size 0 5)).size + 1) j
    have hf := World.frozen?_alloc_mark w.drew (bytesRow s (grownCap w s.size 0 5)) 5 (bytesRow s (grownCap w s.size 0 5)).size ((bytesRow s (grownCap w s.size 0 5)).size + 1) j
    have hb := bytesRow_at s (grownCap w s.size 0 5) j hj
    refine ⟨hc.trans (hb.trans ?_), hf.trans ?_⟩
    · unfold bt; rw [dif_pos hj]; rfl
    · have : j < (bytesRow s (grownCap w s.size 0 5)).size := (Array.getElem?_eq_some_iff.1 hb).1
      simp; omega

/-- The first i bytes are folded. -/
def Half (w : World) (g : Nat) (s : ByteArray) (i : Nat) : Prop := ∀ j, j < s.size → w.cell? ⟨g, j, none⟩ = some (.int .u8 (if j < i then foldByte (bt s j) else bt s j)) ∧ w.frozen? ⟨g, j, none⟩ = false

theorem Half.at {w : World} {g : Nat} {s : ByteArray} {i : Nat} (h : Half w g s i) (hi : i < s.size) : w.cell? ⟨g, i, none⟩ = some (.int .u8 (bt s i)) ∧ w.frozen? ⟨g, i, none⟩ = false := by
  have := h i hi; simpa using this

theorem Half.same {w : World} {g : Nat} {s : ByteArray} {i : Nat} (h : Half w g s i) (hg : foldByte (bt s i) = bt s i) : Half w g s (i + 1) := by
  intro j hj
  refine ⟨?_, (h j hj).2⟩
  rw [(h j hj).1]
  by_cases h1 : j < i
  · rw [if_pos h1, if_pos (by omega)]
  · by_cases h2 : j = i
    · subst h2; rw [if_neg h1, if_pos (by omega), hg]
    · rw [if_neg h1, if_neg (by omega)]

theorem Half.set {w : World} {g : Nat} {s : ByteArray} {i : Nat} (h : Half w g s i) (hi : i < s.size) (x : Int) (hx : foldByte (bt s i) = x) : Half (w.setCell ⟨g, i, none⟩ (.int .u8 x)) g s (i + 1) := by
  intro j hj
  refine ⟨?_, by rw [World.frozen?_setCell]; exact (h j hj).2⟩
  by_cases h2 : j = i
  · subst h2
    rw [World.cell?_setCell_same _ _ _ (h j hj).1, if_pos (by omega), hx]
  · rw [World.cell?_setCell_other _ _ _ _ (by intro e; apply h2; injection e with _ e; exact e.symm), (h j hj).1]
    by_cases h1 : j < i
    · rw [if_pos h1, if_pos (by omega)]
    · rw [if_neg h1, if_neg (by omega)]

theorem foldC_byte (c : UInt8) : ((foldC c).toNat : Int) = foldByte c.toNat := by
  have hc := c.toNat_lt
  unfold foldC foldByte
  by_cases h : 65 ≤ c.toNat ∧ c.toNat ≤ 90
  · rw [if_pos h, if_pos (by omega)]; simp; omega
  · rw [if_neg h, if_neg (by omega)]

theorem Half.all {w : World} {g : Nat} {s : ByteArray} (h : Half w g s s.size) (cap : Nat) : (convert 28 9 (.slice (some ⟨g, 0, none⟩) s.size cap)).run Try.prog w = .ok (.string (mk (foldL (bs s)))) w := by
  have hl : (foldL (bs s)).length = s.size := by simp [foldL, length_bs]
  have := run_convert_bytes_back (P := Try.prog) w 28 9 5 ⟨g, 0, none⟩ cap (foldL (bs s)) Try.underlying28 Try.underlying5 Try.underlying9 (by
    intro j hj
    have hj' : j < s.size := by rw [← hl]; exact hj
    rw [addr_add, Nat.zero_add, (h j hj').1, if_pos hj']
    obtain ⟨c, hc, hb⟩ := bt_bs s j hj'
    have e : (foldL (bs s))[j] = foldC c := by
      have h1 : (foldL (bs s))[j]? = some (foldC c) := by simp [foldL, hc]
      rw [List.getElem?_eq_getElem hj] at h1
      exact Option.some.inj h1
    rw [e, foldC_byte, hb])
  rw [hl] at this
  exact this

theorem foldByte_yes {x : Int} (h1 : 65 ≤ x) (h2 : x ≤ 90) : foldByte x = x + 32 := by unfold foldByte; rw [if_pos ⟨h1, h2⟩]
theorem foldByte_no {x : Int} (h : x < 65 ∨ 90 < x) : foldByte x = x := by unfold foldByte; rw [if_neg (by omega)]



end Go.Proofs.Ytlnkpgmflaekoaa
