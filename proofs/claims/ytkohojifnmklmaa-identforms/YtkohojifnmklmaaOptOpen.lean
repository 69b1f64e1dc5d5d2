/-
  A list of options that came in: opened.
-/
import Derived.Test.YtkohojifnmklmaaOptMem
import Derived.Deep.SlicePairs
import Derived.Deep.Slices
import Derived.ChangeSame
import Derived.WideShapes
import Derived.RowKit
import Derived.ProofKit
import Derived.SizedLaws
namespace Go.Proofs.Ytkohojifnmklmaa
open Go.ChangeShapes Go.WideShapes Go.ChangeAt Go.RowKit Go.Pin Go.PlainAid

/-- What the walk is told of a list of options that came in. -/
def IsOpts (w : World) (a : Option Addr) (len : Nat) (os : List Opn) : Prop := len = os.length ∧ OpLies w a os ∧ os.length * 24 ≤ 140737488351232 ∧ ∀ o ∈ os, (Lit.int .i64 o.1).wf = true ∧ o.2.length ≤ maxLen
theorem Try.bytesOp : Try.prog.bytesOf 39 = 24 := by kernel_rfl

theorem opts_of {H : Type} {enc : TypeId × Value → H} {W : World} {base : Nat} {spare : Nat → Bool} {held : Bool} {n len : Nat} {x : Addr} {V0 V1 : Nat → Value} {D0 D1 : Nat → DataW H} {P0 P1 : Nat → List MemPlace}
    (h : ∀ i, i < len → W.cell? (x.add (i * 2)) = some (V0 i) ∧ W.cell? (x.add (i * 2 + 1)) = some (V1 i) ∧ DataW.trod enc Try.prog W base spare held n 3 [V0 i] = some (D0 i, P0 i) ∧ DataW.trod enc Try.prog W base spare held n 9 [V1 i] = some (D1 i, P1 i))
    (hb : len * 24 ≤ 140737488351232) : ∃ os, IsOpts W (some x) len os := by
  have each : ∀ i, i < len → ∃ q : Int × ByteArray, V0 i = .int .i64 q.1 ∧ V1 i = .string q.2 ∧ (Lit.int .i64 q.1).wf = true ∧ q.2.size ≤ maxLen := by
    intro i hi
    obtain ⟨_, _, h1, h2⟩ := h i hi
    obtain ⟨s, e1, _, hs⟩ := DataW.trod_string Try.underlying9 h2
    obtain ⟨z, e3, _, hz⟩ := DataW.trod_int Try.underlying3 h1
    exact ⟨(z, s), by simpa using e3, by simpa using e1, hz, hs⟩
  obtain ⟨q, hq⟩ := Go.Deep.choose_lt each
  refine ⟨(List.range len).map fun i => ((q i).1, bs (q i).2), by simp, .inr ⟨x, rfl, fun j hj => ?_⟩, by simpa using hb, ?_⟩
  · simp only [List.length_map, List.length_range] at hj
    obtain ⟨h1, h2, _⟩ := h j hj
    obtain ⟨e1, e2, _⟩ := hq j hj
    have e : opAt ((List.range len).map fun i => ((q i).1, bs (q i).2)) j = ((q j).1, bs (q j).2) := by
      unfold opAt
      rw [List.getD_eq_getElem?_getD, List.getElem?_map, List.getElem?_range hj]; rfl
    rw [e]
    refine ⟨by rw [h1, e1], ?_⟩
    rw [e2] at h2
    simp only [mk_bs]
    rw [← h2]
    congr 1
    unfold Addr.add
    rw [if_neg (by omega : ¬ (j * 2 + 1 = 0))]
    by_cases hz : j * 2 = 0
    · rw [if_pos hz]; simp
    · rw [if_neg hz]; simp only [Addr.mk.injEq, and_true, true_and]; omega
  · intro o ho
    simp only [List.mem_map, List.mem_range] at ho
    obtain ⟨i, hi, rfl⟩ := ho
    obtain ⟨_, _, h3, h4⟩ := hq i hi
    exact ⟨h3, by simp only [length_bs]; exact h4⟩
theorem open_opts {H : Type} {enc : TypeId × Value → H} {W : World} {base : Nat} {spare : Nat → Bool} {held : Bool} {a : Option Addr} {len cap : Nat} {d : DataW H} {ps : List MemPlace}
    (h : DataW.Trod enc Try.prog W base spare held 22 (.slice a len cap) d ps) (hz : ∀ es sp, d = .slice es sp → (es.length + sp.length) * Try.prog.bytesOf 39 ≤ reachBytes) : ∃ os, IsOpts W a len os := by
  obtain ⟨fuel, hf⟩ := h
  rcases Go.Deep.open_slice_pairs Try.underlying22 Try.underlying39 (by kernel_rfl) rfl rfl (by kernel_rfl) (by kernel_rfl) hf with ⟨hcs, _⟩ | ⟨x, l, c, m, n, V0, V1, D0, D1, P0, P1, hcs, _, hl, hm, hmm, hx, hcell⟩
  · simp [Value.cells] at hcs
    obtain ⟨rfl, rfl, rfl⟩ := hcs
    exact ⟨[], rfl, .inl rfl, by simp, by simp⟩
  · simp [Value.cells] at hcs
    obtain ⟨rfl, rfl, rfl⟩ := hcs
    have hlm : len ≤ m := by rw [hmm]; split <;> omega
    simp only [Prod.mk.injEq] at hx
    have hw := hz _ _ hx.1
    rw [Try.bytesOp] at hw
    simp only [List.length_map, List.length_range] at hw
    exact opts_of (fun i hi => hcell i (by omega)) (by unfold reachBytes at hw; omega)

end Go.Proofs.Ytkohojifnmklmaa
