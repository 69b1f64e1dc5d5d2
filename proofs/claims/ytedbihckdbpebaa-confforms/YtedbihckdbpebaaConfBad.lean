/-
  Configurations that may not be, one thing at a time, and how they lie in memory once the given one was written into.
-/
import Derived.Test.YtedbihckdbpebaaAwake11
import Derived.ChangeOld
import Derived.SizedLaws
import Derived.Carry
namespace Go.Proofs.Ytedbihckdbpebaa
namespace confBad
open Go.ChangeShapes Go.WideShapes Go.ChangeAt Go.RowKit Go.Pin Go.PlainAid

theorem Try.intNoRsv : (3 : TypeId) ≠ 47 := by decide
theorem Try.intNoRR : (3 : TypeId) ≠ 49 := by decide
theorem Try.rsvNoRR : (47 : TypeId) ≠ 49 := by decide
theorem other_block {w : World} {b1 b2 : Nat} {e1 e2 : TypeId} {s1 s2 : Nat} {v1 : Value} {g n1 n2 cap : Nat} {xs1 xs2 : List Value} (h1 : w.ownsRow b1 e1 s1 v1 n1 xs1) (h2 : w.ownsRow b2 e2 s2 (.slice (some ⟨g, 0, none⟩) n2 cap) n2 xs2) (hne : e1 ≠ e2) : v1.ownBlock ≠ some g := by
  rcases owns_apart h1 h2 hne with h | h
  · rw [h]; simp
  · exact h
/-- The configuration c boxed at d, its lists the call's own. -/
structure St (w : World) (base d : Nat) (wx : World) (c : Cf) (p : CPl) : Prop where
  e : Nums wx base (.slice p.ea c.ex.length p.ec) c.ex
  r : Rsvs wx base (.slice p.ra c.rs.length p.rc) c.rs
  s : Recs wx base (.slice p.sa c.st.length p.sc) c.st
  x : BoxC wx d c p
  en : ∀ k, (Value.slice p.ea c.ex.length p.ec).ownBlock = some k → k ≠ d
  rn : ∀ k, (Value.slice p.ra c.rs.length p.rc).ownBlock = some k → k ≠ d
  sn : ∀ k, (Value.slice p.sa c.st.length p.sc).ownBlock = some k → k ≠ d
  wb : w.heap.size ≤ base
  bd : base ≤ d
  b : Below w.heap.size w wx
theorem St.lies {w : World} {base d : Nat} {wx : World} {c : Cf} {p : CPl} (h : St w base d wx c p) : CfLies wx c p := ⟨h.e.lies, h.r.lies, h.s.lie⟩
theorem St.fz {w : World} {base d : Nat} {wx : World} {c : Cf} {p : CPl} (h : St w base d wx c p) (k : Nat) : wx.frozen? ⟨d, k, none⟩ = false := h.x.fz k
/-- A field written. -/
theorem St.field {w : World} {base d : Nat} {wx : World} {c c' : Cf} {p : CPl} (h : St w base d wx c p) (k : Nat) (v : Value) (he : c'.ex = c.ex) (hr : c'.rs = c.rs) (hs : c'.st = c.st) (hv : (cellsC c p).setIfInBounds k v = cellsC c' p) : St w base d (wx.setCell ⟨d, k, none⟩ v) c' p := by
  obtain ⟨a1, a2, a3, a4, a5, a6, a7⟩ := c'
  simp only at he hr hs
  subst he hr hs
  exact ⟨ownsRow_setCell_other h.e (fun e => h.en d e rfl) _, ownsRow_setCell_other h.r (fun e => h.rn d e rfl) _, ownsRow_setCell_other h.s (fun e => h.sn d e rfl) _, h.x.set k v hv, h.en, h.rn, h.sn, h.wb, h.bd, h.b.setCell (show w.heap.size ≤ d from Nat.le_trans h.wb h.bd) _⟩
/-- Other hosts excluded. -/
theorem St.newE {w : World} {base d : Nat} {wx : World} {c : Cf} {p : CPl} (h : St w base d wx c p) (cs : Array Value) (xs : List Int) (hcs : cs.toList = xs.map (Value.int .i64)) (h0 : 0 < xs.length) (h1 : xs.length ≤ 100) :
    St w base d ((wx.alloc (.cells cs 3)).setCell ⟨d, 2, none⟩ (.slice (some ⟨wx.heap.size, 0, none⟩) xs.length xs.length)) { c with ex := xs } { p with ea := some ⟨wx.heap.size, 0, none⟩, ec := xs.length } := by
  have hlt := h.x.lt
  have hA : Below wx.heap.size wx (wx.alloc (.cells cs 3)) := (Below.refl _ _).alloc (Nat.le_refl _) _
  have hE : (wx.alloc (.cells cs 3)).ownsRow wx.heap.size 3 1 (.slice (some ⟨wx.heap.size, 0, none⟩) xs.length xs.length) xs.length cs.toList := World.ownsRow_lit wx cs xs.length (by omega) (by unfold maxLen; omega) (by rw [← Array.length_toList, hcs]; simp)
  rw [hcs] at hE
  have hne : ∀ k, (Value.slice (some ⟨wx.heap.size, 0, none⟩) xs.length xs.length).ownBlock = some k → k ≠ d := by
    intro k hk
    have : wx.heap.size = k := Option.some.inj hk
    omega
  refine ⟨ownsRow_setCell_other (row_base hE (by have := h.bd; omega)) (fun e => hne d e rfl) _, ownsRow_setCell_other (row_below h.r hA) (fun e => h.rn d e rfl) _, ownsRow_setCell_other (row_below h.s hA) (fun e => h.sn d e rfl) _, (h.x.below hA).set 2 _ rfl, hne, h.rn, h.sn, h.wb, h.bd, (h.b.trans (hA.mono h.b.size)).setCell (show w.heap.size ≤ d from Nat.le_trans h.wb h.bd) _⟩
/-- Other hosts reserved. -/
theorem St.newR {w : World} {base d : Nat} {wx : World} {c : Cf} {p : CPl} (h : St w base d wx c p) (cs : Array Value) (xs : List Rsv) (hcs : cs.toList = xs.flatMap cellsV) (h0 : 0 < xs.length) (h1 : xs.length ≤ 100) :
    St w base d ((wx.alloc (.cells cs 47)).setCell ⟨d, 3, none⟩ (.slice (some ⟨wx.heap.size, 0, none⟩) xs.length xs.length)) { c with rs := xs } { p with ra := some ⟨wx.heap.size, 0, none⟩, rc := xs.length } := by
  have hlt := h.x.lt
  have hA : Below wx.heap.size wx (wx.alloc (.cells cs 47)) := (Below.refl _ _).alloc (Nat.le_refl _) _
  have hl : cs.size = xs.length * 2 := by
    rw [← Array.length_toList, hcs, List.length_flatMap]
    have : ∀ l : List Rsv, (l.map fun r => (cellsV r).length).sum = l.length * 2 := fun l => by
      induction l with
      | nil => rfl
      | cons a l ih =>
        rw [List.map_cons, List.sum_cons, ih]
        simp only [cellsV, List.length_cons, List.length_nil]; omega
    exact this xs
  have hE : (wx.alloc (.cells cs 47)).ownsRow wx.heap.size 47 2 (.slice (some ⟨wx.heap.size, 0, none⟩) xs.length xs.length) xs.length cs.toList := World.ownsRow_lit wx cs xs.length (by omega) (by unfold maxLen; omega) (by rw [hl])
  rw [hcs] at hE
  have hne : ∀ k, (Value.slice (some ⟨wx.heap.size, 0, none⟩) xs.length xs.length).ownBlock = some k → k ≠ d := by
    intro k hk
    have : wx.heap.size = k := Option.some.inj hk
    omega
  refine ⟨ownsRow_setCell_other (row_below h.e hA) (fun e => h.en d e rfl) _, ownsRow_setCell_other (row_base hE (by have := h.bd; omega)) (fun e => hne d e rfl) _, ownsRow_setCell_other (row_below h.s hA) (fun e => h.sn d e rfl) _, (h.x.below hA).set 3 _ rfl, h.en, hne, h.sn, h.wb, h.bd, (h.b.trans (hA.mono h.b.size)).setCell (show w.heap.size ≤ d from Nat.le_trans h.wb h.bd) _⟩
/-- The one standing record written. -/
theorem St.stat {w : World} {base d : Nat} {wx : World} {fi la : Int} {ex : List Int} {rs : List Rsv} {ti : Int} {zo : ByteArray} {r r' : Rec} {p : CPl} (h : St w base d wx ⟨fi, la, ex, rs, ti, zo, [r]⟩ p) {g : Nat} (hg : p.sa = some ⟨g, 0, none⟩) (k : Nat) (v : Value) (hv : (cellsR r).set k v = cellsR r') :
    St w base d (wx.setCell ⟨g, k, none⟩ v) ⟨fi, la, ex, rs, ti, zo, [r']⟩ p := by
  have hs := h.s
  unfold Recs at hs
  rw [hg] at hs
  have hs : wx.ownsRow base 49 7 (.slice (some ⟨g, 0, none⟩) 1 p.sc) 1 ((cellsR r) ++ []) := hs
  rw [List.append_nil] at hs
  have hgb := World.ownsRow.lt hs g rfl
  have hgd : d ≠ g := fun e => h.sn g (by rw [hg]; rfl) e.symm
  have hst := (World.ownsRow.stored hs k v).1
  rw [hv] at hst
  refine ⟨ownsRow_setCell_other h.e (other_block h.e hs Try.intNoRR) _, ownsRow_setCell_other h.r (other_block h.r hs Try.rsvNoRR) _, ?_, (h.x.far hgd : _), h.en, h.rn, h.sn, h.wb, h.bd, h.b.setCell (show w.heap.size ≤ g from Nat.le_trans h.wb hgb.1) _⟩
  unfold Recs
  rw [hg]
  show World.ownsRow _ _ _ _ _ _ (cellsR r' ++ [])
  rw [List.append_nil]
  exact hst
/-- Where the standing record lies. -/
theorem St.at {w : World} {base d : Nat} {wx : World} {fi la : Int} {ex : List Int} {rs : List Rsv} {ti : Int} {zo : ByteArray} {r : Rec} {p : CPl} (h : St w base d wx ⟨fi, la, ex, rs, ti, zo, [r]⟩ p) : ∃ g, p.sa = some ⟨g, 0, none⟩ ∧ (∀ j, j < 7 → wx.cell? ⟨g, j, none⟩ = (cellsR r)[j]?) ∧ ∀ j, wx.frozen? ⟨g, j, none⟩ = false := by
  have hs := h.s
  unfold Recs at hs
  obtain ⟨g, hg, _, hc⟩ := row_cell hs (Nat.zero_lt_succ _)
  rw [hg] at hs
  refine ⟨g, hg, fun j hj => ?_, fun j => World.ownsRow.frozenAt hs j⟩
  have := hc j (by simp only [List.length_cons, List.length_nil]; omega)
  rw [this]
  show (cellsR r ++ [])[j]? = _
  rw [List.append_nil]

/-! ### what may not be -/
def gR : Rec := ⟨⟨#[119, 119, 119, 46, 108, 97, 110]⟩, 1, 5, 7, ⟨#[]⟩, ⟨#[]⟩, 0⟩
theorem g_same {fi la ti : Int} {zo : ByteArray} (hz : zo.size ≤ 100) : CfFits { gC with fi := fi, la := la, ti := ti, zo := zo } := ⟨by unfold maxLen; simp only; omega, gC_fits.r, gC_fits.s, gC_fits.el, gC_fits.rl, gC_fits.sl⟩
theorem g_ex {xs : List Int} (h : xs.length ≤ 100) : CfFits { gC with ex := xs } := ⟨gC_fits.z, gC_fits.r, gC_fits.s, by unfold maxLen; simp only; omega, gC_fits.rl, gC_fits.sl⟩
theorem g_rs {xs : List Rsv} (h : xs.length ≤ 100) (hs : ∀ r ∈ xs, r.c.size ≤ 100) : CfFits { gC with rs := xs } := ⟨gC_fits.z, fun r hr => by have := hs r hr; unfold maxLen; omega, gC_fits.s, gC_fits.el, by unfold maxLen; simp only; omega, gC_fits.sl⟩
theorem g_st {r : Rec} (h : r.n.size ≤ 100 ∧ r.tg.size ≤ 100 ∧ r.tx.size ≤ 100) : CfFits { gC with st := [r] } := ⟨gC_fits.z, gC_fits.r, fun x hx => by
  obtain rfl : x = r := by simpa using hx
  unfold IsRec maxLen; omega, gC_fits.el, gC_fits.rl, by unfold maxLen; simp⟩
theorem no_0 (d : Int) (h : 0 ≤ d) : mayC { gC with fi := 2 - (1 + d) } = false := Bool.eq_false_iff.2 fun hm => by
  have := (rangeB_iff _ _).1 ((mayC_iff _).1 hm).1
  simp only at this
  omega
theorem no_1 (d : Int) (h : 0 ≤ d) : mayC { gC with la := 254 + (1 + d) } = false := Bool.eq_false_iff.2 fun hm => by
  have := (rangeB_iff _ _).1 ((mayC_iff _).1 hm).1
  simp only at this
  omega
theorem no_2 : mayC { gC with la := 9 } = false := by decide +kernel
theorem no_3 : mayC { gC with la := 18 } = false := by decide +kernel
theorem no_4 : mayC { gC with ex := [9] } = false := by decide +kernel
theorem no_5 (d : Int) (h : 0 ≤ d) : mayC { gC with ex := [13 + (1 + d)] } = false := Bool.eq_false_iff.2 fun hm => by
  have h2 := ((mayC_iff _).1 hm).2.1
  simp only [exB, Bool.and_eq_true] at h2
  have := hostsB_mem h2.2 (List.mem_singleton.2 rfl)
  simp only [gC] at this
  omega
theorem no_6 : mayC { gC with ex := [11, 11] } = false := by decide +kernel
theorem no_7 : mayC { gC with rs := [⟨⟨#[97]⟩, 14⟩] } = false := by decide +kernel
theorem no_8 : mayC { gC with rs := [⟨⟨#[97]⟩, 10⟩, ⟨⟨#[98]⟩, 10⟩] } = false := by decide +kernel
theorem no_9 : mayC { gC with rs := [⟨⟨#[97]⟩, 10⟩, ⟨⟨#[97]⟩, 11⟩] } = false := by decide +kernel
theorem no_10 : mayC { gC with rs := [⟨⟨#[]⟩, 10⟩] } = false := by decide +kernel
theorem no_11 (d : Int) (h : 0 ≤ d) : mayC { gC with ti := 1 - (1 + d) } = false := Bool.eq_false_iff.2 fun hm => by
  have := (betw_iff _ _ _).1 ((mayC_iff _).1 hm).2.2.2.1
  simp only at this
  omega
theorem no_12 (d : Int) (h : 0 ≤ d) : mayC { gC with ti := 1048576 + (1 + d) } = false := Bool.eq_false_iff.2 fun hm => by
  have := (betw_iff _ _ _).1 ((mayC_iff _).1 hm).2.2.2.1
  simp only at this
  omega
theorem no_13 : mayC { gC with zo := ⟨#[97, 46, 98, 46, 99, 46, 100, 46, 101]⟩ } = false := by decide +kernel
theorem no_14 : mayC { gC with st := [{ gR with n := ⟨#[108, 97, 110]⟩ }] } = false := by decide +kernel
theorem no_15 : mayC { gC with st := [{ gR with n := ⟨#[119, 119, 119, 46, 110, 101, 116]⟩ }] } = false := by decide +kernel
theorem no_16 : mayC { gC with st := [⟨⟨#[97, 46, 108, 97, 110]⟩, 2, 0, 0, ⟨#[98]⟩, ⟨#[]⟩, 0⟩] } = false := by decide +kernel
theorem no_17 (d : Int) (h : 0 ≤ d) : mayC { gC with st := [{ gR with ttl := -(1 + d) }] } = false := by
  have hm : mayR { gR with ttl := -(1 + d) } = false := by
    have : upB (-(1 + d)) 1048576 = false := by simp only [upB, Bool.and_eq_false_iff, decide_eq_false_iff_not]; omega
    simp [mayR, this]
  have hs : statB gC.zo { gR with ttl := -(1 + d) } = false := by simp only [statB, hm]; simp
  exact Bool.eq_false_iff.2 fun hh => by
    have h2 := ((mayC_iff _).1 hh).2.2.2.2.2
    simp only [stB, Bool.and_eq_true, List.all_cons] at h2
    rw [hs] at h2
    simp at h2
end confBad
end Go.Proofs.Ytedbihckdbpebaa
