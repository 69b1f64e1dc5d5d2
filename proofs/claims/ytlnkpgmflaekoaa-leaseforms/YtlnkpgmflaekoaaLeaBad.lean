/-
  Leases that may not be, one thing at a time, and how they lie in memory once the given one was written into.
-/
import Derived.Test.YtlnkpgmflaekoaaAwake12
import Derived.Test.YtlnkpgmflaekoaaMadeText
import Derived.ChangeOld
import Derived.SizedLaws
import Derived.Carry
namespace Go.Proofs.Ytlnkpgmflaekoaa
namespace leaBad
open Go.ChangeShapes Go.WideShapes Go.ChangeAt Go.RowKit Go.Pin Go.PlainAid

/-- The given lease. -/
def gL : Lea := ⟨10, 2, ⟨#[109, 101]⟩, 5, ⟨#[97]⟩, true⟩
theorem gL_may : mayLea gL = true := by decide +kernel
theorem gL_4 : liveLea gL 4 = true := by decide +kernel
theorem no_live {l : Lea} (h : mayLea l = false) (t : Int) : liveLea l t = false := by rw [liveLea_is, h]; rfl
/-- The given lease boxed at g, the lease l at d. -/
structure St (w : World) (g d : Nat) (wx : World) (l : Lea) : Prop where
  y : BoxL wx g gL
  x : BoxL wx d l
  n : g ≠ d
  wb : w.heap.size ≤ d
  b : Below w.heap.size w wx
  nm : l.n.size ≤ 100
/-- A field written. -/
theorem St.field {w : World} {g d : Nat} {wx : World} {l l' : Lea} (h : St w g d wx l) (k : Nat) (v : Value) (hv : (cellsL l).setIfInBounds k v = cellsL l') (hn : l'.n.size ≤ 100) : St w g d (wx.setCell ⟨d, k, none⟩ v) l' :=
  ⟨h.y.far h.n, h.x.set k v hv, h.n, h.wb, h.b.setCell h.wb _, hn⟩
theorem St.below {w : World} {g d : Nat} {wx w' : World} {l : Lea} (h : St w g d wx l) (hb : Below wx.heap.size wx w') : St w g d w' l :=
  ⟨h.y.below hb, h.x.below hb, h.n, h.wb, bel_trans h.b hb, h.nm⟩

theorem no_host {x : Int} (h : x < 2 ∨ 254 < x) : mayLea { gL with h := x } = false := by
  refine Bool.eq_false_iff.2 fun hm => ?_
  have := ((mayLea_iff _).1 hm).1
  have h1 : 2 ≤ x := this.1
  have h2 : x ≤ 254 := this.2.1
  omega
theorem no_state {x : Int} (h : x < 0 ∨ 3 < x) : mayLea { gL with st := x } = false := by
  refine Bool.eq_false_iff.2 fun hm => ?_
  have := ((mayLea_iff _).1 hm).1
  have h1 : 0 ≤ x := this.2.2.1
  have h2 : x ≤ 3 := this.2.2.2.1
  omega
theorem no_until {x : Int} (h : x < 0 ∨ 1099511627776 < x) : mayLea { gL with u := x } = false := by
  refine Bool.eq_false_iff.2 fun hm => ?_
  have := ((mayLea_iff _).1 hm).1
  have h1 : 0 ≤ x := this.2.2.2.2.2.1
  have h2 : x ≤ 1099511627776 := this.2.2.2.2.2.2
  omega
theorem no_client {c : ByteArray} (h : 16 < c.size) : mayLea { gL with c := c } = false := by
  refine Bool.eq_false_iff.2 fun hm => ?_
  have := ((mayLea_iff _).1 hm).1
  have h1 : c.size ≤ 16 := this.2.2.2.2.1
  omega
theorem no_none : mayLea { gL with c := ⟨#[]⟩ } = false := by decide +kernel
theorem no_great : mayLea { gL with n := ⟨#[65]⟩ } = false := by decide +kernel
theorem no_name : mayLea { gL with n := ⟨#[]⟩ } = false := by decide +kernel
theorem no_free : mayLea { gL with st := 0 } = false := by decide +kernel
theorem no_declined : mayLea { gL with st := 3 } = false := by decide +kernel
theorem no_offered : mayLea ⟨10, 1, ⟨#[]⟩, 0, ⟨#[]⟩, false⟩ = false := by decide +kernel

end leaBad
end Go.Proofs.Ytlnkpgmflaekoaa
