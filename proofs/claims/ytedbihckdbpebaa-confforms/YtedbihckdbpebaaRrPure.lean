/-
  Plain lemmas that speak of no program: records, which may be, how they are put into a message.
-/
import Derived.Test.YtedbihckdbpebaaBPut
import Derived.Test.YtedbihckdbpebaaBName
namespace Go.Pin

/-- A record: its name, type, time, address, target, text, serial. -/
structure Rec where
  n : ByteArray
  ty : Int
  ttl : Int
  ad : Int
  tg : ByteArray
  tx : ByteArray
  se : Int
def zeroR : Rec := ⟨⟨#[]⟩, 0, 0, 0, ⟨#[]⟩, ⟨#[]⟩, 0⟩
/-- As a value of Go's. -/
def rv (r : Rec) : Value := .agg #[.string r.n, .int .i64 r.ty, .int .i64 r.ttl, .int .i64 r.ad, .string r.tg, .string r.tx, .int .i64 r.se]
def isN (t : Int) : Bool := decide (t = 2 ∨ t = 5 ∨ t = 12)
def isT (t : Int) : Bool := decide (t = 16 ∨ t = 49)
/-- Is there such a type? -/
def typeB (t : Int) : Bool := decide (t = 1) || isN t || decide (t = 6) || isT t
/-- The record without the fields that its type does not name. -/
def namedR (r : Rec) : Rec :=
  if r.ty = 1 then { r with tg := ⟨#[]⟩, tx := ⟨#[]⟩, se := 0 }
  else if isN r.ty then { r with ad := 0, tx := ⟨#[]⟩, se := 0 }
  else if r.ty = 6 then { r with ad := 0, tx := ⟨#[]⟩ }
  else if isT r.ty then { r with ad := 0, tg := ⟨#[]⟩, se := 0 }
  else zeroR
/-- Two records alike. -/
def sameR (a b : Rec) : Bool := (a.n.toList == b.n.toList) && decide (a.ty = b.ty) && decide (a.ttl = b.ttl) && decide (a.ad = b.ad) && (a.tg.toList == b.tg.toList) && (a.tx.toList == b.tx.toList) && decide (a.se = b.se)
theorem text_inj {a b : ByteArray} : a.toList = b.toList ↔ a = b := ⟨fun e => by rw [ByteArray.toList_eq, ByteArray.toList_eq] at e; exact bs_inj e, fun e => by rw [e]⟩
theorem sameR_iff (a b : Rec) : sameR a b = true ↔ a = b := by
  obtain ⟨a1, a2, a3, a4, a5, a6, a7⟩ := a
  obtain ⟨b1, b2, b3, b4, b5, b6, b7⟩ := b
  simp only [sameR, Bool.and_eq_true, beq_iff_eq, decide_eq_true_eq, Rec.mk.injEq, text_inj]
  constructor
  · rintro ⟨⟨⟨⟨⟨⟨h1, h2⟩, h3⟩, h4⟩, h5⟩, h6⟩, h7⟩; exact ⟨h1, h2, h3, h4, h5, h6, h7⟩
  · rintro ⟨h1, h2, h3, h4, h5, h6, h7⟩; exact ⟨⟨⟨⟨⟨⟨h1, h2⟩, h3⟩, h4⟩, h5⟩, h6⟩, h7⟩
def upB (x m : Int) : Bool := decide (0 ≤ x) && decide (x ≤ m)
/-- May a record be? -/
def mayR (r : Rec) : Bool := typeB r.ty && sameR r (namedR r) && mayL (bs r.n) && upB r.ttl 1048576 && upB r.ad 4294967295 && mayL (bs r.tg) && upB r.se 4294967295 && decide (r.tx.size ≤ 64)

end Go.Pin
