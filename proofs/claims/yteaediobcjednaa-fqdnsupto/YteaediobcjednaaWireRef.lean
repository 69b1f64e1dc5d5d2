/-
  Contracts of the references GetName and PutName: at every text, place, list of known names and name (of the sizes that each theorem names).
-/
import Derived.Test.YteaediobcjednaaWireGet
import Derived.Test.YteaediobcjednaaWirePut
import Derived.Test.YteaediobcjednaaNameRef
namespace Go.Proofs.Yteaediobcjednaa
open Go.ChangeShapes Go.WideShapes Go.ChangeAt Go.RowKit Go.Pin Go.PlainAid


theorem rput_no1 (at_ : Int) (v : Value) (name : ByteArray) (w : World) (h : at_ < 0) :
    Calls Try.prog 20 #[.int .i64 at_, v, .string name] w fun e w' => e = .returned (.tuple #[.string ⟨#[]⟩, .slice none 0 0, .int .i64 300]) ∧ Below w.heap.size w w' := by
  go_enter Try.func20, Try.ntmps20
  go_wp2
  go_ret3
  exact ⟨rfl, Below.refl _ _⟩
theorem rput_no2 (at_ : Int) (v : Value) (name : ByteArray) (w : World) (h : 65535 < at_) :
    Calls Try.prog 20 #[.int .i64 at_, v, .string name] w fun e w' => e = .returned (.tuple #[.string ⟨#[]⟩, .slice none 0 0, .int .i64 300]) ∧ Below w.heap.size w w' := by
  have h0 : decide (at_ < 0) = false := by simp; omega
  go_enter Try.func20, Try.ntmps20
  go_wp2
  go_ret3
  exact ⟨rfl, Below.refl _ _⟩
theorem rput_no3 (at_ : Int) (v : Value) (name : ByteArray) (w : World) (h0 : 0 ≤ at_) (h : at_ ≤ 65535) (hs : name.size ≤ 1048576) (hm : mayL (bs name) = false) :
    Calls Try.prog 20 #[.int .i64 at_, v, .string name] w fun e w' => e = .returned (.tuple #[.string ⟨#[]⟩, .slice none 0 0, .int .i64 300]) ∧ Below w.heap.size w w' := by
  have h0 : decide (at_ < 0) = false := by simp; omega
  have h1 : decide (65535 < at_) = false := by simp; omega
  have HC : Hid (∀ w, _) := fun w => nameMay_c name w hs
  rw [hm] at HC
  clear hm
  go_enter Try.func20, Try.ntmps20
  go_wp2_with fail
  refine (HC.out _).mono ?_; rintro e w1 ⟨rfl, hb1⟩
  go_wp2
  go_ret3
  exact ⟨rfl, hb1⟩
theorem rput_no4 (at_ : Int) (a : Option Addr) (cap : Nat) (ks : List Kn) (name : ByteArray) (w : World) (h0 : 0 ≤ at_) (h : at_ ≤ 65535) (hs : name.size ≤ 1048576) (hm : mayL (bs name) = true) (hl : ks.length ≤ 1000000000) (hks : ∀ k ∈ ks, k.1.length ≤ 1048576) (hk : KnLies w a ks) (hall : ks.all knownL = false) :
    Calls Try.prog 20 #[.int .i64 at_, .slice a ks.length cap, .string name] w fun e w' => e = .returned (.tuple #[.string ⟨#[]⟩, .slice none 0 0, .int .i64 300]) ∧ Below w.heap.size w w' := by
  have h0 : decide (at_ < 0) = false := by simp; omega
  have h1 : decide (65535 < at_) = false := by simp; omega
  have HC : Hid (∀ w, _) := fun w => nameMay_c name w hs
  rw [hm] at HC
  have HD : Hid (∀ w', Below w.heap.size w w' → _) := fun w' hb => knownMay_c a cap ks w' hl hks (hk.below hb)
  rw [hall] at HD
  clear hm hall hk hks
  go_enter Try.func20, Try.ntmps20
  go_wp2_with fail
  refine (HC.out _).mono ?_; rintro e w1 ⟨rfl, hb1⟩
  go_wp2_with fail
  refine (HD.out _ hb1).mono ?_; rintro e w2 ⟨rfl, hb2⟩
  go_wp2
  go_ret3
  exact ⟨rfl, bel_trans hb1 hb2⟩

end Go.Proofs.Yteaediobcjednaa
