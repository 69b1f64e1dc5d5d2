/-
  The contract of the laws' own 'awake' of layer 9: it answers true. Client and Dhcid with their answers named.
-/
import Derived.Test.YtkohojifnmklmaaIdent
import Derived.Test.YtkohojifnmklmaaBName
namespace Go.Proofs.Ytkohojifnmklmaa
open Go.ChangeShapes Go.WideShapes Go.ChangeAt Go.RowKit Go.Pin Go.PlainAid

theorem client_is (p : Pk) (a : Option Addr) (c : Nat) (S : ByteArray) (E : Int) (w : World) (hL : OpLies w a p.os) (hch : p.ch.size ≤ maxLen) (h : clientA p = (S, E)) :
    Calls Try.prog 8 #[pv p a c] w fun e w' => e = .returned (.tuple #[.string S, .int .i64 E]) ∧ Below w.heap.size w w' := by
  have := client_c p a c w hL hch
  rw [h] at this
  exact this
theorem dhcid_is (s n S : ByteArray) (E : Int) (w : World) (hn : n.size ≤ maxLen) (h : dhcA (bs s) (bs n) = (S, E)) :
    Calls Try.prog 10 #[.string s, .string n] w fun e w' => e = .returned (.tuple #[.string S, .int .i64 E]) ∧ Below w.heap.size w w' := by
  have := dhcid_c s n w hn
  rw [h] at this
  exact this
/-- The packets that awake asks for. -/
def pk91 : Pk := ⟨0, 1, 0, 0, 0, 0, 0, 0, 0, 0, ⟨#[97, 98, 99]⟩, []⟩
def pk92 : Pk := ⟨0, 0, 0, 0, 0, 0, 0, 0, 0, 0, ⟨#[97, 98, 99]⟩, [(61, [109, 101])]⟩
def pk93 : Pk := ⟨0, 0, 0, 0, 0, 0, 0, 0, 0, 0, ⟨#[]⟩, []⟩
theorem pk91_is : clientA pk91 = (⟨#[1, 97, 98, 99]⟩, 0) := by decide +kernel
theorem pk92_is : clientA pk92 = (⟨#[109, 101]⟩, 0) := by decide +kernel
theorem pk93_is : clientA pk93 = (⟨#[]⟩, 900) := by decide +kernel
theorem dh91_is : dhcA (bs ⟨#[97]⟩) (bs ⟨#[]⟩) = (⟨#[0, 1, 1, 43, 36, 208, 68]⟩, 0) := by decide +kernel
theorem dh92_is : dhcA (bs ⟨#[]⟩) (bs ⟨#[97]⟩) = (⟨#[]⟩, 900) := by decide +kernel
/-- One option written out. -/
theorem op_one (w : World) (v : Int) (s : ByteArray) (t : TypeId) : OpLies (w.alloc (.cells #[.int .i64 v, .string s] t)) (some ⟨w.heap.size, 0, none⟩) [(v, bs s)] := by
  refine .inr ⟨_, rfl, fun j hj => ?_⟩
  have hj0 : j = 0 := by simp at hj; omega
  subst hj0
  have h1 : (w.alloc (.cells #[.int .i64 v, .string s] t)).cell? ⟨w.heap.size, 1, none⟩ = some (.string s) := new_cell _ _ _ _ _ rfl
  refine ⟨new_cell _ _ _ _ _ rfl, ?_⟩
  show _ = some (Value.string (mk (bs s)))
  rw [mk_bs]
  exact h1

set_option maxHeartbeats 1000000 in
theorem awake9_yes (w : World) : Calls Try.prog 14 #[] w fun e w' => e = .returned (.bool true) ∧ Below w.heap.size w w' := by
  have H1 : Hid (∀ w, _) := fun w => client_is pk91 none 0 _ _ w (.inl rfl) (by unfold maxLen; decide) pk91_is
  have H2 : Hid (∀ w : World, _) := fun w => client_is pk92 (some ⟨w.heap.size, 0, none⟩) 1 _ _ _ (op_one w 61 ⟨#[109, 101]⟩ 39) (by unfold maxLen; decide) pk92_is
  have H3 : Hid (∀ w, _) := fun w => client_is pk93 none 0 _ _ w (.inl rfl) (by unfold maxLen; decide) pk93_is
  have H4 : Hid (∀ w, _) := fun w => dhcid_is _ _ _ _ w (by unfold maxLen; decide) dh91_is
  have H5 : Hid (∀ w, _) := fun w => dhcid_is _ _ _ _ w (by unfold maxLen; decide) dh92_is
  simp only [pv, cellsP, pk91, pk92, pk93, List.length_cons, List.length_nil] at H1 H2 H3
  have hx : ((⟨#[0, 1, 1, 43, 36, 208, 68]⟩ : ByteArray).extract 0 3).toList = [0, 1, 1] := by rw [ByteArray.toList_eq]; decide +kernel
  have hx2 : (⟨#[0, 1, 1, 43, 36, 208, 68]⟩ : ByteArray).extract 0 3 = ⟨#[0, 1, 1]⟩ := by decide +kernel
  go_enter Try.func14, Try.ntmps14
  go_wp2_with fail
  refine (H1.out _).mono ?_; rintro e w1 ⟨rfl, B⟩
  go_wp2_with fail
  refine (H2.out _).mono ?_; rintro e w2 ⟨rfl, hb⟩
  replace B := bel_trans (B.alloc B.size _) hb
  clear hb
  go_wp2_with fail
  refine (H3.out _).mono ?_; rintro e w3 ⟨rfl, hb⟩
  replace B := bel_trans B hb
  clear hb
  go_wp2_with fail
  refine (H4.out _).mono ?_; rintro e w4 ⟨rfl, hb⟩
  replace B := bel_trans B hb
  clear hb
  go_wp2_with fail
  refine (H5.out _).mono ?_; rintro e w5 ⟨rfl, hb⟩
  replace B := bel_trans B hb
  clear hb
  go_wp2_with (go_at_call 12; refine (num_any _ _).mono ?_; rintro e w6 ⟨rfl, rfl⟩)
  go_ret
  exact ⟨rfl, B⟩

end Go.Proofs.Ytkohojifnmklmaa
