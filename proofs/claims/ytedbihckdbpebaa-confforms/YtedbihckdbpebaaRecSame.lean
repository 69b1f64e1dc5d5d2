/-
  Contract of the laws' SameRRs, at lists that are alike.
-/
import Derived.Test.YtedbihckdbpebaaRecMem
import Derived.Test.YtedbihckdbpebaaRrMay
import Derived.Deep.QuietTactic
import Derived.BigQuiet
import Derived.WalkSmall
namespace Go.Proofs.Ytedbihckdbpebaa
open Go.ChangeShapes Go.WideShapes Go.ChangeAt Go.RowKit Go.Pin Go.PlainAid

theorem sameRs_none (a b : Option Addr) (c d : Nat) (w : World) :
    Calls Try.prog 42 #[.slice a 0 c, .slice b 0 d] w fun e w' => e = .returned (.bool true) ∧ w' = w := by
  go_enter Try.func42, Try.ntmps42
  go_wp2
  go_rounds 1
  go_ret
  exact ⟨rfl, rfl⟩
theorem sameRs_from (x y : Addr) (c d : Nat) (rs : List Rec) (w : World) (hl : rs.length ≤ 1000000000) (hx : ∀ j r, rs[j]? = some r → RecFrom w (x.add (j * 7)) r) (hy : ∀ j r, rs[j]? = some r → RecFrom w (y.add (j * 7)) r) :
    Calls Try.prog 42 #[.slice (some x) rs.length c, .slice (some y) rs.length d] w fun e w' => e = .returned (.bool true) ∧ Below w.heap.size w w' := by
  have HX : Hid (∀ j r, rs[j]? = some r → RecFrom w (x.add (j * 7)) r) := hx
  have HY : Hid (∀ j r, rs[j]? = some r → RecFrom w (y.add (j * 7)) r) := hy
  clear hx hy
  go_enter Try.func42, Try.ntmps42
  go_wp2
  go_loopw [5] (fun i wr => ∃ j : Nat, j ≤ rs.length ∧ i = .int .i64 j ∧ Below w.heap.size w wr) (fun i _ => rs.length - (intOf i).toNat)
  case atStart => exact ⟨0, Nat.zero_le _, rfl, Below.refl _ _⟩
  case round =>
    obtain ⟨j, hj, rfl, B⟩ := hrel
    by_cases hlt : j < rs.length
    · obtain ⟨r, hr⟩ : ∃ r, rs[j]? = some r := ⟨_, List.getElem?_eq_getElem hlt⟩
      have X := HX.out j r hr
      have Y := HY.out j r hr
      obtain ⟨h0, h1, h2, h3, h4, h5, h6⟩ := X.below B X.lt
      obtain ⟨g0, g1, g2, g3, g4, g5, g6⟩ := Y.below B Y.lt
      have hlt' : (j : Int) < (rs.length : Int) := by omega
      have hq := eql_rec r r
      rw [(sameR_iff r r).2 rfl] at hq
      clear X Y hr
      obtain ⟨n, ty, ttl, ad, tg, tx, se⟩ := r
      simp only [rv] at h0 h1 h2 h3 h4 h5 h6 g0 g1 g2 g3 g4 g5 g6 hq
      go_wp2
      go_quiet (fail)
      go_wp2
      exact ⟨⟨j + 1, by omega, by go_num, below_drewN B _⟩, by simp [intOf]; omega⟩
    · obtain rfl : j = rs.length := by omega
      go_wp2
      go_ret
      exact ⟨rfl, B⟩
theorem sameRs_c (a b : Option Addr) (n m c d : Nat) (ks : List Rec) (w : World) (hn : n = ks.length) (hm : m = ks.length) (hl : ks.length ≤ 1000000000) (ha : RecsLie w a ks) (hb : RecsLie w b ks) :
    Calls Try.prog 42 #[.slice a n c, .slice b m d] w fun e w' => e = .returned (.bool true) ∧ Below w.heap.size w w' := by
  subst hn hm
  rcases ha with rfl | ⟨x, rfl, ha⟩
  · exact (sameRs_none a b c d w).mono fun e w' ⟨h1, h2⟩ => ⟨h1, by rw [h2]; exact Below.refl _ _⟩
  · rcases hb with rfl | ⟨y, rfl, hb⟩
    · exact (sameRs_none _ b c d w).mono fun e w' ⟨h1, h2⟩ => ⟨h1, by rw [h2]; exact Below.refl _ _⟩
    · exact sameRs_from x y c d ks w hl ha hb

end Go.Proofs.Ytedbihckdbpebaa
