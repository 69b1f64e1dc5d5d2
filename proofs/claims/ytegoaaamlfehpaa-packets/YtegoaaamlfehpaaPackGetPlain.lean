/-
  Plain: the cookie, compared as a text and as a number.
-/
import Derived.Test.YtegoaaamlfehpaaPackPure
import Derived.Test.YtegoaaamlfehpaaOBase
namespace Go.Proofs.Ytegoaaamlfehpaa
open Go.RowKit Go.Pin Go.PlainAid

theorem be_back4 (M : ByteArray) (h : M.size = 4) : be (num M 0 4) 4 = M := by
  obtain ⟨⟨l⟩⟩ := M
  match l, h with
  | [a, b, c, d], _ =>
    have e0 : bt ⟨⟨[a, b, c, d]⟩⟩ 0 = a.toNat := by rw [bt_list]; rfl
    have e1 : bt ⟨⟨[a, b, c, d]⟩⟩ 1 = b.toNat := by rw [bt_list]; rfl
    have e2 : bt ⟨⟨[a, b, c, d]⟩⟩ 2 = c.toNat := by rw [bt_list]; rfl
    have e3 : bt ⟨⟨[a, b, c, d]⟩⟩ 3 = d.toNat := by rw [bt_list]; rfl
    have ha := a.toNat_lt
    have hb := b.toNat_lt
    have hc := c.toNat_lt
    have hd := d.toNat_lt
    have hn : num ⟨⟨[a, b, c, d]⟩⟩ 0 4 = ((((a.toNat : Int) * 256 + b.toNat) * 256 + c.toNat) * 256 + d.toNat) := by
      simp only [num, Nat.zero_add, e0, e1, e2, e3]
      omega
    rw [hn, be_4 _ (by omega) (by omega)]
    have g0 : ((((a.toNat : Int) * 256 + b.toNat) * 256 + c.toNat) * 256 + d.toNat) / 16777216 = a.toNat := by omega
    have g1 : ((((a.toNat : Int) * 256 + b.toNat) * 256 + c.toNat) * 256 + d.toNat) / 65536 % 256 = b.toNat := by omega
    have g2 : ((((a.toNat : Int) * 256 + b.toNat) * 256 + c.toNat) * 256 + d.toNat) / 256 % 256 = c.toNat := by omega
    have g3 : ((((a.toNat : Int) * 256 + b.toNat) * 256 + c.toNat) * 256 + d.toNat) % 256 = d.toNat := by omega
    rw [g0, g1, g2, g3]
    simp [str]
theorem num_cut (s : ByteArray) (a : Nat) (h : a + 4 ≤ s.size) : num (s.extract a (a + 4)) 0 4 = num s a 4 := by
  have e : s = s.extract 0 a ++ s.extract a (a + 4) ++ s.extract (a + 4) s.size := by
    apply bs_inj
    simp [bs]
  have hs : (s.extract 0 a).size = a := by rw [ByteArray.size_extract]; omega
  conv => rhs; rw [e]
  have := num_mid (s.extract 0 a) (s.extract a (a + 4)) (s.extract (a + 4) s.size) 4 (by rw [ByteArray.size_extract]; omega)
  rw [hs] at this
  exact this.symm
theorem cookie_is (s : ByteArray) (h : 240 ≤ s.size) : s.extract 236 240 = be 1669485411 4 ↔ num s 236 4 = 1669485411 := by
  rw [← num_cut s 236 (by omega)]
  constructor
  · intro e
    rw [show (236 + 4) = 240 from rfl, e]
    exact num_be 1669485411 4 (.inr (.inr ⟨rfl, by omega, by omega⟩))
  · intro e
    have := be_back4 (s.extract 236 (236 + 4)) (by rw [ByteArray.size_extract]; omega)
    rw [e] at this
    exact this.symm
theorem num_1bt (s : ByteArray) (a : Nat) : num s a 1 = bt s a := by simp [num]
end Go.Proofs.Ytegoaaamlfehpaa
