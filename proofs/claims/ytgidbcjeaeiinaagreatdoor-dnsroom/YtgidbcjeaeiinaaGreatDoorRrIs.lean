/-
  Put and Get of package rr, their answers named.
-/
import Derived.Test.YtgidbcjeaeiinaaGreatDoorRrBoth
import Derived.Test.YtgidbcjeaeiinaaGreatDoorNum
namespace Go.Proofs.YtgidbcjeaeiinaaGreatDoor
set_option maxRecDepth 100000
open Go.ChangeShapes Go.WideShapes Go.ChangeAt Go.RowKit Go.Pin Go.PlainAid

theorem mayR_is {r : Rec} (h1 : r = namedR r) (h2 : (typeB r.ty && mayL (bs r.n) && upB r.ttl 1048576 && upB r.ad 4294967295 && mayL (bs r.tg) && upB r.se 4294967295 && decide (r.tx.size ≤ 64)) = true) : mayR r = true := by
  have h3 := (sameR_iff r (namedR r)).2 h1
  simp only [mayR, Bool.and_eq_true] at h2 ⊢
  exact ⟨⟨⟨⟨⟨⟨⟨h2.1.1.1.1.1.1, h3⟩, h2.1.1.1.1.1.2⟩, h2.1.1.1.1.2⟩, h2.1.1.1.2⟩, h2.1.1.2⟩, h2.1.2⟩, h2.2⟩
theorem mayR_not {r : Rec} (h : r ≠ namedR r ∨ typeB r.ty = false ∨ mayL (bs r.n) = false ∨ upB r.ttl 1048576 = false ∨ upB r.ad 4294967295 = false ∨ mayL (bs r.tg) = false ∨ upB r.se 4294967295 = false ∨ 64 < r.tx.size) : mayR r = false := by
  cases hm : mayR r with
  | false => rfl
  | true =>
    exfalso
    have hz := may_zero hm
    simp only [mayR, Bool.and_eq_true, decide_eq_true_eq] at hm
    rcases h with h | h | h | h | h | h | h | h
    · exact h hz.1
    · rw [hz.2] at h; cases h
    · rw [hm.1.1.1.1.1.2] at h; cases h
    · rw [hm.1.1.1.1.2] at h; cases h
    · rw [hm.1.1.1.2] at h; cases h
    · rw [hm.1.1.2] at h; cases h
    · rw [hm.1.2] at h; cases h
    · omega
theorem putL_not {at_ : Int} {ks : List Kn} {r : Rec} (h : mayR r = false) : putL at_ ks r = none := by simp [putL, h]

theorem rrPut_yes (at_ : Int) (a : Option Addr) (n cap : Nat) (ks ks' : List Kn) (r : Rec) (s : ByteArray) (w : World) (hn : n = ks.length) (h1 : r.n.size ≤ maxLen) (h2 : r.tg.size ≤ maxLen) (hat : -9223372036854775808 ≤ at_ ∧ at_ ≤ 9223372036854775807) (hq : ks.length ≤ 1048500) (hl : ∀ k ∈ ks, k.1.length ≤ maxLen) (hk : KnLies w a ks) (hL : Laid w) (h : putL at_ ks r = some (bs s, ks')) :
    Calls Tryz.prog 47 #[.int .i64 at_, .slice a n cap, rv r] w fun e w' => (∃ v, e = .returned (.tuple #[.string s, v, .int .i64 0]) ∧ Knowns w' w.heap.size v ks') ∧ Below w.heap.size w w' := by
  have := rrPut_c at_ a n cap ks r w hn h1 h2 hat hq hl hk hL
  rw [putRec_is, h] at this
  simp only [mk_bs] at this
  exact this
theorem rrPut_no (at_ : Int) (a : Option Addr) (n cap : Nat) (ks : List Kn) (r : Rec) (w : World) (hn : n = ks.length) (h1 : r.n.size ≤ maxLen) (h2 : r.tg.size ≤ maxLen) (hat : -9223372036854775808 ≤ at_ ∧ at_ ≤ 9223372036854775807) (hq : ks.length ≤ 1048500) (hl : ∀ k ∈ ks, k.1.length ≤ maxLen) (hk : KnLies w a ks) (hL : Laid w) (h : putL at_ ks r = none) :
    Calls Tryz.prog 47 #[.int .i64 at_, .slice a n cap, rv r] w fun e w' => e = .returned (.tuple #[.string ⟨#[]⟩, .slice none 0 0, .int .i64 400]) ∧ Below w.heap.size w w' := by
  have := rrPut_c at_ a n cap ks r w hn h1 h2 hat hq hl hk hL
  rw [putRec_is, h] at this
  exact this
theorem rrPut_nil (at_ : Int) (cap : Nat) (ks' : List Kn) (r : Rec) (s : ByteArray) (w : World) (h1 : r.n.size ≤ maxLen) (h2 : r.tg.size ≤ maxLen) (hat : -9223372036854775808 ≤ at_ ∧ at_ ≤ 9223372036854775807) (hL : Laid w) (h : putL at_ [] r = some (bs s, ks')) :
    Calls Tryz.prog 47 #[.int .i64 at_, .slice none 0 cap, rv r] w fun e w' => (∃ v, e = .returned (.tuple #[.string s, v, .int .i64 0]) ∧ Knowns w' w.heap.size v ks') ∧ Below w.heap.size w w' :=
  rrPut_yes at_ none 0 cap [] ks' r s w rfl h1 h2 hat (by simp) (by simp) (.inl rfl) hL h
theorem rrPut_nilno (at_ : Int) (cap : Nat) (r : Rec) (w : World) (h1 : r.n.size ≤ maxLen) (h2 : r.tg.size ≤ maxLen) (hat : -9223372036854775808 ≤ at_ ∧ at_ ≤ 9223372036854775807) (hL : Laid w) (h : putL at_ [] r = none) :
    Calls Tryz.prog 47 #[.int .i64 at_, .slice none 0 cap, rv r] w fun e w' => e = .returned (.tuple #[.string ⟨#[]⟩, .slice none 0 0, .int .i64 400]) ∧ Below w.heap.size w w' :=
  rrPut_no at_ none 0 cap [] r w rfl h1 h2 hat (by simp) (by simp) (.inl rfl) hL h
theorem rrGet_yes (s : ByteArray) (a : Int) (r : Rec) (e0 : Int) (w : World) (hs : s.size ≤ 1125899906842624) (hL : Laid w) (ha : -9223372036854775808 ≤ a ∧ a ≤ 9223372036854775807) (h : getRec s a = some (r, e0)) :
    Calls Tryz.prog 92 #[.string s, .int .i64 a] w fun e w' => e = .returned (.tuple #[rv r, .int .i64 e0, .int .i64 0]) ∧ Below w.heap.size w w' := by
  have := rrGet_c s a w hs ha hL
  rw [h] at this
  exact this
theorem rrGet_no (s : ByteArray) (a : Int) (w : World) (hs : s.size ≤ 1125899906842624) (hL : Laid w) (ha : -9223372036854775808 ≤ a ∧ a ≤ 9223372036854775807) (h : getRec s a = none) :
    Calls Tryz.prog 92 #[.string s, .int .i64 a] w fun e w' => e = .returned (.tuple #[rv zeroR, .int .i64 0, .int .i64 400]) ∧ Below w.heap.size w w' := by
  have := rrGet_c s a w hs ha hL
  rw [h] at this
  exact this
theorem rrMay_is (r : Rec) (b : Bool) (w : World) (hn : r.n.size ≤ maxLen) (ht : r.tg.size ≤ maxLen) (h : mayR r = b) : Calls Tryz.prog 72 #[rv r] w fun e w' => e = .returned (.bool b) ∧ Below w.heap.size w w' := by
  subst h; exact rrMay_c r w hn ht
theorem get_empty : getRec ⟨#[]⟩ 0 = none := by
  cases h : getRec ⟨#[]⟩ 0 with
  | none => rfl
  | some q =>
    obtain ⟨_, _, m, k, g, _⟩ := get_inrec (r := q.1) (e := q.2) h
    have := get_ends g
    simp [bs] at this
    omega
theorem good_nil : Go.Pin.Good [] [] := fun k hk => by simp at hk
/-- What is put is got, wherever it stands. -/
theorem put_get {A : List UInt8} {ks : List Kn} {r : Rec} {P : List UInt8} {ks' : List Kn} (hg : Go.Pin.Good A ks) (h : putL (A.length : Nat) ks r = some (P, ks')) (B : List UInt8) : getRec (mk (A ++ P ++ B)) (A.length : Nat) = some (r, (((A ++ P).length : Nat) : Int)) ∧ Go.Pin.Good (A ++ P) ks' := by
  obtain ⟨h1, h2, h3⟩ := put_inrec hg h B
  exact ⟨inrec_get h1 h2, h3⟩
/-- A piece of its front is no record. -/
theorem put_cut {r : Rec} {P : List UInt8} {ks' : List Kn} (h : putL 0 [] r = some (P, ks')) (k : Nat) (hk : k < P.length) : getRec (mk (P.take k)) 0 = none := by
  cases hc : getRec (mk (P.take k)) 0 with
  | none => rfl
  | some q =>
    exfalso
    obtain ⟨hm, hi⟩ := get_inrec (r := q.1) (e := q.2) hc
    have he := inrec_end hi
    have h1 := inrec_get hm (inrec_more hi (P.drop k))
    rw [List.take_append_drop] at h1
    have h2 := (put_get (A := []) good_nil h []).1
    simp only [List.nil_append, List.append_nil, List.length_nil] at h2
    rw [show ((0 : Nat) : Int) = 0 from rfl, h1] at h2
    simp only [Option.some.injEq, Prod.mk.injEq] at h2
    rw [size_mk] at he
    simp at he
    omega
theorem putL_len {at_ : Int} {ks : List Kn} {r : Rec} {P : List UInt8} {ks' : List Kn} (h : putL at_ ks r = some (P, ks')) : 1 ≤ P.length ∧ P.length ≤ 500 ∧ ks'.length ≤ ks.length + 24 ∧ (∀ k ∈ ks', k.1.length ≤ 72 ∨ k ∈ ks) := by
  unfold putL at h
  split at h
  · rename_i hc
    simp only [Bool.and_eq_true] at hc
    have hm := hc.1
    have hz : r.tx.size ≤ 64 := by simp only [mayR, Bool.and_eq_true, decide_eq_true_eq] at hm; exact hm.2
    split at h
    · cases h
    · rename_i D k2 hd
      simp only [Option.some.injEq, Prod.mk.injEq] at h
      obtain ⟨rfl, rfl⟩ := h
      have h1 := putS_len ks (labsL (bs r.n)) (fun x hx => labsL_ok hx)
      have h2 := labsL_len (bs r.n)
      have hn1 := putN_len ks (labsL (bs r.n)) at_
      have hn2 := putN_mem ks (labsL (bs r.n)) at_ (fun x hx => labsL_ok hx) h2
      obtain ⟨D', e1, e2⟩ := dataW_len (at_ + (putS ks (labsL (bs r.n))).length + 10) r ⟨[], ks ++ putN ks at_ (labsL (bs r.n)), false⟩ hz
      rw [dataW_some (x := ⟨[], ks ++ putN ks at_ (labsL (bs r.n)), false⟩) (D := D) (ks' := k2) rfl (by simpa using hd)] at e1
      simp only [List.nil_append] at e1
      subst e1
      have hkk : k2.length ≤ ks.length + 24 ∧ ∀ k ∈ k2, k.1.length ≤ 72 ∨ k ∈ ks := by
        have hbase : (ks ++ putN ks at_ (labsL (bs r.n))).length ≤ ks.length + 8 ∧ ∀ k ∈ ks ++ putN ks at_ (labsL (bs r.n)), k.1.length ≤ 72 ∨ k ∈ ks := by
          refine ⟨by simp; omega, fun k hk => ?_⟩
          rcases List.mem_append.1 hk with hk | hk
          · exact .inr hk
          · exact .inl (hn2 k hk)
        generalize ks ++ putN ks at_ (labsL (bs r.n)) = k1 at *
        have step : ∀ (k1 : List Kn) (m : Nat) (fr : Int), (k1.length ≤ ks.length + m ∧ ∀ k ∈ k1, k.1.length ≤ 72 ∨ k ∈ ks) → (k1 ++ putN k1 fr (labsL (bs r.tg))).length ≤ ks.length + (m + 8) ∧ ∀ k ∈ k1 ++ putN k1 fr (labsL (bs r.tg)), k.1.length ≤ 72 ∨ k ∈ ks := by
          intro k1 m fr ⟨q1, q2⟩
          have a1 := putN_len k1 (labsL (bs r.tg)) fr
          have a2 := labsL_len (bs r.tg)
          have a3 := putN_mem k1 (labsL (bs r.tg)) fr (fun x hx => labsL_ok hx) a2
          refine ⟨by simp; omega, fun k hk => ?_⟩
          rcases List.mem_append.1 hk with hk | hk
          · exact q2 k hk
          · exact .inl (a3 k hk)
        unfold dataL at hd
        split at hd
        · simp only [Option.some.injEq, Prod.mk.injEq] at hd; obtain ⟨_, rfl⟩ := hd; exact ⟨by omega, hbase.2⟩
        · split at hd
          · split at hd
            · simp only [Option.some.injEq, Prod.mk.injEq] at hd; obtain ⟨_, rfl⟩ := hd
              exact ⟨Nat.le_trans (step k1 8 _ hbase).1 (by omega), (step k1 8 _ hbase).2⟩
            · cases hd
          · split at hd
            · split at hd
              · split at hd
                · simp only [Option.some.injEq, Prod.mk.injEq] at hd; obtain ⟨_, rfl⟩ := hd
                  exact step _ 16 _ (step k1 8 _ hbase)
                · cases hd
              · cases hd
            · split at hd
              · simp only [Option.some.injEq, Prod.mk.injEq] at hd; obtain ⟨_, rfl⟩ := hd; exact ⟨by omega, hbase.2⟩
              · simp only [Option.some.injEq, Prod.mk.injEq] at hd; obtain ⟨_, rfl⟩ := hd; exact ⟨by omega, hbase.2⟩
      refine ⟨?_, ?_, hkk.1, hkk.2⟩
      · simp [length_bs, size_be]; omega
      · simp [length_bs, size_be]; omega
  · cases h

end Go.Proofs.YtgidbcjeaeiinaaGreatDoor
