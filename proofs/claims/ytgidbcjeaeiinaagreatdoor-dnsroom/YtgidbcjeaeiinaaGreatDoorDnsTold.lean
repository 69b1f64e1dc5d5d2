/-
  Messages, plainly: what is put is told again; what is cut, or goes on, is none.
-/
import Derived.Test.YtgidbcjeaeiinaaGreatDoorDnsPure
namespace Go.Proofs.YtgidbcjeaeiinaaGreatDoor
set_option maxRecDepth 100000
open Go.ChangeShapes Go.WideShapes Go.ChangeAt Go.RowKit Go.Pin Go.PlainAid

structure MayM (m : Msg) : Prop where
  qs : ∀ q ∈ m.qs, mayQ q = true
  id : 0 ≤ m.id ∧ m.id ≤ 65535
  op : 0 ≤ m.op ∧ m.op ≤ 15
  co : 0 ≤ m.co ∧ m.co ≤ 15
  ql : m.qs.length ≤ 4
  an : ∀ r ∈ m.an, mayR r = true
  anl : m.an.length ≤ 32
  sv : ∀ r ∈ m.sv, mayR r = true
  svl : m.sv.length ≤ 32
  ad : ∀ r ∈ m.ad, mayR r = true
  adl : m.ad.length ≤ 32
  sz : m.sz = 0 ∨ (512 ≤ m.sz ∧ m.sz ≤ 65535)
theorem mayM_iff (m : Msg) : mayM m = true ↔ MayM m := by
  simp only [mayM, mayRs, maySz, upB, Bool.and_eq_true, Bool.or_eq_true, decide_eq_true_eq, List.all_eq_true]
  constructor
  · rintro ⟨⟨⟨⟨⟨⟨⟨⟨h1, h2⟩, h3⟩, h4⟩, h5⟩, h6⟩, h7⟩, h8⟩, h9⟩
    exact ⟨h1, h2, h3, h4, h5, h6.1, h6.2, h7.1, h7.2, h8.1, h8.2, h9⟩
  · intro h
    exact ⟨⟨⟨⟨⟨⟨⟨⟨h.qs, h.id⟩, h.op⟩, h.co⟩, h.ql⟩, h.an, h.anl⟩, h.sv, h.svl⟩, h.ad, h.adl⟩, h.sz⟩
theorem mayM_cut {m : Msg} (h : MayM m) : MayM (cutM m) := ⟨h.qs, h.id, h.op, h.co, h.ql, by simp [cutM], by simp [cutM], by simp [cutM], by simp [cutM], by simp [cutM], by simp [cutM], h.sz⟩

theorem bits_told {m : Msg} (h1 : 0 ≤ m.op ∧ m.op ≤ 15) (h2 : 0 ≤ m.co ∧ m.co ≤ 15) : (0 ≤ bitsM m ∧ bitsM m < 65536) ∧ bitsM m / 16 % 16 = 0 ∧ bit (bitsM m) 32768 = m.rsp ∧ bitsM m / 2048 % 16 = m.op ∧ bit (bitsM m) 1024 = m.au ∧ bit (bitsM m) 512 = m.tr ∧ bit (bitsM m) 256 = m.re ∧ bitsM m % 16 = m.co := by
  obtain ⟨id, rsp, op, au, tr, re, co, qs, an, sv, ad, sz⟩ := m
  simp only at h1 h2
  simp only [bitsM, bit]
  cases rsp <;> cases au <;> cases tr <;> cases re <;> simp <;> omega

theorem len_be (v : Int) (k : Nat) : (bs (be v k)).length = k := by rw [length_bs, size_be]
/-- The head's six numbers, whatever is behind. -/
theorem head_told {m : Msg} (h : MayM m) (B : List UInt8) : num (mk (headM m ++ B)) 0 2 = m.id ∧ num (mk (headM m ++ B)) 2 2 = bitsM m ∧ num (mk (headM m ++ B)) 4 2 = m.qs.length ∧ num (mk (headM m ++ B)) 6 2 = m.an.length ∧ num (mk (headM m ++ B)) 8 2 = m.sv.length ∧ num (mk (headM m ++ B)) 10 2 = (m.ad.length + optN m.sz : Nat) := by
  have hb := (bits_told h.op h.co).1
  have hid := h.id
  have hql := h.ql
  have ha := h.anl
  have hs := h.svl
  have hd := h.adl
  have ho : optN m.sz ≤ 1 := by unfold optN; split <;> omega
  unfold headM
  refine ⟨num_at _ [] (bs (be (bitsM m) 2) ++ bs (be m.qs.length 2) ++ bs (be m.an.length 2) ++ bs (be m.sv.length 2) ++ bs (be ((m.ad.length + optN m.sz : Nat) : Int) 2) ++ B) _ _ _ (by simp only [List.append_assoc, List.nil_append]) rfl (by unfold inB; omega),
    num_at _ (bs (be m.id 2)) (bs (be m.qs.length 2) ++ bs (be m.an.length 2) ++ bs (be m.sv.length 2) ++ bs (be ((m.ad.length + optN m.sz : Nat) : Int) 2) ++ B) _ _ _ (by simp only [List.append_assoc]) (by simp only [len_be]) (by unfold inB; omega),
    num_at _ (bs (be m.id 2) ++ bs (be (bitsM m) 2)) (bs (be m.an.length 2) ++ bs (be m.sv.length 2) ++ bs (be ((m.ad.length + optN m.sz : Nat) : Int) 2) ++ B) _ _ _ (by simp only [List.append_assoc]) (by simp only [List.length_append, len_be]) (by unfold inB; omega),
    num_at _ (bs (be m.id 2) ++ bs (be (bitsM m) 2) ++ bs (be m.qs.length 2)) (bs (be m.sv.length 2) ++ bs (be ((m.ad.length + optN m.sz : Nat) : Int) 2) ++ B) _ _ _ (by simp only [List.append_assoc]) (by simp only [List.length_append, len_be]) (by unfold inB; omega),
    num_at _ (bs (be m.id 2) ++ bs (be (bitsM m) 2) ++ bs (be m.qs.length 2) ++ bs (be m.an.length 2)) (bs (be ((m.ad.length + optN m.sz : Nat) : Int) 2) ++ B) _ _ _ (by simp only [List.append_assoc]) (by simp only [List.length_append, len_be]) (by unfold inB; omega),
    num_at _ (bs (be m.id 2) ++ bs (be (bitsM m) 2) ++ bs (be m.qs.length 2) ++ bs (be m.an.length 2) ++ bs (be m.sv.length 2)) B _ _ _ (by simp only [List.append_assoc]) (by simp only [List.length_append, len_be]) (by unfold inB; omega)⟩

/-- How a message that may be is put: its parts, and where they end. -/
theorem parts_told {m : Msg} (h : MayM m) : ∃ Q X Y Z : List UInt8, writtenM m = headM m ++ Q ++ X ++ Y ++ Z ++ optL m.sz ∧ (headM m ++ Q ++ X ++ Y ++ Z).length ≤ 59000 ∧
    (∀ B, takeQs (mk (headM m ++ Q ++ B)) m.qs.length 12 = some (m.qs, (headM m ++ Q).length)) ∧
    (∀ B, takeRs (mk (headM m ++ Q ++ X ++ B)) m.an.length (headM m ++ Q).length = some (m.an, (headM m ++ Q ++ X).length)) ∧
    (∀ B, takeRs (mk (headM m ++ Q ++ X ++ Y ++ B)) m.sv.length (headM m ++ Q ++ X).length = some (m.sv, (headM m ++ Q ++ X ++ Y).length)) ∧
    (∀ B j z, takeAd (mk (headM m ++ Q ++ X ++ Y ++ Z ++ B)) (m.ad.length + j) (headM m ++ Q ++ X ++ Y).length z = (takeAd (mk (headM m ++ Q ++ X ++ Y ++ Z ++ B)) j (headM m ++ Q ++ X ++ Y ++ Z).length z).map fun x => (m.ad ++ x.1, x.2)) := by
  have hql := h.ql
  have ha := h.anl
  have hs := h.svl
  have hd := h.adl
  have hl := headM_len m
  obtain ⟨Q, K, q1, q2, _⟩ := ques_told m.qs (headM m) [] [] h.qs (fun k hk => by cases hk)
  have q3 : ∀ B, takeQs (mk (headM m ++ Q ++ B)) m.qs.length 12 = some (m.qs, (headM m ++ Q).length) := fun B => by
    obtain ⟨Q', K', e1, _, e3⟩ := ques_told m.qs (headM m) [] B h.qs (fun k hk => by cases hk)
    rw [q1] at e1
    simp only [Prod.mk.injEq, List.append_cancel_left_eq] at e1
    rw [← e1.1, hl] at e3
    exact e3
  have q4 : (headM m ++ Q).length ≤ 12 + 100 * m.qs.length := by
    have := ques_len m.qs (headM m, [])
    rw [q1] at this
    simp only [hl] at this
    exact this
  obtain ⟨X, K1, x1, x2, x3, x4⟩ := recs_told m.an (headM m ++ Q) K h.an q2 (by omega)
  have l1 : (headM m ++ Q ++ X).length = (headM m ++ Q).length + X.length := List.length_append
  obtain ⟨Y, K2, y1, y2, y3, y4⟩ := recs_told m.sv (headM m ++ Q ++ X) K1 h.sv x2 (by omega)
  have l2 : (headM m ++ Q ++ X ++ Y).length = (headM m ++ Q ++ X).length + Y.length := List.length_append
  obtain ⟨Z, K3, z1, z2, z3, z4⟩ := recs_told m.ad (headM m ++ Q ++ X ++ Y) K2 h.ad y2 (by omega)
  have l3 : (headM m ++ Q ++ X ++ Y ++ Z).length = (headM m ++ Q ++ X ++ Y).length + Z.length := List.length_append
  refine ⟨Q, X, Y, Z, ?_, by omega, q3, fun B => (x4 B).1, fun B => (y4 B).1, fun B => (z4 B).2⟩
  unfold writtenM bodyM quesM
  rw [q1, List.foldl_append, List.foldl_append, x1, y1, z1]

theorem optN_cases (z : Int) (h : z = 0 ∨ (512 ≤ z ∧ z ≤ 65535)) : (z = 0 ∧ optN z = 0 ∧ optL z = []) ∨ (512 ≤ z ∧ z ≤ 65535 ∧ optN z = 1) := by
  rcases h with h | h
  · left; subst h; exact ⟨rfl, rfl, rfl⟩
  · right; exact ⟨h.1, h.2, by unfold optN; rw [if_pos (by omega)]⟩
theorem optL_len (z : Int) : (optL z).length ≤ 11 := by
  unfold optL; split
  · simp [len_be]
  · simp
/-- What is put is told. -/
theorem getM_written {m : Msg} (h : MayM m) : getM (mk (writtenM m)) = some m ∧ 12 ≤ (writtenM m).length ∧ (writtenM m).length ≤ 60000 := by
  obtain ⟨Q, X, Y, Z, hw, hlen, hq, ha, hs, hd⟩ := parts_told h
  have hl := headM_len m
  have ho := optL_len m.sz
  have hql := h.ql
  have hal := h.anl
  have hsl := h.svl
  have hdl := h.adl
  have hsize : (writtenM m).length = (headM m ++ Q ++ X ++ Y ++ Z).length + (optL m.sz).length := by rw [hw, List.length_append]
  have h12 : 12 ≤ (headM m ++ Q ++ X ++ Y ++ Z).length := by simp only [List.length_append, hl]; omega
  refine ⟨?_, by omega, by omega⟩
  obtain ⟨n0, n2, n4, n6, n8, n10⟩ := head_told h (Q ++ X ++ Y ++ Z ++ optL m.sz)
  have ew : headM m ++ (Q ++ X ++ Y ++ Z ++ optL m.sz) = writtenM m := by rw [hw]; simp only [List.append_assoc]
  rw [ew] at n0 n2 n4 n6 n8 n10
  have hb := bits_told h.op h.co
  have oc := optN_cases m.sz h.sz
  have hq' := hq (X ++ Y ++ Z ++ optL m.sz)
  have ha' := ha (Y ++ Z ++ optL m.sz)
  have hs' := hs (Z ++ optL m.sz)
  have hd' := hd (optL m.sz) (optN m.sz) 0
  have e1 : headM m ++ Q ++ (X ++ Y ++ Z ++ optL m.sz) = writtenM m := by rw [hw]; simp only [List.append_assoc]
  have e2 : headM m ++ Q ++ X ++ (Y ++ Z ++ optL m.sz) = writtenM m := by rw [hw]; simp only [List.append_assoc]
  have e3 : headM m ++ Q ++ X ++ Y ++ (Z ++ optL m.sz) = writtenM m := by rw [hw]; simp only [List.append_assoc]
  rw [e1] at hq'
  rw [e2] at ha'
  rw [e3] at hs'
  rw [← hw] at hd'
  have hend : takeAd (mk (writtenM m)) (optN m.sz) (headM m ++ Q ++ X ++ Y ++ Z).length 0 = some ([], m.sz, (writtenM m).length) := by
    rcases oc with ⟨z0, z1, z2⟩ | ⟨z0, z1, z2⟩
    · rw [z1, hsize, z2, z0]; simp [takeAd]
    · rw [z2]
      have := opt_told (headM m ++ Q ++ X ++ Y ++ Z) [] m.sz z0 z1
      rw [List.append_nil, ← hw] at this
      exact takeAd_opt this (by simp [takeAd])
  rw [hend] at hd'
  have on : optN m.sz ≤ 1 := by unfold optN; split <;> omega
  unfold getM
  rw [size_mk, n0, n2, n4, n6, n8, n10]
  simp only [Int.toNat_natCast]
  rw [if_neg (by omega), if_neg (by omega), hq']
  simp only
  rw [ha']
  simp only
  rw [hs']
  simp only
  rw [hd']
  simp only [Option.map_some, List.append_nil]
  rw [if_pos ⟨trivial, hdl⟩]
  obtain ⟨_, _, b1, b2, b3, b4, b5, b6⟩ := hb
  rw [b1, b2, b3, b4, b5, b6]

/-! ### what goes on -/
theorem rec_more {s : List UInt8} {a r e} (h : getRec (mk s) a = some (r, e)) (t : List UInt8) : getRec (mk (s ++ t)) a = some (r, e) ∧ 0 ≤ e ∧ e ≤ s.length := by
  obtain ⟨h1, h2⟩ := get_inrec h
  have := inrec_end h2
  rw [size_mk] at this
  exact ⟨inrec_get h1 (inrec_more h2 t), this⟩
theorem takeQs_more {s : List UInt8} (t : List UInt8) : ∀ (k a : Nat) (x : List Qn × Nat), takeQs (mk s) k a = some x → a ≤ s.length → takeQs (mk (s ++ t)) k a = some x ∧ x.2 ≤ s.length
  | 0, a, x, h, ha => by simp only [takeQs, Option.some.injEq] at h ⊢; subst h; exact ⟨rfl, ha⟩
  | k + 1, a, x, h, _ => by
    rw [takeQs] at h
    split at h
    · rename_i hc
      obtain ⟨h1, h2, h3⟩ := hc
      rw [bs_mk] at h1 h2 h3 h
      rw [size_mk] at h2
      rcases hg : getL s a with ⟨n, q, e⟩
      rw [hg] at h1 h2 h3 h
      simp only at h1 h2 h3 h
      subst h1
      have hb := get_ends hg
      obtain ⟨q, rfl⟩ : ∃ q' : Nat, q = q' := ⟨q.toNat, by omega⟩
      simp only [Int.toNat_natCast] at h3 h
      simp only [Option.map_eq_some_iff] at h
      obtain ⟨y, hy, rfl⟩ := h
      obtain ⟨r1, r2⟩ := takeQs_more t k (q + 4) y hy (by omega)
      refine ⟨?_, r2⟩
      have := takeQs_step (s := mk (s ++ t)) (by rw [bs_mk]; exact get_more hg t) (by rw [size_mk, List.length_append]; omega) (by rw [num_more _ _ _ _ (by omega)]; exact h3) (show takeQs (mk (s ++ t)) k (q + 4) = some (y.1, y.2) from r1)
      rw [this, num_more _ _ _ _ (by omega)]
    · cases h
theorem takeRs_more {s : List UInt8} (t : List UInt8) : ∀ (k a : Nat) (x : List Rec × Nat), takeRs (mk s) k a = some x → a ≤ s.length → takeRs (mk (s ++ t)) k a = some x ∧ x.2 ≤ s.length
  | 0, a, x, h, ha => by simp only [takeRs, Option.some.injEq] at h ⊢; subst h; exact ⟨rfl, ha⟩
  | k + 1, a, x, h, _ => by
    rw [takeRs] at h
    split at h
    · cases h
    · rename_i r e hr
      obtain ⟨m1, m2, m3⟩ := rec_more hr t
      simp only [Option.map_eq_some_iff] at h
      obtain ⟨y, hy, rfl⟩ := h
      obtain ⟨r1, r2⟩ := takeRs_more t k e.toNat y hy (by omega)
      refine ⟨?_, r2⟩
      rw [show e = ((e.toNat : Nat) : Int) by omega] at m1
      exact takeRs_step m1 (show takeRs (mk (s ++ t)) k e.toNat = some (y.1, y.2) from r1)
theorem opt_more {s : List UInt8} (t : List UInt8) {a : Nat} {z : Int} {e : Nat} (h : optAt (mk s) a = some (z, e)) : optAt (mk (s ++ t)) a = some (z, e) ∧ e ≤ s.length ∧ z ≠ 0 := by
  unfold optAt at h ⊢
  split at h
  · rename_i hc
    obtain ⟨h1, h2, h3, h4, h5⟩ := hc
    rw [bs_mk] at h1 h2 h3 h4 h5 h
    rw [size_mk] at h3 h5
    rcases hg : getL s a with ⟨n, q, er⟩
    rw [hg] at h1 h2 h3 h4 h5 h
    simp only at h1 h2 h3 h4 h5 h
    subst h1 h2
    have hb := get_ends hg
    obtain ⟨q, rfl⟩ : ∃ q' : Nat, q = q' := ⟨q.toNat, by omega⟩
    simp only [Int.toNat_natCast] at h4 h5 h
    have hn := num_bd (mk s) (q + 8) 2
    simp only [Option.some.injEq, Prod.mk.injEq] at h
    obtain ⟨rfl, rfl⟩ := h
    rw [bs_mk, get_more hg t, size_mk, List.length_append]
    simp only [Int.toNat_natCast]
    rw [num_more _ _ q 2 (by omega), num_more _ _ (q + 8) 2 (by omega), num_more _ _ (q + 2) 2 (by omega), if_pos ⟨trivial, trivial, by omega, h4, by omega⟩]
    exact ⟨rfl, by omega, by omega⟩
  · cases h
theorem takeAd_more {s : List UInt8} (t : List UInt8) : ∀ (k a : Nat) (z : Int) (x : List Rec × Int × Nat), takeAd (mk s) k a z = some x → a ≤ s.length → takeAd (mk (s ++ t)) k a z = some x ∧ x.2.2 ≤ s.length
  | 0, a, z, x, h, ha => by simp only [takeAd, Option.some.injEq] at h ⊢; subst h; exact ⟨rfl, ha⟩
  | k + 1, a, z, x, h, _ => by
    rw [takeAd] at h
    split at h
    · rename_i z' e ho
      by_cases hz : z = 0
      · subst hz
        rw [if_pos rfl] at ho
        obtain ⟨o1, o2, _⟩ := opt_more t ho
        obtain ⟨r1, r2⟩ := takeAd_more t k e z' x h o2
        exact ⟨takeAd_opt o1 (show takeAd (mk (s ++ t)) k e z' = some (x.1, x.2.1, x.2.2) from r1), r2⟩
      · rw [if_neg hz] at ho; cases ho
    · rename_i ho
      split at h
      · cases h
      · rename_i r e hr
        obtain ⟨m1, m2, m3⟩ := rec_more hr t
        simp only [Option.map_eq_some_iff] at h
        obtain ⟨y, hy, rfl⟩ := h
        obtain ⟨r1, r2⟩ := takeAd_more t k e.toNat z y hy (by omega)
        refine ⟨?_, r2⟩
        rw [show e = ((e.toNat : Nat) : Int) by omega] at m1
        exact takeAd_rec (fun _ => rec_no_opt m1) m1 (show takeAd (mk (s ++ t)) k e.toNat z = some (y.1, y.2.1, y.2.2) from r1)
/-- A message that goes on is none. -/
theorem getM_more {s : List UInt8} {m : Msg} (h : getM (mk s) = some m) (t : List UInt8) (ht : t ≠ []) : getM (mk (s ++ t)) = none := by
  unfold getM at h
  rw [size_mk] at h
  split at h
  · cases h
  rename_i h12
  split at h
  · cases h
  rename_i hb
  split at h
  · cases h
  rename_i qs a1 hq
  split at h
  · cases h
  rename_i an a2 ha
  split at h
  · cases h
  rename_i sv a3 hs
  split at h
  · cases h
  rename_i ad z a4 hd
  split at h
  · rename_i he
    obtain ⟨q1, q2⟩ := takeQs_more t _ _ _ hq (by omega)
    obtain ⟨a1', a2'⟩ := takeRs_more t _ _ _ ha q2
    obtain ⟨s1, s2⟩ := takeRs_more t _ _ _ hs a2'
    obtain ⟨d1, d2⟩ := takeAd_more t _ _ _ _ hd s2
    have hl : t.length ≠ 0 := by simpa using ht
    unfold getM
    rw [size_mk, List.length_append, num_more _ _ 0 2 (by omega), num_more _ _ 2 2 (by omega), num_more _ _ 4 2 (by omega), num_more _ _ 6 2 (by omega), num_more _ _ 8 2 (by omega), num_more _ _ 10 2 (by omega), if_neg (by omega), if_neg hb, q1]
    simp only
    rw [a1']
    simp only
    rw [s1]
    simp only
    rw [d1]
    simp only
    rw [if_neg (by omega)]
  · cases h
theorem getM_cut {m : Msg} (h : MayM m) (k : Nat) (hk : k < (writtenM m).length) : getM (mk ((writtenM m).take k)) = none := by
  cases hc : getM (mk ((writtenM m).take k)) with
  | none => rfl
  | some x =>
    have := getM_more hc ((writtenM m).drop k) (by intro e; have := congrArg List.length e; simp at this; omega)
    rw [List.take_append_drop, (getM_written h).1] at this
    cases this
theorem getM_on {m : Msg} (h : MayM m) (t : List UInt8) (ht : t ≠ []) : getM (mk (writtenM m ++ t)) = none := getM_more (getM_written h).1 t ht

end Go.Proofs.YtgidbcjeaeiinaaGreatDoor
