/-
  When a record is told, in the words of the reference: what stands at its head, and its data by its type.
-/
import Derived.Test.YtdmooggmoihggaaGreatDoorBRis
namespace Go.Proofs.YtdmooggmoihggaaGreatDoor
set_option maxRecDepth 100000
open Go.ChangeShapes Go.WideShapes Go.ChangeAt Go.RowKit Go.Pin Go.PlainAid

/-- The head of a record. -/
structure Hd (s : ByteArray) (a : Int) (N : ByteArray) (m k : Nat) (ty ttl : Int) : Prop where
  g : getI (bs s) a = (bs N, (m : Int), 0)
  h10 : m + 10 ≤ s.size
  v1 : num s m 2 = ty
  v2 : num s (m + 2) 2 = 1
  v3 : num s (m + 4) 4 = ttl
  v4 : num s (m + 8) 2 = k
  he : m + 10 + k ≤ s.size
theorem Hd.pos {s : ByteArray} {a : Int} {N : ByteArray} {m k : Nat} {ty ttl : Int} (h : Hd s a N m k ty ttl) : 0 ≤ a ∧ getL (bs s) a.toNat = (bs N, (m : Int), 0) := by
  have := h.g
  unfold getI at this
  split at this
  · simp at this
  · exact ⟨by omega, this⟩
theorem Hd.len {s : ByteArray} {a : Int} {N : ByteArray} {m k : Nat} {ty ttl : Int} (h : Hd s a N m k ty ttl) : N.size ≤ 72 := by
  have := (get_may h.pos.2).2
  rwa [length_bs] at this
theorem Hd.of {s : ByteArray} {a : Int} {r : Rec} {e : Int} (h : InRec s a r e) : ∃ m k : Nat, Hd s a r.n m k r.ty r.ttl ∧ e = ((m + 10 + k : Nat) : Int) ∧ Dat s (m + 10) k r := by
  have hh := h
  obtain ⟨h0, m, k, g, hs, v1, v2, v3, v4, rfl, hd⟩ := h
  have he := inrec_end hh
  exact ⟨m, k, ⟨by rw [getI, if_neg (by omega)]; exact g, hs, v1, v2, v3, v4, by omega⟩, rfl, hd⟩
theorem Hd.same {s : ByteArray} {a : Int} {N N' : ByteArray} {m k m' k' : Nat} {ty ttl ty' ttl' : Int} (h : Hd s a N m k ty ttl) (h' : Hd s a N' m' k' ty' ttl') : N' = N ∧ m' = m ∧ k' = k ∧ ty' = ty ∧ ttl' = ttl := by
  have hg := h.g.symm.trans h'.g
  simp only [Prod.mk.injEq, and_true] at hg
  obtain ⟨h1, h2⟩ := hg
  have hm : m' = m := by omega
  subst hm
  have hn : N' = N := by rw [← mk_bs N, ← mk_bs N', h1]
  refine ⟨hn, rfl, ?_, ?_, ?_⟩
  · have := h.v4.symm.trans h'.v4; omega
  · rw [← h.v1, ← h'.v1]
  · rw [← h.v3, ← h'.v3]
theorem Hd.get {s : ByteArray} {a : Int} {N : ByteArray} {m k : Nat} {ty ttl : Int} (h : Hd s a N m k ty ttl) (R : Rec) (ok : Bool) (hR : R.n = N ∧ R.ty = ty ∧ R.ttl = ttl)
    (h1 : ok = true → mayR R = true → Dat s (m + 10) k R) (h2 : ∀ r : Rec, r.n = N → r.ty = ty → r.ttl = ttl → mayR r = true → Dat s (m + 10) k r → ok = true ∧ r = R) :
    getRec s a = if ok && mayR R then some (R, ((m + 10 + k : Nat) : Int)) else none := by
  cases hg : getRec s a with
  | some q =>
    obtain ⟨r, e⟩ := q
    obtain ⟨hm, hi⟩ := get_inrec hg
    obtain ⟨m', k', hh, he, hd⟩ := Hd.of hi
    obtain ⟨e1, rfl, rfl, e4, e5⟩ := h.same hh
    obtain ⟨rfl, rfl⟩ := h2 r e1 e4 e5 hm hd
    rw [hm, he]; simp
  | none =>
    by_cases hc : (ok && mayR R) = true
    · exfalso
      simp only [Bool.and_eq_true] at hc
      have := inrec_get hc.2 ⟨h.pos.1, m, k, by rw [hR.1]; exact h.pos.2, h.h10, by rw [hR.2.1]; exact h.v1, h.v2, by rw [hR.2.2]; exact h.v3, h.v4, rfl, h1 hc.1 hc.2⟩
      rw [hg] at this; cases this
    · rw [if_neg hc]
theorem Hd.none_of {s : ByteArray} {a : Int} (h : ∀ N m k ty ttl, ¬ Hd s a N m k ty ttl) : getRec s a = none := by
  cases hg : getRec s a with
  | none => rfl
  | some q =>
    obtain ⟨m', k', hh, _, _⟩ := Hd.of (get_inrec (r := q.1) (e := q.2) hg).2
    exact absurd hh (h _ _ _ _ _)
theorem Hd.no_name {s : ByteArray} {a : Int} (h : (getI (bs s) a).2.2 ≠ 0) : getRec s a = none := Hd.none_of fun N m k ty ttl hh => by rw [hh.g] at h; simp at h
theorem Hd.no_room {s : ByteArray} {a : Int} {n : List UInt8} {m : Int} (h : getI (bs s) a = (n, m, 0)) (hr : (s.size : Int) < m + 10) : getRec s a = none := Hd.none_of fun N m' k ty ttl hh => by
  have := hh.g; rw [h] at this; simp only [Prod.mk.injEq] at this; have := hh.h10; omega
theorem Hd.no_class {s : ByteArray} {a : Int} {n : List UInt8} {m : Nat} (h : getI (bs s) a = (n, (m : Int), 0)) (hc : num s (m + 2) 2 ≠ 1) : getRec s a = none := Hd.none_of fun N m' k ty ttl hh => by
  have h1 := hh.g; rw [h] at h1; simp only [Prod.mk.injEq] at h1
  have : m' = m := by omega
  subst this
  exact hc hh.v2
theorem Hd.no_end {s : ByteArray} {a : Int} {n : List UInt8} {m : Nat} (h : getI (bs s) a = (n, (m : Int), 0)) (hc : (s.size : Int) < (m : Int) + 10 + num s (m + 8) 2) : getRec s a = none := Hd.none_of fun N m' k ty ttl hh => by
  have h1 := hh.g; rw [h] at h1; simp only [Prod.mk.injEq] at h1
  have : m' = m := by omega
  subst this
  have := hh.v4
  have := hh.he
  omega

theorem bs_ext (s : ByteArray) (p q : Nat) : bs (s.extract p q) = ((bs s).take q).drop p := by
  simp only [bs, ByteArray.data_extract, Array.toList_extract, List.extract_eq_take_drop, List.drop_take]
theorem bs_cut (s : ByteArray) (E : Nat) : bs (s.extract 0 E) ++ (bs s).drop E = bs s := by
  have : bs (s.extract 0 E) = (bs s).take E := by have := bs_ext s 0 E; simpa using this
  rw [this, List.take_append_drop]
theorem cut_size (s : ByteArray) (E : Nat) (h : E ≤ s.size) : (bs (s.extract 0 E)).length = E := by rw [length_bs]; simp; omega
/-- A name in a piece of the front is a name in the whole that ends within the piece. -/
theorem cut_get {s : ByteArray} {E p : Nat} {n : List UInt8} {e : Int} (hE : E ≤ s.size) : getL (bs (s.extract 0 E)) p = (n, e, 0) ↔ (getL (bs s) p = (n, e, 0) ∧ e ≤ E) := by
  constructor
  · intro h
    have := get_ends h
    rw [cut_size s E hE] at this
    have h2 := get_more h ((bs s).drop E)
    rw [bs_cut] at h2
    exact ⟨h2, this.2⟩
  · intro ⟨h, he⟩
    rw [← bs_cut s E] at h
    exact get_less h (by rw [cut_size s E hE]; exact he)

theorem Hd.get_1 {s : ByteArray} {a : Int} {N : ByteArray} {m k : Nat} {ttl : Int} (h : Hd s a N m k 1 ttl) :
    getRec s a = if decide (k = 4) && mayR ⟨N, 1, ttl, (getB s ((m + 10 : Nat) : Int) 4).1, ⟨#[]⟩, ⟨#[]⟩, 0⟩ then some (⟨N, 1, ttl, (getB s ((m + 10 : Nat) : Int) 4).1, ⟨#[]⟩, ⟨#[]⟩, 0⟩, ((m + 10 + k : Nat) : Int)) else none := by
  have he := h.he
  refine h.get _ (decide (k = 4)) ⟨rfl, rfl, rfl⟩ (fun hk _ => ?_) (fun r e1 e2 e3 hm hd => ?_)
  · have hk : k = 4 := by simpa using hk
    subst hk
    unfold Dat
    rw [if_pos rfl]
    refine ⟨rfl, by omega, ?_⟩
    rw [getB, if_neg (by omega), if_neg (by omega)]; rfl
  · obtain ⟨hz, _⟩ := may_zero hm
    unfold Dat at hd
    rw [if_pos e2] at hd
    obtain ⟨rfl, h4, hv⟩ := hd
    refine ⟨by simp, ?_⟩
    rw [getB, if_neg (by omega), if_neg (by omega)]
    obtain ⟨n, ty, tl, ad, tg, tx, se⟩ := r
    simp only at e1 e2 e3 hv
    subst e1 e2 e3
    simp only [namedR, if_pos, Rec.mk.injEq, true_and] at hz
    obtain ⟨rfl, rfl, rfl⟩ := hz
    simp only [Rec.mk.injEq, true_and, and_true]
    exact hv.symm

theorem Hd.get_N {s : ByteArray} {a : Int} {N : ByteArray} {m k : Nat} {ty ttl : Int} (h : Hd s a N m k ty ttl) (hty : isN ty = true) (t : ByteArray) (nx f : Int) (hq : getL (bs (s.extract 0 (m + 10 + k))) (m + 10) = (bs t, nx, f)) :
    getRec s a = if (f == 0 && nx == ((m + 10 + k : Nat) : Int)) && mayR ⟨N, ty, ttl, 0, t, ⟨#[]⟩, 0⟩ then some (⟨N, ty, ttl, 0, t, ⟨#[]⟩, 0⟩, ((m + 10 + k : Nat) : Int)) else none := by
  have he := h.he
  have n1 : ¬ ty = 1 := by simp [isN] at hty; omega
  refine h.get _ _ ⟨rfl, rfl, rfl⟩ (fun hk _ => ?_) (fun r e1 e2 e3 hm hd => ?_)
  · simp only [Bool.and_eq_true, beq_iff_eq] at hk
    obtain ⟨rfl, rfl⟩ := hk
    unfold Dat
    simp only
    rw [if_neg n1, if_pos hty]
    exact ((cut_get he).1 hq).1
  · obtain ⟨hz, _⟩ := may_zero hm
    unfold Dat at hd
    rw [e2, if_neg n1, if_pos hty] at hd
    have h1 := (cut_get he).2 ⟨hd, Int.le_refl _⟩
    rw [hq] at h1
    simp only [Prod.mk.injEq] at h1
    obtain ⟨g1, rfl, rfl⟩ := h1
    refine ⟨by simp, ?_⟩
    obtain ⟨n, ty', tl, ad, tg, tx, se⟩ := r
    simp only at e1 e2 e3 g1
    have g1 : t = tg := by rw [← mk_bs t, ← mk_bs tg, g1]
    subst e1 e2 e3 g1
    simp only [namedR, if_neg n1, if_pos hty, Rec.mk.injEq, true_and] at hz
    obtain ⟨rfl, rfl, rfl⟩ := hz
    rfl

theorem bt_ext {A B : ByteArray} (hs : A.size = B.size) (h : ∀ j, j < A.size → bt A j = bt B j) : A = B := by
  apply bs_inj
  have hl : (bs A).length = (bs B).length := by rw [length_bs, length_bs, hs]
  refine List.ext_getElem hl fun j h1 h2 => ?_
  have := h j (by rw [length_bs] at h1; exact h1)
  rw [bt_list, bt_list] at this
  have e1 : A.data.toList = bs A := rfl
  have e2 : B.data.toList = bs B := rfl
  rw [e1, e2, List.getElem?_map, List.getElem?_map, List.getElem?_eq_getElem h1, List.getElem?_eq_getElem h2] at this
  simp only [Option.map_some, Option.getD_some] at this
  exact UInt8.toNat_inj.1 (by omega)
theorem be_num {M : ByteArray} (h : M.size = 4) : M = be (num M 0 4) 4 := by
  have b0 := bt_nonneg M 0
  have b1 := bt_nonneg M 1
  have b2 := bt_nonneg M 2
  have b3 := bt_nonneg M 3
  have c0 := bt_le M 0
  have c1 := bt_le M 1
  have c2 := bt_le M 2
  have c3 := bt_le M 3
  have e : num M 0 4 = ((bt M 0 * 256 + bt M 1) * 256 + bt M 2) * 256 + bt M 3 := by simp [num]
  refine bt_ext (by rw [size_be, h]) fun j hj => ?_
  rw [be_4 _ (by omega) (by omega), bt_str _ _ (by intro n hn; simp at hn; omega)]
  rw [h] at hj
  rcases (by omega : j = 0 ∨ j = 1 ∨ j = 2 ∨ j = 3) with rfl | rfl | rfl | rfl <;> simp <;> omega
theorem num4_of {s : ByteArray} {p : Nat} (h : p + 4 ≤ s.size) {v : Int} (hv : num s p 4 = v) : ((bs s).drop p).take 4 = bs (be v 4) := by
  have e : s = mk ((bs s).take p) ++ mk (((bs s).drop p).take 4) ++ mk (((bs s).drop p).drop 4) := by
    rw [mk_append, mk_append, List.append_assoc, List.take_append_drop, List.take_append_drop, mk_bs]
  have hp : (mk ((bs s).take p)).size = p := by rw [size_mk, List.length_take, length_bs]; omega
  have h4 : (mk (((bs s).drop p).take 4)).size = 4 := by rw [size_mk, List.length_take, List.length_drop, length_bs]; omega
  have := num_mid (mk ((bs s).take p)) (mk (((bs s).drop p).take 4)) (mk (((bs s).drop p).drop 4)) 4 (by omega)
  rw [← e, hp, hv] at this
  have e2 := be_num h4
  rw [← this] at e2
  rw [← e2, bs_mk]
theorem tail_of {s : ByteArray} {i : Nat} (h : i + 20 ≤ s.size) : s.extract (i + 4) (i + 20) = be 60 4 ++ be 60 4 ++ be 600 4 ++ be 60 4 ↔ (num s (i + 4) 4 = 60 ∧ num s (i + 8) 4 = 60 ∧ num s (i + 12) 4 = 600 ∧ num s (i + 16) 4 = 60) := by
  have hb : ∀ v k, (bs (be v k)).length = k := fun v k => by rw [length_bs, size_be]
  have ex : bs (s.extract (i + 4) (i + 20)) = ((bs s).drop (i + 4)).take 16 := by rw [bs_ext, List.drop_take, show i + 20 - (i + 4) = 16 by omega]
  constructor
  · intro he
    have hx : bs s = (bs s).take (i + 4) ++ (bs (be 60 4) ++ bs (be 60 4) ++ bs (be 600 4) ++ bs (be 60 4)) ++ ((bs s).drop (i + 4)).drop 16 := by
      have : bs (be 60 4) ++ bs (be 60 4) ++ bs (be 600 4) ++ bs (be 60 4) = ((bs s).drop (i + 4)).take 16 := by rw [← ex, he]; simp only [bs_app]
      rw [this, List.append_assoc, List.take_append_drop, List.take_append_drop]
    have hl : ((bs s).take (i + 4)).length = i + 4 := by rw [List.length_take, length_bs]; omega
    generalize (bs s).take (i + 4) = A at *
    generalize ((bs s).drop (i + 4)).drop 16 = B at *
    rw [← mk_bs s]
    refine ⟨num_at _ A (bs (be 60 4) ++ bs (be 600 4) ++ bs (be 60 4) ++ B) 60 4 _ (by rw [hx]; simp only [List.append_assoc]) (by omega) (by unfold inB; omega), num_at _ (A ++ bs (be 60 4)) (bs (be 600 4) ++ bs (be 60 4) ++ B) 60 4 _ (by rw [hx]; simp only [List.append_assoc]) (by rw [List.length_append, hb]; omega) (by unfold inB; omega), num_at _ (A ++ bs (be 60 4) ++ bs (be 60 4)) (bs (be 60 4) ++ B) 600 4 _ (by rw [hx]; simp only [List.append_assoc]) (by rw [List.length_append, List.length_append, hb]; omega) (by unfold inB; omega), num_at _ (A ++ bs (be 60 4) ++ bs (be 60 4) ++ bs (be 600 4)) B 60 4 _ (by rw [hx]; simp only [List.append_assoc]) (by simp only [List.length_append, hb]; omega) (by unfold inB; omega)⟩
  · rintro ⟨h1, h2, h3, h4⟩
    have g1 := num4_of (by omega) h1
    have g2 := num4_of (by omega) h2
    have g3 := num4_of (by omega) h3
    have g4 := num4_of (by omega) h4
    apply bs_inj
    rw [ex, bs_app, bs_app, bs_app, ← g3]
    conv => rhs; arg 1; arg 1; rw [← List.append_nil (bs (be 60 4) ++ bs (be 60 4))]; arg 1; arg 1; rw [← g1]
    conv => rhs; arg 1; arg 1; arg 1; arg 2; rw [← g2]
    rw [← g4, List.append_nil]
    rw [show (16 : Nat) = 4 + 4 + 4 + 4 from rfl, List.take_add, List.take_add, List.take_add]
    simp only [List.drop_drop, List.append_assoc]
theorem Hd.get_6 {s : ByteArray} {a : Int} {N : ByteArray} {m k : Nat} {ttl : Int} (h : Hd s a N m k 6 ttl) (t u : ByteArray) (nx f ls g : Int) (hq : getL (bs (s.extract 0 (m + 10 + k))) (m + 10) = (bs t, nx, f)) (hq2 : getI (bs (s.extract 0 (m + 10 + k))) nx = (bs u, ls, g)) :
    getRec s a = if (f == 0 && g == 0 && (t.toList == u.toList) && ls + 20 == ((m + 10 + k : Nat) : Int) && ((s.extract (ls + 4).toNat (m + 10 + k)).toList == (be 60 4 ++ be 60 4 ++ be 600 4 ++ be 60 4).toList)) && mayR ⟨N, 6, ttl, 0, t, ⟨#[]⟩, (getB s ls 4).1⟩ then some (⟨N, 6, ttl, 0, t, ⟨#[]⟩, (getB s ls 4).1⟩, ((m + 10 + k : Nat) : Int)) else none := by
  have he := h.he
  refine h.get _ _ ⟨rfl, rfl, rfl⟩ (fun hk _ => ?_) (fun r e1 e2 e3 hm hd => ?_)
  · simp only [Bool.and_eq_true, beq_iff_eq, text_inj] at hk
    obtain ⟨⟨⟨⟨rfl, rfl⟩, rfl⟩, h20⟩, hx⟩ := hk
    have h1 := (cut_get he).1 hq
    have b1 := get_ends h1.1
    obtain ⟨j, rfl⟩ : ∃ j : Nat, nx = j := ⟨nx.toNat, by omega⟩
    rw [getI, if_neg (by omega), Int.toNat_natCast] at hq2
    have h2 := (cut_get he).1 hq2
    have b2 := get_ends h2.1
    obtain ⟨i, rfl⟩ : ∃ i : Nat, ls = i := ⟨ls.toNat, by omega⟩
    have h21 : i + 20 = m + 10 + k := by omega
    rw [← h21, show ((i : Int) + 4).toNat = i + 4 by omega] at hx
    have hn := (tail_of (by omega)).1 hx
    unfold Dat
    simp only
    rw [if_neg (by decide), if_neg (by decide), if_pos trivial]
    refine ⟨j, i, h1.1, h2.1, by omega, ?_, hn.1, hn.2.1, hn.2.2.1, hn.2.2.2, h21⟩
    rw [getB, if_neg (by omega), if_neg (by omega), Int.toNat_natCast]
  · obtain ⟨hz, _⟩ := may_zero hm
    unfold Dat at hd
    rw [e2, if_neg (by decide), if_neg (by decide), if_pos rfl] at hd
    obtain ⟨j, i, g1, g2, hi, w1, w2, w3, w4, w5, h20⟩ := hd
    have b1 := get_ends g1
    have b2 := get_ends g2
    have h1 := (cut_get he).2 ⟨g1, by omega⟩
    rw [hq] at h1
    simp only [Prod.mk.injEq] at h1
    obtain ⟨t1, rfl, rfl⟩ := h1
    rw [getI, if_neg (by omega), Int.toNat_natCast] at hq2
    have h2 := (cut_get he).2 ⟨g2, by omega⟩
    rw [hq2] at h2
    simp only [Prod.mk.injEq] at h2
    obtain ⟨u1, rfl, rfl⟩ := h2
    have t2 : t = r.tg := by rw [← mk_bs t, ← mk_bs r.tg, t1]
    have u1 : u = r.tg := by rw [← mk_bs u, ← mk_bs r.tg, u1]
    subst u1
    have hx := (tail_of hi).2 ⟨w2, w3, w4, w5⟩
    refine ⟨?_, ?_⟩
    · rw [show ((i : Int) + 4).toNat = i + 4 by omega, ← h20, hx, t2]
      simp
    · obtain ⟨n, ty', tl, ad, tg, tx, se⟩ := r
      simp only at e1 e2 e3 t2 w1
      subst e1 e2 e3
      rw [show t = tg from t2]
      simp only [namedR, isN] at hz
      simp at hz
      obtain ⟨rfl, rfl⟩ := hz
      rw [getB, if_neg (by omega), if_neg (by omega), Int.toNat_natCast, w1]

theorem Hd.get_16 {s : ByteArray} {a : Int} {N : ByteArray} {m k : Nat} {ttl : Int} (h : Hd s a N m k 16 ttl) :
    getRec s a = if (decide (0 < k) && (bt s (m + 10) == (k : Int) - 1)) && mayR ⟨N, 16, ttl, 0, ⟨#[]⟩, s.extract (m + 11) (m + 10 + k), 0⟩ then some (⟨N, 16, ttl, 0, ⟨#[]⟩, s.extract (m + 11) (m + 10 + k), 0⟩, ((m + 10 + k : Nat) : Int)) else none := by
  have he := h.he
  have n1 : num s (m + 10) 1 = bt s (m + 10) := by simp [num]
  refine h.get _ _ ⟨rfl, rfl, rfl⟩ (fun hk _ => ?_) (fun r e1 e2 e3 hm hd => ?_)
  · simp only [Bool.and_eq_true, beq_iff_eq, decide_eq_true_eq] at hk
    unfold Dat
    simp only
    rw [if_neg (by decide), if_neg (by decide), if_neg (by decide), if_pos trivial]
    have hsz : (s.extract (m + 11) (m + 10 + k)).size = k - 1 := by simp; omega
    refine ⟨he, by omega, ?_, trivial⟩
    rw [n1, hk.2, hsz]; omega
  · obtain ⟨hz, _⟩ := may_zero hm
    unfold Dat at hd
    rw [e2, if_neg (by decide), if_neg (by decide), if_neg (by decide), if_pos rfl] at hd
    obtain ⟨h1, h2, h3, h4⟩ := hd
    refine ⟨?_, ?_⟩
    · simp only [Bool.and_eq_true, beq_iff_eq, decide_eq_true_eq]
      rw [← n1, h3]; omega
    · obtain ⟨n, ty', tl, ad, tg, tx, se⟩ := r
      simp only at e1 e2 e3 h4
      subst e1 e2 e3
      simp only [namedR, isN, isT] at hz
      simp at hz
      obtain ⟨rfl, rfl, rfl⟩ := hz
      rw [← h4]

theorem Hd.get_49 {s : ByteArray} {a : Int} {N : ByteArray} {m k : Nat} {ttl : Int} (h : Hd s a N m k 49 ttl) :
    getRec s a = if true && mayR ⟨N, 49, ttl, 0, ⟨#[]⟩, s.extract (m + 10) (m + 10 + k), 0⟩ then some (⟨N, 49, ttl, 0, ⟨#[]⟩, s.extract (m + 10) (m + 10 + k), 0⟩, ((m + 10 + k : Nat) : Int)) else none := by
  have he := h.he
  refine h.get _ _ ⟨rfl, rfl, rfl⟩ (fun hk _ => ?_) (fun r e1 e2 e3 hm hd => ?_)
  · unfold Dat
    simp only
    rw [if_neg (by decide), if_neg (by decide), if_neg (by decide), if_neg (by decide)]
    exact ⟨he, trivial⟩
  · obtain ⟨hz, _⟩ := may_zero hm
    unfold Dat at hd
    rw [e2, if_neg (by decide), if_neg (by decide), if_neg (by decide), if_neg (by decide)] at hd
    refine ⟨rfl, ?_⟩
    obtain ⟨n, ty', tl, ad, tg, tx, se⟩ := r
    simp only at e1 e2 e3 hd
    subst e1 e2 e3
    simp only [namedR, isN, isT] at hz
    simp at hz
    obtain ⟨rfl, rfl, rfl⟩ := hz
    rw [← hd.2]
theorem Hd.get_no {s : ByteArray} {a : Int} {N : ByteArray} {m k : Nat} {ty ttl : Int} (h : Hd s a N m k ty ttl) (hty : typeB ty = false) : getRec s a = none := by
  cases hg : getRec s a with
  | none => rfl
  | some q =>
    obtain ⟨hm, hi⟩ := get_inrec (r := q.1) (e := q.2) hg
    obtain ⟨m', k', hh, _, _⟩ := Hd.of hi
    obtain ⟨_, _, _, e4, _⟩ := h.same hh
    have := (may_zero hm).2
    rw [e4, hty] at this; cases this

end Go.Proofs.YtdmooggmoihggaaGreatDoor
