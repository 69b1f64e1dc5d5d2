/-
  Contract of package rr's Put, at every record, place and known names.
-/
import Derived.Test.YtohlofobcadeoaaDoorRrWrite
import Derived.Deep.RegionLaw
import Derived.Lib.BufferWrite
namespace Go.Proofs.YtohlofobcadeoaaDoor
set_option maxRecDepth 100000
open Go.ChangeShapes Go.WideShapes Go.ChangeAt Go.RowKit Go.Pin Go.PlainAid

/-- Bounds that every state keeps to. -/
structure Fine (x : Wt) (p q : Nat) : Prop where
  p : x.P.length ≤ p
  q : x.ks.length ≤ q
  l : ∀ k ∈ x.ks, k.1.length ≤ maxLen
theorem Fine.num {x : Wt} {p q : Nat} (h : Fine x p q) (v : Int) (k : Nat) : Fine (numW v k x) (p + k) q :=
  ⟨by have := h.p; simp only [numW, List.length_append, length_bs, size_be]; omega, h.q, h.l⟩
theorem putN_len (ks : List Kn) : ∀ (ls : List (List UInt8)) (at_ : Int), (putN ks at_ ls).length ≤ ls.length
  | [], _ => by simp [putN]
  | p :: r, at_ => by
    have := putN_len ks r (at_ + 1 + p.length)
    rw [putN]
    split
    · simp
    · simp only [List.length_append, List.length_cons]
      split <;> simp <;> omega
theorem putN_mem (ks : List Kn) : ∀ (ls : List (List UInt8)) (at_ : Int), (∀ x ∈ ls, okL x = true) → ls.length ≤ 8 → ∀ k ∈ putN ks at_ ls, k.1.length ≤ 72
  | [], _, _, _ => by intro k hk; simp [putN] at hk
  | p :: r, at_, ho, h8 => by
    have ih := putN_mem ks r (at_ + 1 + p.length) (fun x hx => ho x (List.mem_cons_of_mem _ hx)) (by simp at h8; omega)
    intro k hk
    rw [putN] at hk
    split at hk
    · simp at hk
    · rcases List.mem_append.1 hk with hk | hk
      · split at hk
        · simp at hk; subst hk
          have := join_len (p :: r) ho
          simp only; omega
        · simp at hk
      · exact ih k hk
theorem Fine.name {x : Wt} {p q : Nat} (h : Fine x p q) (at_ : Int) (n : List UInt8) : Fine (nameW at_ n x) (p + 73) (q + 8) := by
  have hl := labsL_len n
  have h1 := putS_len x.ks (labsL n) (fun x hx => labsL_ok hx)
  have h2 := putN_len x.ks (labsL n) (at_ + x.P.length)
  have h3 := putN_mem x.ks (labsL n) (at_ + x.P.length) (fun x hx => labsL_ok hx) hl
  have hp := h.p
  have hq := h.q
  unfold nameW
  split
  · exact ⟨by omega, by omega, h.l⟩
  · split
    · refine ⟨by simp only [List.length_append]; omega, by simp only [List.length_append]; omega, fun k hk => ?_⟩
      rcases List.mem_append.1 hk with hk | hk
      · exact h.l k hk
      · have := h3 k hk; unfold maxLen; omega
    · exact ⟨by simp only; omega, by simp, by simp⟩
theorem nameW_ok {at_ : Int} {n : List UInt8} {x : Wt} (h : (nameW at_ n x).rf = false) : x.rf = false ∧ mayPutL (at_ + x.P.length) x.ks n = true ∧ nameW at_ n x = ⟨x.P ++ putS x.ks (labsL n), x.ks ++ putN x.ks (at_ + x.P.length) (labsL n), false⟩ := by
  unfold nameW at h ⊢
  cases hx : x.rf with
  | true => rw [hx] at h; simp [hx] at h
  | false =>
    rw [hx] at h
    simp only [Bool.false_eq_true, if_false] at h ⊢
    cases hm : mayPutL (at_ + x.P.length) x.ks n with
    | true => simp
    | false => rw [hm] at h; simp at h

theorem name_w (b : Nat) (at_ : Int) (G : Bool) (x : Wt) (s : ByteArray) (w : World) (h : Wr w b at_ G x) (hG : x.rf = true → G = true) (hx : Fine x 10000 1048576) (hs : s.size ≤ maxLen) (ha : x.rf = false → -9223372036854775808 ≤ at_ + x.P.length ∧ at_ + x.P.length ≤ 9223372036854775807) :
    Calls Tryd.prog 21 #[.pointer (some ⟨b, 0, none⟩), .string s] w fun e w' => e = .returned (.tuple #[]) ∧ Wr w' b at_ true (nameW at_ (bs s) x) ∧ Ink b w w' := by
  cases hf : x.rf with
  | true =>
    have e1 : nameW at_ (bs s) x = x := by simp [nameW, hf]
    rw [e1]
    obtain rfl := hG hf
    exact (name_skip b at_ true x _ w h hf).mono fun e w' ⟨h1, h2⟩ => ⟨h1, by rw [h2]; exact h, by rw [h2]; exact Ink.refl _ _⟩
  | false =>
    have hp := hx.p
    cases hm : mayPutL (at_ + x.P.length) x.ks (bs s) with
    | true =>
      have e1 : nameW at_ (bs s) x = ⟨x.P ++ bs (mk (putS x.ks (labsL (bs s)))), x.ks ++ putN x.ks (at_ + x.P.length) (labsL (bs s)), false⟩ := by simp [nameW, hf, hm, bs_mk]
      rw [e1]
      refine name_put b at_ G x s (mk (putS x.ks (labsL (bs s)))) _ w h hf (by omega) ?_ (ha hf) 0 false rfl (fun ka kcap w hk => wput_ok _ ka kcap x.ks s w hs hx.q hx.l hk hm)
      have := putS_len x.ks (labsL (bs s)) (fun x hx => labsL_ok hx)
      have := labsL_len (bs s)
      rw [size_mk]; omega
    | false =>
      have e1 : nameW at_ (bs s) x = ⟨x.P ++ bs ⟨#[]⟩, [], true⟩ := by rw [show bs ⟨#[]⟩ = [] from rfl, List.append_nil]; simp [nameW, hf, hm]
      rw [e1]
      refine name_put b at_ G x s ⟨#[]⟩ [] w h hf (by omega) (by simp [ByteArray.size]) (ha hf) 300 true rfl (fun ka kcap w hk => ?_)
      refine (wput_no _ ka kcap x.ks s w hs (by have := hx.q; omega) hx.l hk hm).mono fun e w' ⟨h1, h2⟩ => ⟨⟨_, h1, World.ownsRow_nil _ _ _ _⟩, h2⟩

/-- Block c is a record, boxed. -/
def Boxed (w : World) (c : Nat) (r : Rec) : Prop := w.heap[c]? = some (.cells #[.string r.n, .int .i64 r.ty, .int .i64 r.ttl, .int .i64 r.ad, .string r.tg, .string r.tx, .int .i64 r.se] 24 (0, 0))
theorem Boxed.new (w : World) (r : Rec) : Boxed (w.alloc (.cells #[.string r.n, .int .i64 r.ty, .int .i64 r.ttl, .int .i64 r.ad, .string r.tg, .string r.tx, .int .i64 r.se] 24)) w.heap.size r := heap_alloc_new w _
theorem Boxed.lt {w : World} {c : Nat} {r : Rec} (h : Boxed w c r) : c < w.heap.size := (Array.getElem?_eq_some_iff.1 h).1
theorem Boxed.not {w : World} {c : Nat} {r : Rec} (h : Boxed w c r) : ¬ isBytes w c := fun ⟨cur, f, e⟩ => by
  rw [Boxed] at h
  rw [h] at e
  simp only [Option.some.injEq, Obj.cells.injEq] at e
  exact absurd e.2.1 (by decide)
theorem Boxed.ink {w w' : World} {b c : Nat} {r : Rec} (h : Boxed w c r) (hi : Ink b w w') (hc : c ≠ b) : Boxed w' c r := (hi.oth c h.lt hc h.not).trans h
theorem Boxed.below {w w' : World} {c : Nat} {r : Rec} (h : Boxed w c r) (hb : Below w.heap.size w w') : Boxed w' c r := (hb.block c h.lt).trans h
theorem Boxed.cell {w : World} {c : Nat} {r : Rec} (h : Boxed w c r) (j : Nat) : w.cell? ⟨c, j, none⟩ = #[Value.string r.n, .int .i64 r.ty, .int .i64 r.ttl, .int .i64 r.ad, .string r.tg, .string r.tx, .int .i64 r.se][j]? := by
  rw [Boxed] at h
  simp only [World.cell?, h]
  simp
theorem Laid.ink {w w' : World} {b : Nat} (h : Laid w) (hi : Ink b w w') (hb : b ≠ 0) : Laid w' := h.keep (hi.bel.block 0 (by omega))

def textW (t : ByteArray) (x : Wt) : Wt := { x with P := x.P ++ bs t }
def soaW (at_ : Int) (r : Rec) (x : Wt) : Wt := numW 60 4 (numW 600 4 (numW 60 4 (numW 60 4 (numW r.se 4 (nameW at_ (bs r.tg) (nameW at_ (bs r.tg) x))))))
def dataW (at_ : Int) (r : Rec) (x : Wt) : Wt :=
  if r.ty = 1 then numW r.ad 4 x
  else if isN r.ty then nameW at_ (bs r.tg) x
  else if r.ty = 6 then soaW at_ r x
  else if r.ty = 16 then textW r.tx (numW r.tx.size 1 x)
  else textW r.tx x
theorem number_1w (b : Nat) (at_ : Int) (x : Wt) (v : Int) (w : World) (h : Wr w b at_ true x) (hv : 0 ≤ v ∧ v < 256) (hP : x.P.length ≤ 100000) :
    Calls Tryd.prog 22 #[.pointer (some ⟨b, 0, none⟩), .int .i64 v, .int .i64 1] w fun e w' => e = .returned (.tuple #[]) ∧ Wr w' b at_ true (numW v 1 x) ∧ Ink b w w' := number_w b at_ true x v 1 w h (.inl ⟨rfl, hv.1, hv.2⟩) hP
theorem number_2w (b : Nat) (at_ : Int) (x : Wt) (v : Int) (w : World) (h : Wr w b at_ true x) (hv : 0 ≤ v ∧ v < 65536) (hP : x.P.length ≤ 100000) :
    Calls Tryd.prog 22 #[.pointer (some ⟨b, 0, none⟩), .int .i64 v, .int .i64 2] w fun e w' => e = .returned (.tuple #[]) ∧ Wr w' b at_ true (numW v 2 x) ∧ Ink b w w' := number_w b at_ true x v 2 w h (.inr (.inl ⟨rfl, hv.1, hv.2⟩)) hP
theorem number_4w (b : Nat) (at_ : Int) (x : Wt) (v : Int) (w : World) (h : Wr w b at_ true x) (hv : 0 ≤ v ∧ v < 4294967296) (hP : x.P.length ≤ 100000) :
    Calls Tryd.prog 22 #[.pointer (some ⟨b, 0, none⟩), .int .i64 v, .int .i64 4] w fun e w' => e = .returned (.tuple #[]) ∧ Wr w' b at_ true (numW v 4 x) ∧ Ink b w w' := number_w b at_ true x v 4 w h (.inr (.inr ⟨rfl, hv.1, hv.2⟩)) hP

set_option maxHeartbeats 1000000 in
theorem wdata_1 (b : Nat) (at_ : Int) (x : Wt) (r : Rec) (w : World) (h : Wr w b at_ true x) (hP : x.P.length ≤ 100000) (ht : r.ty = 1) (hr : 0 ≤ r.ad ∧ r.ad < 4294967296) :
    Calls Tryd.prog 25 #[.pointer (some ⟨b, 0, none⟩), rv r] w fun e w' => e = .returned (.tuple #[]) ∧ Wr w' b at_ true (numW r.ad 4 x) ∧ Ink b w w' := by
  have HC : Hid (∀ w, Wr w b at_ true x → _) := fun w h => number_4w b at_ x r.ad w h hr hP
  have HB : Hid (_) := (Below.refl w.heap.size w).alloc (Nat.le_refl _) (.cells #[.string r.n, .int .i64 r.ty, .int .i64 r.ttl, .int .i64 r.ad, .string r.tg, .string r.tx, .int .i64 r.se] 24)
  have W1 : Hid (_) := h.below HB.out
  have lt := h.lt
  generalize numW r.ad 4 x = X at *
  obtain ⟨n, ty, ttl, ad, tg, tx, se⟩ := r
  simp only at ht
  subst ht
  simp only [rv] at *
  clear h
  go_enter Tryd.func25, Tryd.ntmps25
  go_wp2_with fail
  refine (HC.out _ W1.out).mono ?_; rintro e w1 ⟨rfl, hW, hI⟩
  go_wp2
  go_end0
  exact ⟨rfl, hW, (Ink.of_below HB.out lt).trans hI⟩

theorem step_bytes {ops : Array Oper} {o : Oper} {a : Act} {w : World} {K : Act → World → Prop} {Q : Exit → Act → World → Prop} {E : Prop} (hgd : o.guard = none) (sl x : Operand)
    (ho : o.op = .call { callee := .builtin .append, args := #[sl, x], argTypes := #[44, 9] }) (base : Nat) (v : Value) (B : List UInt8) (s : ByteArray) (hs : a.eval sl = v) (hown : Bytes w base v B) (hx : a.eval x = .string s)
    (hb : B.length + s.size ≤ 1000000) (hbase : base ≤ w.heap.size) (h : ∀ v' w', Bytes w' base v' (B ++ bs s) → w.grownBy w' v.ownBlock → K (a.put o.dst v') w') :
    if Region.wanted o (yielded ops a.tmps) = true then Oper.wp Tryd.prog o a w K Q else E := by
  have hw : Region.wanted o (yielded ops a.tmps) = true := by simp [Region.wanted, hgd]
  rw [if_pos hw]
  obtain ⟨i0, hi, hz0, hz1, hz2⟩ := info_parts Tryd.infoU8
  obtain ⟨v', w', hr, h2, h3, _⟩ := Lib.run_append_own_string (P := Tryd.prog) w base 44 9 o.type 5 i0 Tryd.underlying44 Tryd.underlying9 hi hz0 hz1 hz2 v _ _ hown s (by unfold maxLen; omega) (by omega) hbase
  unfold Oper.wp
  simp only [execOp, ho, resolve, invoke, builtin, Sem.run_bind, Sem.run_pure, Result.andThen_ok, List.map_toArray, List.map_cons, List.map_nil, hs, hx, hr]
  exact h v' w' (bytes_more h2) h3

set_option maxHeartbeats 1000000 in
theorem wdata_n (b : Nat) (at_ : Int) (x : Wt) (r : Rec) (w : World) (h : Wr w b at_ true x) (hx : Fine x 10000 1048576) (hs : r.tg.size ≤ maxLen) (ha : x.rf = false → -9223372036854775808 ≤ at_ + x.P.length ∧ at_ + x.P.length ≤ 9223372036854775807) (ht : isN r.ty = true) :
    Calls Tryd.prog 25 #[.pointer (some ⟨b, 0, none⟩), rv r] w fun e w' => e = .returned (.tuple #[]) ∧ Wr w' b at_ true (nameW at_ (bs r.tg) x) ∧ Ink b w w' := by
  have HC : Hid (∀ w, Wr w b at_ true x → _) := fun w h => name_w b at_ true x r.tg w h (fun _ => rfl) hx hs ha
  have HB : Hid (_) := (Below.refl w.heap.size w).alloc (Nat.le_refl _) (.cells #[.string r.n, .int .i64 r.ty, .int .i64 r.ttl, .int .i64 r.ad, .string r.tg, .string r.tx, .int .i64 r.se] 24)
  have W1 : Hid (_) := h.below HB.out
  have lt := h.lt
  generalize nameW at_ (bs r.tg) x = X at *
  obtain ⟨n, ty, ttl, ad, tg, tx, se⟩ := r
  simp only [isN, decide_eq_true_eq] at ht
  simp only [rv] at *
  clear h hx hs ha
  rcases ht with rfl | rfl | rfl
  all_goals
    go_enter Tryd.func25, Tryd.ntmps25
    go_wp2_with fail
    refine (HC.out _ W1.out).mono ?_; rintro e w1 ⟨rfl, hW, hI⟩
    go_wp2
    go_end0
    exact ⟨rfl, hW, (Ink.of_below HB.out lt).trans hI⟩

set_option maxHeartbeats 1000000 in
theorem wdata_49 (b : Nat) (at_ : Int) (x : Wt) (r : Rec) (w : World) (h : Wr w b at_ true x) (hP : x.P.length ≤ 100000) (ht : r.ty = 49) (hr : r.tx.size ≤ 64) :
    Calls Tryd.prog 25 #[.pointer (some ⟨b, 0, none⟩), rv r] w fun e w' => e = .returned (.tuple #[]) ∧ Wr w' b at_ true (textW r.tx x) ∧ Ink b w w' := by
  have HB : Hid (_) := (Below.refl w.heap.size w).alloc (Nat.le_refl _) (.cells #[.string r.n, .int .i64 r.ty, .int .i64 r.ttl, .int .i64 r.ad, .string r.tg, .string r.tx, .int .i64 r.se] 24)
  have W1 : Hid (_) := h.below HB.out
  have lt := h.lt
  have hX : Hid (textW r.tx x = { x with P := x.P ++ bs r.tx }) := rfl
  obtain ⟨Q, hQ⟩ : ∃ Q, Hid (x.P ++ bs r.tx = Q) := ⟨_, rfl⟩
  rw [show x.P ++ bs r.tx = Q from hQ.out] at hX
  generalize textW r.tx x = X at *
  obtain ⟨n, ty, ttl, ad, tg, tx, se⟩ := r
  simp only at ht
  subst ht
  simp only [rv] at *
  have C5 : Hid ((w.alloc (.cells #[.string n, .int .i64 49, .int .i64 ttl, .int .i64 ad, .string tg, .string tx, .int .i64 se] 24)).cell? ⟨w.heap.size, 5, none⟩ = some (.string tx)) := new_cell _ _ _ _ _ rfl
  clear h
  go_enter Tryd.func25, Tryd.ntmps25
  go_wp2_with fail
  generalize w.alloc (.cells #[.string n, .int .i64 49, .int .i64 ttl, .int .i64 ad, .string tg, .string tx, .int .i64 se] 24) = w1 at *
  have c5 := C5.out
  have lt1 := W1.out.lt
  obtain ⟨c0, c3, ⟨a, cap, ka, kcap, c1, h2, c2, h4, h5, h6⟩, fz, _⟩ := W1.out
  have f1 := fz 1
  have H45 : Hid (_) := And.intro h4 (And.intro h5 (And.intro (h6 rfl) fz))
  clear h4 h5 h6 fz
  go_region_law (refine step_bytes rfl (.tmp 67) (.tmp 69) rfl (b + 1) (.slice a x.P.length cap) x.P tx rfl h2 rfl (by omega) (by simp; omega) ?_; intro v' w2 hV hgrow0; have hgrow : w1.grownBy w2 (Value.slice a x.P.length cap).ownBlock := ⟨hgrow0.os, hgrow0.tape, hgrow0.output, hgrow0.size, hgrow0.block⟩; rw [hQ.out] at hV; have R := Wr.more (G := true) lt1 c0 c1 c2 c3 h2 H45.out.1 H45.out.2.1 (fun _ => H45.out.2.2.1) H45.out.2.2.2 hgrow hV; have I2 : Ink b w1 (w2.setCell ⟨b, 1, none⟩ v') := (Ink.grown h2 hgrow lt1).trans (Ink.set (b := b) w2 1 v'); have hbk : w2.heap[b]? = w1.heap[b]? := hgrow.block b lt1 (fun e => by have := (h2.is e.symm).2; omega); have e1 : w2.cell? ⟨b, 1, none⟩ = some (.slice a x.P.length cap) := (World.cell?_of_block hbk).trans c1; have e2 : w2.frozen? ⟨b, 1, none⟩ = false := (World.frozen?_of_block hbk).trans f1; obtain ⟨a', cap', rfl⟩ := hV.form; have HR : Hid (_) := R; have HI : Hid (_) := I2; clear R I2 hV hgrow hgrow0 hbk)
  all_goals
    go_wp2
    go_end0
    refine ⟨rfl, ?_, (Ink.of_below HB.out lt).trans HI.out⟩
    rw [hX.out]
    exact HR.out

set_option maxHeartbeats 1000000 in
theorem wdata_16 (b : Nat) (at_ : Int) (x : Wt) (r : Rec) (w : World) (h : Wr w b at_ true x) (hP : x.P.length ≤ 90000) (ht : r.ty = 16) (hr : r.tx.size ≤ 64) :
    Calls Tryd.prog 25 #[.pointer (some ⟨b, 0, none⟩), rv r] w fun e w' => e = .returned (.tuple #[]) ∧ Wr w' b at_ true (textW r.tx (numW r.tx.size 1 x)) ∧ Ink b w w' := by
  have HC : Hid (∀ w, Wr w b at_ true x → _) := fun w h => number_1w b at_ x r.tx.size w h ⟨by omega, by omega⟩ (by omega)
  have HB : Hid (_) := (Below.refl w.heap.size w).alloc (Nat.le_refl _) (.cells #[.string r.n, .int .i64 r.ty, .int .i64 r.ttl, .int .i64 r.ad, .string r.tg, .string r.tx, .int .i64 r.se] 24)
  have W1 : Hid (_) := h.below HB.out
  have lt := h.lt
  have hP2 : (numW r.tx.size 1 x).P.length ≤ 100000 := by simp only [numW, List.length_append, length_bs, size_be]; omega
  generalize numW r.tx.size 1 x = y at *
  have hX : Hid (textW r.tx y = { y with P := y.P ++ bs r.tx }) := rfl
  obtain ⟨Q, hQ⟩ : ∃ Q, Hid (y.P ++ bs r.tx = Q) := ⟨_, rfl⟩
  rw [show y.P ++ bs r.tx = Q from hQ.out] at hX
  generalize textW r.tx y = X at *
  have BX : Hid (Boxed (w.alloc (.cells #[.string r.n, .int .i64 r.ty, .int .i64 r.ttl, .int .i64 r.ad, .string r.tg, .string r.tx, .int .i64 r.se] 24)) w.heap.size r) := Boxed.new w r
  have hcell : Hid (∀ w', Boxed w' w.heap.size r → w'.cell? ⟨w.heap.size, 5, none⟩ = some (.string r.tx)) := fun w' h => h.cell 5
  have hink : Hid (∀ w' w'', Boxed w' w.heap.size r → Ink b w' w'' → Boxed w'' w.heap.size r) := fun w' w'' h1 h2 => h1.ink h2 (by omega)
  obtain ⟨n, ty, ttl, ad, tg, tx, se⟩ := r
  simp only at ht
  subst ht
  simp only [rv] at *
  clear h
  go_enter Tryd.func25, Tryd.ntmps25
  go_wp2_with fail
  generalize w.alloc (.cells #[.string n, .int .i64 16, .int .i64 ttl, .int .i64 ad, .string tg, .string tx, .int .i64 se] 24) = w0 at *
  refine (HC.out _ W1.out).mono ?_; rintro e w1 ⟨rfl, hW, hI⟩
  have c5 := hcell.out _ (hink.out _ _ BX.out hI)
  have lt1 := hW.lt
  have HI1 : Hid (_) := hI
  obtain ⟨c0, c3, ⟨a, cap, ka, kcap, c1, h2, c2, h4, h5, h6⟩, fz, _⟩ := hW
  have f1 := fz 1
  have H45 : Hid (_) := And.intro h4 (And.intro h5 (And.intro (h6 rfl) fz))
  clear h4 h5 h6 fz hI BX hcell hink HC W1
  go_wp2_with fail
  go_region_law (refine step_bytes rfl (.tmp 55) (.tmp 57) rfl (b + 1) (.slice a y.P.length cap) y.P tx rfl h2 rfl (by omega) (by simp; omega) ?_; intro v' w2 hV hgrow0; have hgrow : w1.grownBy w2 (Value.slice a y.P.length cap).ownBlock := ⟨hgrow0.os, hgrow0.tape, hgrow0.output, hgrow0.size, hgrow0.block⟩; rw [hQ.out] at hV; have R := Wr.more (G := true) lt1 c0 c1 c2 c3 h2 H45.out.1 H45.out.2.1 (fun _ => H45.out.2.2.1) H45.out.2.2.2 hgrow hV; have I2 : Ink b w1 (w2.setCell ⟨b, 1, none⟩ v') := (Ink.grown h2 hgrow lt1).trans (Ink.set (b := b) w2 1 v'); have hbk : w2.heap[b]? = w1.heap[b]? := hgrow.block b lt1 (fun e => by have := (h2.is e.symm).2; omega); have e1 : w2.cell? ⟨b, 1, none⟩ = some (.slice a y.P.length cap) := (World.cell?_of_block hbk).trans c1; have e2 : w2.frozen? ⟨b, 1, none⟩ = false := (World.frozen?_of_block hbk).trans f1; obtain ⟨a', cap', rfl⟩ := hV.form; have HR : Hid (_) := R; have HI : Hid (_) := I2; clear R I2 hV hgrow hgrow0 hbk)
  all_goals
    go_wp2
    go_end0
    refine ⟨rfl, ?_, ((Ink.of_below HB.out lt).trans HI1.out).trans HI.out⟩
    rw [hX.out]
    exact HR.out

set_option maxHeartbeats 2000000 in
theorem wdata_6 (b : Nat) (at_ : Int) (x : Wt) (r : Rec) (w : World) (h : Wr w b at_ true x) (hx : Fine x 9000 1048560) (hs : r.tg.size ≤ maxLen) (ha : x.rf = false → 0 ≤ at_ ∧ at_ ≤ 65535) (ht : r.ty = 6) (hr : 0 ≤ r.se ∧ r.se < 4294967296) (hL : Laid w) (hb0 : b ≠ 0) :
    Calls Tryd.prog 25 #[.pointer (some ⟨b, 0, none⟩), rv r] w fun e w' => e = .returned (.tuple #[]) ∧ Wr w' b at_ true (soaW at_ r x) ∧ Ink b w w' := by
  have F1 := hx.name at_ (bs r.tg)
  have F2 := F1.name at_ (bs r.tg)
  have hp := hx.p
  have hp1 := F1.p
  have HN1 : Hid (∀ w, Wr w b at_ true x → _) := fun w h => name_w b at_ true x r.tg w h (fun _ => rfl) ⟨by omega, by have := hx.q; omega, hx.l⟩ hs (fun hf => by have := ha hf; omega)
  have HN2 : Hid (∀ w, Wr w b at_ true (nameW at_ (bs r.tg) x) → _) := fun w h => name_w b at_ true (nameW at_ (bs r.tg) x) r.tg w h (fun _ => rfl) ⟨by omega, by have := F1.q; omega, F1.l⟩ hs (fun hf => by have := ha (nameW_ok hf).1; omega)
  have e1 : soaW at_ r x = numW 60 4 (numW 600 4 (numW 60 4 (numW 60 4 (numW r.se 4 (nameW at_ (bs r.tg) (nameW at_ (bs r.tg) x)))))) := rfl
  rw [e1]
  clear e1
  generalize nameW at_ (bs r.tg) x = y1 at *
  generalize nameW at_ (bs r.tg) y1 = y2 at *
  have HS : Hid (∀ w, Wr w b at_ true y2 → _) := fun w h => number_4w b at_ y2 r.se w h hr (by have := F2.p; omega)
  have F3 := F2.num r.se 4
  generalize numW r.se 4 y2 = y3 at *
  have H1 : Hid (∀ w, Wr w b at_ true y3 → _) := fun w h => number_4w b at_ y3 60 w h ⟨by omega, by omega⟩ (by have := F3.p; omega)
  have F4 := F3.num 60 4
  generalize numW 60 4 y3 = y4 at *
  have H2 : Hid (∀ w, Wr w b at_ true y4 → _) := fun w h => number_4w b at_ y4 60 w h ⟨by omega, by omega⟩ (by have := F4.p; omega)
  have F5 := F4.num 60 4
  generalize numW 60 4 y4 = y5 at *
  have H3 : Hid (∀ w, Wr w b at_ true y5 → _) := fun w h => number_4w b at_ y5 600 w h ⟨by omega, by omega⟩ (by have := F5.p; omega)
  have F6 := F5.num 600 4
  generalize numW 600 4 y5 = y6 at *
  have H4 : Hid (∀ w, Wr w b at_ true y6 → _) := fun w h => number_4w b at_ y6 60 w h ⟨by omega, by omega⟩ (by have := F6.p; omega)
  generalize numW 60 4 y6 = y7 at *
  have HB : Hid (_) := (Below.refl w.heap.size w).alloc (Nat.le_refl _) (.cells #[.string r.n, .int .i64 r.ty, .int .i64 r.ttl, .int .i64 r.ad, .string r.tg, .string r.tx, .int .i64 r.se] 24)
  have W1 : Hid (_) := h.below HB.out
  have lt := h.lt
  have BX : Hid (Boxed (w.alloc (.cells #[.string r.n, .int .i64 r.ty, .int .i64 r.ttl, .int .i64 r.ad, .string r.tg, .string r.tx, .int .i64 r.se] 24)) w.heap.size r) := Boxed.new w r
  have hcell : Hid (∀ w', Boxed w' w.heap.size r → w'.cell? ⟨w.heap.size, 4, none⟩ = some (.string r.tg) ∧ w'.cell? ⟨w.heap.size, 6, none⟩ = some (.int .i64 r.se)) := fun w' h => ⟨h.cell 4, h.cell 6⟩
  have hink : Hid (∀ w' w'', Boxed w' w.heap.size r → Ink b w' w'' → Boxed w'' w.heap.size r) := fun w' w'' h1 h2 => h1.ink h2 (by omega)
  have L0 : Hid (Laid (w.alloc (.cells #[.string r.n, .int .i64 r.ty, .int .i64 r.ttl, .int .i64 r.ad, .string r.tg, .string r.tx, .int .i64 r.se] 24))) := hL.below HB.out
  have I0 : Hid (Ink b w (w.alloc (.cells #[.string r.n, .int .i64 r.ty, .int .i64 r.ttl, .int .i64 r.ad, .string r.tg, .string r.tx, .int .i64 r.se] 24))) := Ink.of_below HB.out lt
  obtain ⟨n, ty, ttl, ad, tg, tx, se⟩ := r
  simp only at ht
  subst ht
  simp only [rv] at *
  clear h F1 F2 F3 F4 F5 F6 hx hs ha hr hL hp hp1 HB
  have x0 := soa_at0
  have x1 := soa_at1
  have x2 := soa_at2
  have x3 := soa_at3
  go_enter Tryd.func25, Tryd.ntmps25
  go_wp2_with fail
  generalize w.alloc (.cells #[.string n, .int .i64 6, .int .i64 ttl, .int .i64 ad, .string tg, .string tx, .int .i64 se] 24) = w0 at *
  refine (HN1.out _ W1.out).mono ?_; rintro e w1 ⟨rfl, hW1, hI1⟩
  have B1 : Hid (_) := hink.out _ _ BX.out hI1
  obtain ⟨c4, c6⟩ := hcell.out _ B1.out
  have I1 : Hid (Ink b w0 w1) := hI1
  clear hI1
  go_wp2_with fail
  refine (HN2.out _ hW1).mono ?_; rintro e w2 ⟨rfl, hW2, hI2⟩
  have B2 : Hid (_) := hink.out _ _ B1.out hI2
  obtain ⟨d4, d6⟩ := hcell.out _ B2.out
  have I2 : Hid (Ink b w0 w2) := I1.out.trans hI2
  clear hI2 hW1 c4 c6 B1 I1
  go_wp2_with fail
  refine (HS.out _ hW2).mono ?_; rintro e w3 ⟨rfl, hW3, hI3⟩
  have I3 : Hid (Ink b w0 w3) := I2.out.trans hI3
  obtain ⟨l0, l1, l2, l3⟩ := L0.out.ink I3.out hb0
  clear hI3 hW2 d4 d6 B2 I2
  go_wp2_with fail
  refine wp_loop_rounds 5 ?_
  rw [rounds_succ]
  go_wp2_with fail
  refine (H1.out _ hW3).mono ?_; rintro e w4 ⟨rfl, hW4, hI4⟩
  clear l0 l1 l2 l3
  go_wp2_with fail
  rw [rounds_succ]
  go_wp2_with fail
  refine (H2.out _ hW4).mono ?_; rintro e w5 ⟨rfl, hW5, hI5⟩
  go_wp2_with fail
  rw [rounds_succ]
  go_wp2_with fail
  refine (H3.out _ hW5).mono ?_; rintro e w6 ⟨rfl, hW6, hI6⟩
  go_wp2_with fail
  rw [rounds_succ]
  go_wp2_with fail
  refine (H4.out _ hW6).mono ?_; rintro e w7 ⟨rfl, hW7, hI7⟩
  go_wp2_with fail
  rw [rounds_succ]
  go_wp2
  go_end0
  exact ⟨rfl, hW7, I0.out.trans (I3.out.trans (hI4.trans (hI5.trans (hI6.trans hI7))))⟩

theorem wdata_c (b : Nat) (at_ : Int) (x : Wt) (r : Rec) (w : World) (h : Wr w b at_ true x) (hx : Fine x 9000 1048560) (ha : x.rf = false → 0 ≤ at_ ∧ at_ ≤ 65535) (hm : mayR r = true) (hs : r.tg.size ≤ maxLen) (hL : Laid w) (hb0 : b ≠ 0) :
    Calls Tryd.prog 25 #[.pointer (some ⟨b, 0, none⟩), rv r] w fun e w' => e = .returned (.tuple #[]) ∧ Wr w' b at_ true (dataW at_ r x) ∧ Ink b w w' := by
  have hp := hx.p
  simp only [mayR, upB, Bool.and_eq_true, decide_eq_true_eq] at hm
  obtain ⟨⟨⟨⟨⟨⟨⟨ht, _⟩, _⟩, _⟩, had⟩, _⟩, hse⟩, htx⟩ := hm
  unfold dataW
  by_cases h1 : r.ty = 1
  · rw [if_pos h1]; exact wdata_1 b at_ x r w h (by omega) h1 ⟨by omega, by omega⟩
  · rw [if_neg h1]
    by_cases h2 : isN r.ty = true
    · rw [if_pos h2]; exact wdata_n b at_ x r w h ⟨by omega, by have := hx.q; omega, hx.l⟩ hs (fun hf => by have := ha hf; omega) h2
    · rw [if_neg h2]
      by_cases h3 : r.ty = 6
      · rw [if_pos h3]; exact wdata_6 b at_ x r w h hx hs ha h3 ⟨by omega, by omega⟩ hL hb0
      · rw [if_neg h3]
        by_cases h4 : r.ty = 16
        · rw [if_pos h4]; exact wdata_16 b at_ x r w h (by omega) h4 htx
        · rw [if_neg h4]
          refine wdata_49 b at_ x r w h (by omega) ?_ htx
          simp only [typeB, isT, Bool.or_eq_true, decide_eq_true_eq] at ht
          rcases ht with ((h | h) | h) | h | h
          · exact absurd h h1
          · exact absurd h h2
          · exact absurd h h3
          · exact absurd h h4
          · exact h

end Go.Proofs.YtohlofobcadeoaaDoor
