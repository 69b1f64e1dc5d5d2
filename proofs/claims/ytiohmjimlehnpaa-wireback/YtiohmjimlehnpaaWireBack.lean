/-
  Proved here: pinfoldlaw3.WireBack answers true for every list of texts and every number (P3.1 to P3.3, T1: names one behind the other in a message come back, pointers and all; one that comes again is two bytes).
  Conditions: none but the row's own.
-/
import Derived.Test.YtiohmjimlehnpaaAwake3
import Derived.Test.YtiohmjimlehnpaaWireFacts
import Derived.OpenShut
import Derived.ShutString
import Derived.ChangeOld
import Derived.SizedLaws
import Derived.Deep.Strs
namespace Go.Proofs.Ytiohmjimlehnpaa.wireBack
open Go.ChangeShapes Go.WideShapes Go.ChangeAt Go.RowKit Go.Pin Go.PlainAid
open Go.ChangeMaps (open_string shut_string)

/-- What the walk is told of a slice of texts that came in: it is nil; or its first 'len' cells hold the texts S. -/
def IsTexts (w : World) (a : Option Addr) (len : Nat) (S : Nat → ByteArray) : Prop := (a = none ∧ len = 0) ∨ ∃ x, a = some x ∧ len ≤ maxLen ∧ ∀ i, i < len → w.cell? (x.add i) = some (.string (S i)) ∧ (S i).size ≤ maxLen


abbrev En := Nat × List UInt8
def enAt (es : List En) (i : Nat) : En := es.getD i (0, [])
/-- Where the i-th name ends. -/
def endOf (s : List UInt8) (es : List En) (i : Nat) : Nat := if i + 1 < es.length then (enAt es (i + 1)).1 else s.length
/-- The message so far, what is known, the names with their places. -/
structure Back (s : List UInt8) (ks : List Kn) (es : List En) : Prop where
  good : Go.Pin.Good s ks
  len : s.length ≤ 63 + 73 * es.length
  klen : ks.length ≤ 8 * es.length
  told : ∀ i, i < es.length → mayL (enAt es i).2 = true ∧ Go.Pin.Told s (labsL (enAt es i).2) (enAt es i).1 (enAt es i).1 (endOf s es i)
  known : ∀ i, i < es.length → (enAt es i).2 ≠ [] → (findK ks (enAt es i).2).isSome = true

theorem good_all {s : List UInt8} {ks : List Kn} (h : Go.Pin.Good s ks) : ks.all knownL = true := List.all_eq_true.2 fun k hk => (h k hk).1
theorem good_len {s : List UInt8} {ks : List Kn} (h : Go.Pin.Good s ks) : ∀ k ∈ ks, k.1.length ≤ maxLen := by
  intro k hk
  obtain ⟨_, hm, _, _⟩ := known_bounds (h k hk).1
  rw [← join_labs hm]
  have := join_len _ (fun x hx => labsL_ok (l := k.1) hx)
  have := labsL_len k.1
  unfold maxLen; omega
theorem putN_len (ks : List Kn) : ∀ (ls : List (List UInt8)) (at_ : Int), (putN ks at_ ls).length ≤ ls.length
  | [], _ => by simp [putN]
  | p :: r, at_ => by
    have := putN_len ks r (at_ + 1 + p.length)
    rw [putN]
    split
    · simp
    · rw [List.length_append]
      split <;> simp <;> omega
theorem enAt_old {es : List En} {e : En} {i : Nat} (h : i < es.length) : enAt (es ++ [e]) i = enAt es i := by
  unfold enAt; rw [List.getD_eq_getElem?_getD, List.getElem?_append_left h, ← List.getD_eq_getElem?_getD]
theorem enAt_new (es : List En) (e : En) : enAt (es ++ [e]) es.length = e := by
  unfold enAt; rw [List.getD_eq_getElem?_getD, List.getElem?_append_right (Nat.le_refl _)]; simp

theorem Back.next {s : List UInt8} {ks : List Kn} {es : List En} (h : Back s ks es) (h12 : es.length ≤ 12) {n : List UInt8} (hn : mayL n = true) :
    Back (s ++ putS ks (labsL n)) (ks ++ putN ks (s.length : Nat) (labsL n)) (es ++ [(s.length, n)]) := by
  have hok := fun x (hx : x ∈ labsL n) => labsL_ok hx
  have h8 := labsL_len n
  obtain ⟨hg, hl, hk, ht, hkn⟩ := h
  have hpl := putS_len ks (labsL n) hok
  have hpn := putN_len ks (labsL n) (s.length : Nat)
  have hpt := (put_told hg (labsL n) [] s.length hok h8 (Nat.le_refl _)).1
  have hpg := put_good hg (labsL n) [] hok h8
  simp only [List.append_nil] at hpt hpg
  refine ⟨?_, ?_, ?_, ?_, ?_⟩
  · intro k hk
    rcases List.mem_append.1 hk with hk | hk
    · exact hg.more _ k hk
    · exact hpg k hk
  · simp only [List.length_append, List.length_singleton]; omega
  · simp only [List.length_append, List.length_singleton]; omega
  · intro i hi
    simp only [List.length_append, List.length_singleton] at hi
    by_cases hlt : i < es.length
    · obtain ⟨t1, t2⟩ := ht i hlt
      rw [enAt_old hlt]
      refine ⟨t1, ?_⟩
      have e : endOf (s ++ putS ks (labsL n)) (es ++ [(s.length, n)]) i = endOf s es i := by
        unfold endOf
        simp only [List.length_append, List.length_singleton]
        rw [if_pos (by omega)]
        by_cases h2 : i + 1 < es.length
        · rw [if_pos h2, enAt_old h2]
        · rw [if_neg h2]
          have : i + 1 = es.length := by omega
          rw [this, enAt_new]
      rw [e]
      exact t2.more _
    · have : i = es.length := by omega
      subst this
      rw [enAt_new]
      refine ⟨hn, ?_⟩
      have e : endOf (s ++ putS ks (labsL n)) (es ++ [(s.length, n)]) es.length = (s ++ putS ks (labsL n)).length := by
        unfold endOf; rw [if_neg (by simp)]
      rw [e]
      exact hpt
  · intro i hi hne
    simp only [List.length_append, List.length_singleton] at hi
    by_cases hlt : i < es.length
    · rw [enAt_old hlt] at hne ⊢
      have := hkn i hlt hne
      rw [findK_append]
      cases hf : findK ks (enAt es i).2 with
      | some a => rfl
      | none => rw [hf] at this; cases this
    · have : i = es.length := by omega
      subst this
      rw [enAt_new] at hne ⊢
      have hls : labsL n ≠ [] := labsL_ne hn hne
      have := put_known ks (s.length : Nat) (labsL n) (by omega) hls
      rwa [join_labs hn] at this

/-- Has this name come before, among the first m? -/
def again (es : List En) (n : List UInt8) (m : Nat) : Bool := !decide (n = []) && (es.take m).any (fun e => decide (e.2 = n))
theorem again_succ {es : List En} {n : List UInt8} {m : Nat} (h : m < es.length) : again es n (m + 1) = (again es n m || (decide ((enAt es m).2 = n) && !decide (n = []))) := by
  unfold again enAt
  rw [List.take_add_one, List.getD_eq_getElem?_getD, List.getElem?_eq_getElem h]
  simp only [Option.toList, List.any_append, List.any_cons, List.any_nil, Bool.or_false, Option.getD]
  cases decide (n = []) <;> simp
/-- One that comes again is two bytes. -/
theorem again_two {s : List UInt8} {ks : List Kn} {es : List En} (h : Back s ks es) {n : List UInt8} (hn : mayL n = true) (ha : again es n es.length = true) : n ≠ [] ∧ (putS ks (labsL n)).length = 2 := by
  simp only [again, List.take_length, Bool.and_eq_true, Bool.not_eq_true', decide_eq_false_iff_not, List.any_eq_true, decide_eq_true_eq] at ha
  obtain ⟨hne, e, he, rfl⟩ := ha
  refine ⟨hne, ?_⟩
  obtain ⟨i, hi, rfl⟩ := List.getElem_of_mem he
  have e1 : enAt es i = es[i] := by unfold enAt; rw [List.getD_eq_getElem?_getD, List.getElem?_eq_getElem hi]; rfl
  have := h.known i hi (by rw [e1]; exact hne)
  rw [e1] at this
  cases hls : labsL es[i].2 with
  | nil => exact absurd hls (labsL_ne hn hne)
  | cons p r =>
    have hj : join (p :: r) = es[i].2 := by rw [← hls, join_labs hn]
    rw [putS, hj]
    cases hf : findK ks es[i].2 with
    | some a => rfl
    | none => rw [hf] at this; cases this

/-! ### rows in memory -/
theorem Try.infoInt : (Try.prog.info? 3).map (fun i => (i.zero, i.size, i.bytes)) = some (some (.int .i64 0), 1, 8) := by kernel_rfl
/-- A list of numbers that the call made. -/
def Nums (w : World) (base : Nat) (v : Value) (ns : List Nat) : Prop := w.ownsRow base 3 1 v ns.length (ns.map fun n : Nat => Value.int .i64 (n : Int))
theorem Nums.form {w : World} {base : Nat} {v : Value} {ns : List Nat} (h : Nums w base v ns) : ∃ a cap, v = .slice a ns.length cap ∧ ∀ j, j < ns.length → ∃ g, a = some ⟨g, 0, none⟩ ∧ w.cell? ⟨g, j, none⟩ = some (.int .i64 (ns.getD j 0 : Nat)) := by
  have hh := h
  obtain ⟨_, h | ⟨g, cap, cur, hv, hg, hb, hn, hm, hz, ht⟩⟩ := h
  · exact ⟨none, 0, by rw [h.1, h.2], fun j hj => by omega⟩
  · refine ⟨_, cap, hv, fun j hj => ⟨g, rfl, ?_⟩⟩
    subst hv
    have := World.ownsRow.cellAt hh j (by omega)
    rw [this]
    simp [List.getD, hj]
theorem Nums.below {w w' : World} {base : Nat} {v : Value} {ns : List Nat} (h : Nums w base v ns) (hb : Below w.heap.size w w') : Nums w' base v ns := by
  obtain ⟨h1, h2⟩ := h
  refine ⟨h1, ?_⟩
  rcases h2 with h2 | ⟨g, cap, cur, hv, hg, hh, r⟩
  · exact .inl h2
  · exact .inr ⟨g, cap, cur, hv, hg, (hb.block g (Array.getElem?_eq_some_iff.1 hh).1).trans hh, r⟩
theorem nums_snoc {w : World} {base : Nat} {v : Value} {ns : List Nat} {x : Nat} (h : w.ownsRow base 3 1 v (ns.length + 1) ((ns.map fun n : Nat => Value.int .i64 (n : Int)) ++ [.int .i64 x])) : Nums w base v (ns ++ [x]) := by
  unfold Nums; simpa using h
/-- Rows of two types lie apart. -/
theorem owns_apart {w : World} {b1 b2 : Nat} {e1 e2 : TypeId} {s1 s2 : Nat} {v1 v2 : Value} {n1 n2 : Nat} {xs1 xs2 : List Value} (h1 : w.ownsRow b1 e1 s1 v1 n1 xs1) (h2 : w.ownsRow b2 e2 s2 v2 n2 xs2) (hne : e1 ≠ e2) : v1.ownBlock = none ∨ v1.ownBlock ≠ v2.ownBlock := by
  rcases h1.2 with ⟨rfl, _⟩ | ⟨g, cap, cur, rfl, _, hg, _⟩
  · exact .inl rfl
  · right
    rcases h2.2 with ⟨rfl, _⟩ | ⟨g2, cap2, cur2, rfl, _, hg2, _⟩
    · simp [Value.ownBlock]
    · simp only [Value.ownBlock, ne_eq, Option.some.injEq]
      rintro rfl
      rw [hg] at hg2
      simp only [Option.some.injEq, Obj.cells.injEq] at hg2
      exact hne hg2.2.1
theorem kn_cap {w : World} {base : Nat} {a : Option Addr} {n c : Nat} {ks : List Kn} (h : Knowns w base (.slice a n c) ks) : n ≤ c := by
  obtain ⟨_, h | ⟨g, cap, cur, hv, hg, hb, hn, hm, hz, ht⟩⟩ := h
  · simp only [Value.slice.injEq] at h; omega
  · simp only [Value.slice.injEq] at hv; omega
theorem lies_prefix {w : World} {a : Option Addr} {ks ns : List Kn} (h : KnLies w a (ks ++ ns)) : KnLies w a ks := by
  rcases h with h | ⟨x, rfl, h⟩
  · exact .inl (List.append_eq_nil_iff.1 h).1
  · refine .inr ⟨x, rfl, fun j hj => ?_⟩
    have := h j (by simp; omega)
    have e : knAt (ks ++ ns) j = knAt ks j := by
      unfold knAt; rw [List.getD_eq_getElem?_getD, List.getElem?_append_left hj, ← List.getD_eq_getElem?_getD]
    rwa [e] at this

theorem low_c (z : Int) : ∃ k : Nat, bits .and .i64 z 63 = (k : Int) ∧ k < 64 := by
  have h := i64_mask 6 z (by omega)
  have h0 := Int.emod_nonneg z (b := 64) (by omega)
  have h1 := Int.emod_lt_of_pos z (b := 64) (by omega)
  refine ⟨(z % 64).toNat, ?_, by omega⟩
  rw [show (((z % 64).toNat : Nat) : Int) = z % 64 by omega]
  exact h
/-- string(make([]byte, n)). -/
theorem made (w : World) (n : Nat) (hn : n < 64) : ∃ (cs : Array Value) (s : List UInt8), s.length = n ∧ (Instr.makeSlice 39 (.int .i64 n) (.int .i64 n)).run Try.prog w = .ok (.slice (some ⟨w.heap.size, 0, none⟩) n n) (w.alloc (.cells cs 5)) ∧
    (convert 39 9 (.slice (some ⟨w.heap.size, 0, none⟩) n n)).run Try.prog (w.alloc (.cells cs 5)) = .ok (.string (mk s)) (w.alloc (.cells cs 5)) := by
  obtain ⟨i0, hi, hz0, hz1, hz2⟩ := info_parts Try.infoU8
  have hr := run_make (P := Try.prog) w 39 5 i0 (.int .u8 0) Try.underlying39 hi hz0 .i64 .i64 (n : Int) (n : Int) (by omega) (Int.le_refl _) (by rw [hz2]; omega) (by omega)
  rw [Int.toNat_natCast, hz1, Nat.mul_one] at hr
  refine ⟨_, bs (str (List.replicate n 0)), ?_, hr, ?_⟩
  · rw [length_bs, size_str]; simp
  · rw [mk_bs]
    refine conv_new w 39 9 5 5 n (List.replicate n 0) n _ (by simp) ?_ Try.underlying39 Try.underlying5 Try.underlying9
    apply Array.ext
    · simp [size_madeCells]
    · intro i h1 h2
      simp [madeCells, Value.cells, Nat.mod_one]

set_option maxHeartbeats 4000000 in
set_option maxRecDepth 100000 in
theorem walk_any (a : Option Addr) (len cap : Nat) (S : Nat → ByteArray) (a1 : Int) (w : World) (_hm : len ≤ maxLen) (hc : ∀ i, i < len → ∃ x, a = some x ∧ w.cell? (x.add i) = some (.string (S i)) ∧ (S i).size ≤ maxLen) :
    Calls Try.prog 4 #[.slice a len cap, .int .i64 a1] w fun e w' => e = .returned (.bool true) ∧ Below w.heap.size w w' := by
  unfold maxLen at _hm
  obtain ⟨n, hn, hn64⟩ := low_c a1
  have HC : Hid (∀ i, i < len → ∃ x, a = some x ∧ w.cell? (x.add i) = some (.string (S i)) ∧ (S i).size ≤ maxLen) := hc
  obtain ⟨i0, hi0, hz0, hz1, hz2⟩ := info_parts Try.infoInt
  obtain ⟨i1, hi1, hy0, hy1, hy2⟩ := info_parts Try.infoStr
  clear hc
  go_enter Try.func4, Try.ntmps4
  go_wp2_with fail
  refine (awake_yes _).mono ?_; rintro e x1 ⟨rfl, B⟩
  obtain ⟨cs, s0, hs0, hmk, hcv⟩ := made x1 n hn64
  go_wp2_with fail
  have B0 : Below w.heap.size w (x1.alloc (.cells cs 5)) := B.alloc B.size _
  have HB0 : Hid (Back s0 [] []) := ⟨fun k hk => (by cases hk), by simp; omega, by simp, fun i hi => by simp at hi, fun i hi => by simp at hi⟩
  clear hmk hcv B hn
  go_loopw [5, 6, 7, 8, 9] (fun s k p t i wr => ∃ (j : Nat) (sL : List UInt8) (ks : List Kn) (es : List En), j ≤ len ∧ j ≤ 12 ∧ es.length ≤ j ∧ i = .int .i64 j ∧ s = .string (mk sL) ∧ Hid (Knowns wr w.heap.size k ks) ∧ Hid (Nums wr w.heap.size p (es.map (·.1))) ∧ Hid (Texts wr w.heap.size t (es.map (·.2))) ∧ Below w.heap.size w wr ∧ Hid (Back sL ks es)) (fun _ _ _ _ i _ => 12 - (intOf i).toNat)
  case atStart => exact ⟨0, s0, [], [], Nat.zero_le _, by omega, by simp, rfl, rfl, World.ownsRow_nil _ _ _ _, World.ownsRow_nil _ _ _ _, World.ownsRow_nil _ _ _ _, B0, HB0⟩
  case round =>
    clear B0 HB0 hs0
    obtain ⟨j, sL, ks, es, hj, hj12, hes, rfl, rfl, hkn, hnu, hte, B, hback⟩ := hrel
    have hsl := hback.out.len
    have hsz := size_mk sL
    obtain ⟨ka, kc, rfl, hkl⟩ := hkn.out.lies
    obtain ⟨pa, pc, rfl, hpc⟩ := hnu.out.form
    obtain ⟨ta, tc, rfl, htl⟩ := hte.out.lies
    have hcl : (es.map (·.2)).length = es.length := by simp
    have hcl1 : (es.map (·.1)).length = es.length := by simp
    rw [hcl1] at hnu hpc
    rw [hcl] at hte
    rw [hcl1, hcl]
    clear hcl hcl1
    by_cases hlt : j < len ∧ j < 12
    · obtain ⟨hlt, hlt12⟩ := hlt
      obtain ⟨x, rfl, hcell, hSs⟩ := HC.out j hlt
      have hbw := World.block_lt_of_cell? w _ hcell
      have hcell2 := (B.cell hbw).trans hcell
      have Hcell : Hid (_) := hcell
      generalize S j = nm at *
      have hkall := good_all hback.out.good
      have hklen := good_len hback.out.good
      have hkl8 := hback.out.klen
      clear hcell hpc htl
      cases hmay : mayL (bs nm) with
      | false =>
        have HP := wput_no (sL.length : Nat) ka kc ks nm wr hSs (by omega) hklen hkl (by simp [mayPutL, hmay])
        clear hkl hkall hklen hmay
        go_wp2_with fail
        refine HP.mono ?_; rintro e w2 ⟨rfl, hb⟩
        have R1 : Hid (Knowns w2 w.heap.size (.slice ka ks.length kc) ks) := hkn.out.below hb
        have R2 : Hid (Nums w2 w.heap.size (.slice pa es.length pc) (es.map (·.1))) := hnu.out.below hb
        have R3 : Hid (Texts w2 w.heap.size (.slice ta es.length tc) (es.map (·.2))) := hte.out.below hb
        replace B := bel_trans B hb
        clear hb hcell2 HP hkn hnu hte
        go_wp2_with (go_at_call 16; refine (num_any _ _).mono ?_; rintro e w4 ⟨rfl, rfl⟩)
        go_roundw
        case rel => exact ⟨j + 1, sL, ks, es, by omega, by omega, by omega, by go_num, rfl, R1, R2, R3, B, hback⟩
        case measure => simp [intOf]; omega
      | true =>
        have HP := wput_is (sL.length : Nat) ka ks.length kc ks _ nm (mk (putS ks (labsL (bs nm)))) wr rfl hSs (by omega) hklen hkl (by simp [mayPutL, hmay, hkall]; omega) rfl rfl
        have Hnext : Hid (Back (sL ++ putS ks (labsL (bs nm))) (ks ++ putN ks (sL.length : Nat) (labsL (bs nm))) (es ++ [(sL.length, bs nm)])) := hback.out.next (by omega) hmay
        have Htwo : Hid (again es (bs nm) es.length = true → bs nm ≠ [] ∧ (putS ks (labsL (bs nm))).length = 2) := again_two hback.out hmay
        have Hroot : Hid (bs nm = [] → putS ks (labsL (bs nm)) = [0]) := by intro h; rw [h]; rfl
        have htl1 := putS_len ks (labsL (bs nm)) (fun x hx => labsL_ok hx)
        have htl2 := labsL_len (bs nm)
        generalize putS ks (labsL (bs nm)) = tL at *
        generalize putN ks (sL.length : Nat) (labsL (bs nm)) = ns at *
        have hts := size_mk tL
        clear hkl hkall hklen hmay
        go_wp2_with fail
        refine HP.mono ?_; rintro e w2 ⟨⟨v2, rfl, hk2⟩, hb⟩
        obtain ⟨oa, oc, rfl, hol⟩ := hk2.lies
        have R0 : Hid (Knowns w2 w.heap.size (.slice oa (ks ++ ns).length oc) (ks ++ ns)) := hk2.base B.size
        have R1 : Hid (Knowns w2 w.heap.size (.slice ka ks.length kc) ks) := hkn.out.below hb
        have R2 : Hid (Nums w2 w.heap.size (.slice pa es.length pc) (es.map (·.1))) := hnu.out.below hb
        have R3 : Hid (Texts w2 w.heap.size (.slice ta es.length tc) (es.map (·.2))) := hte.out.below hb
        have hcell3 := (hb.cell (World.block_lt_of_cell? wr _ hcell2)).trans hcell2
        replace B := bel_trans B hb
        clear hb hcell2 HP hkn hnu hte hk2
        go_wp2_with (go_at_call 16; refine (num_any _ _).mono ?_; rintro e w4 ⟨rfl, rfl⟩)
        have htl4 : Hid (∃ ta' tc', (.slice ta es.length tc : Value) = .slice ta' es.length tc' ∧ Lies w4 ta' (es.map (·.2))) := by
          obtain ⟨a', c', h1, h2⟩ := R3.out.lies
          exact ⟨a', c', by simpa using h1, h2⟩
        go_loopw [13, 14] (fun b i wi => ∃ m : Nat, m ≤ es.length ∧ i = .int .i64 m ∧ b = .bool (again es (bs nm) m) ∧ Below w4.heap.size w4 wi) (fun _ i _ => es.length - (intOf i).toNat)
        case atStart => exact ⟨0, Nat.zero_le _, rfl, by unfold again; simp, Below.refl _ _⟩
        case round =>
          obtain ⟨m, hm, rfl, rfl, Bi⟩ := hrel
          by_cases hmlt : m < es.length
          · have Hs : Hid (_) := again_succ (n := bs nm) hmlt
            obtain ⟨ta', tc', he', hlies⟩ := htl4.out
            have hcellA := (Bi.cell (World.block_lt_of_cell? w4 _ hcell3)).trans hcell3
            rcases hlies with hnil | ⟨g, o, hta, hlies⟩
            · simp at hnil; subst hnil; simp at hmlt
            · have hta' : ta = some ⟨g, o, none⟩ := by simp only [Value.slice.injEq] at he'; rw [he'.1, hta]
              have hcm := hlies m (by simpa using hmlt)
              have e1 : (es.map (·.2)).getD m [] = (enAt es m).2 := by
                unfold enAt
                simp only [List.getD_eq_getElem?_getD, List.getElem?_map, List.getElem?_eq_getElem hmlt]; rfl
              rw [e1] at hcm
              have hcmi := (Bi.cell (World.block_lt_of_cell? w4 _ hcm)).trans hcm
              subst hta'
              clear he' hta hlies hcm e1
              have hltj : (j : Int) < (len : Int) := by omega
              have hltm : (m : Int) < (es.length : Int) := by omega
              cases hag : again es (bs nm) m with
              | true =>
                rw [hag] at Hs
                go_wp2_with fail
                go_quiet (fail)
                go_wp2
                exact ⟨⟨m + 1, by omega, by go_num, by rw [Hs.out]; rfl, below_drewN Bi _⟩, by simp [intOf]; omega⟩
              | false =>
                rw [hag] at Hs
                by_cases heq : (enAt es m).2 = bs nm
                · have h1 : ((mk (enAt es m).2).toList == nm.toList) = true := eq_yes (by rw [heq, mk_bs])
                  by_cases hem : bs nm = []
                  · have h2 : nm.toList.isEmpty = true := empty_yes (by rw [← length_bs, hem]; rfl)
                    have Hr : Hid (again es (bs nm) (m + 1) = false) := by rw [Hs.out, heq, hem]; rfl
                    clear heq hem hag Hs
                    go_wp2_with fail
                    go_quiet (fail)
                    go_wp2
                    exact ⟨⟨m + 1, by omega, by go_num, by rw [Hr.out], below_drewN Bi _⟩, by simp [intOf]; omega⟩
                  · have h2 : nm.toList.isEmpty = false := empty_no (by rw [← length_bs]; intro e; exact hem (List.eq_nil_of_length_eq_zero e))
                    have Hr : Hid (again es (bs nm) (m + 1) = true) := by unfold Hid; rw [Hs.out, heq]; simp [hem]
                    clear heq hem hag Hs
                    go_wp2_with fail
                    go_quiet (fail)
                    go_wp2
                    exact ⟨⟨m + 1, by omega, by go_num, by rw [Hr.out], below_drewN Bi _⟩, by simp [intOf]; omega⟩
                · have h1 : ((mk (enAt es m).2).toList == nm.toList) = false := eq_no (by intro e; apply heq; rw [← e, bs_mk])
                  have Hr : Hid (again es (bs nm) (m + 1) = false) := by unfold Hid; rw [Hs.out]; simp [heq]
                  clear heq hag Hs
                  go_wp2_with fail
                  go_quiet (fail)
                  go_wp2
                  exact ⟨⟨m + 1, by omega, by go_num, by rw [Hr.out], below_drewN Bi _⟩, by simp [intOf]; omega⟩
          · obtain rfl : m = es.length := by omega
            have hcap : (ks ++ ns).length ≤ oc := kn_cap R0.out
            have hkl0 : ks.length ≤ (ks ++ ns).length := by simp
            have HSame : Hid (∀ w', Below w4.heap.size w4 w' → Calls Try.prog 15 #[.slice oa ks.length oc, .slice ka ks.length kc] w' fun e w'' => e = .returned (.bool true) ∧ Below w'.heap.size w' w'') := by
              intro w' hb'
              obtain ⟨a', c', h1, h2⟩ := R1.out.lies
              simp only [Value.slice.injEq] at h1
              obtain ⟨rfl, _, rfl⟩ := h1
              obtain ⟨a'', c'', h3, h4⟩ := R0.out.lies
              simp only [Value.slice.injEq] at h3
              obtain ⟨rfl, _, rfl⟩ := h3
              exact sameKn_c _ _ _ _ _ _ ks w' rfl rfl (by omega) ((lies_prefix h4).below hb') (h2.below hb')
            have hcellA := (Bi.cell (World.block_lt_of_cell? w4 _ hcell3)).trans hcell3
            generalize hol' : (ks ++ ns).length = ol at *
            have Hol : Hid (_) := hol'
            have hlt0 : decide ((ol : Int) < (ks.length : Int)) = false := by simp; omega
            have hltj : (j : Int) < (len : Int) := by omega
            clear hol htl4 hol'
            cases hag : again es (bs nm) es.length with
            | true =>
              obtain ⟨hne, h2⟩ := Htwo.out hag
              have hem : nm.toList.isEmpty = false := empty_no (by rw [← length_bs]; intro e; exact hne (List.eq_nil_of_length_eq_zero e))
              rw [h2] at hts
              clear hne h2 hag
              go_wp2_with fail
              refine (HSame.out _ Bi).mono ?_; rintro e w5 ⟨rfl, hb5⟩
              replace hb5 := bel_trans Bi hb5
              have B5 : Below w.heap.size w w5 := bel_trans B hb5
              have S0 : Hid (Knowns w5 w.heap.size (.slice oa (ks.length + ns.length) oc) (ks ++ ns)) := by have := R0.out.below hb5; rwa [← Hol.out, List.length_append] at this
              have S2 : Hid (w5.ownsRow w.heap.size 3 1 (.slice pa es.length pc) es.length ((es.map (·.1)).map fun n : Nat => Value.int .i64 (n : Int))) := by have := R2.out.below hb5; unfold Nums at this; rwa [List.length_map] at this
              have S3 : Hid (w5.ownsRow w.heap.size 9 1 (.slice ta es.length tc) es.length ((es.map (·.2)).map fun l => .string (mk l))) := by have := R3.out.below hb5; unfold Texts at this; rwa [List.length_map] at this
              have hcell5 := (B5.cell hbw).trans Hcell.out
              clear hb5 HSame hcellA R0 R1 R2 R3 Htwo Hroot
              go_wp2_with (first
                | (at_builtin; refine wpList_append_own _ rfl _ _ 40 rfl w.heap.size 3 i0 (.int .i64 0) 1 8 Try.underlying40 hi0 hz0 hz1 hz2 rfl (by decide) _ es.length _ rfl (World.ownsRow.alloc S2.out _) ⟨w5.heap.size, 0, none⟩ 1 1 [.int .i64 sL.length] rfl rfl ?c1 ?c2 ?c3 ?c4 ?c5 ?_)
                | go_in)
              case c1 =>
                intro j u hj
                match j, hj with
                | 0, hj => simp at hj; subst hj; simp [Addr.add]
              case c2 => intro u hu; simp at hu; subst hu; rfl
              case c3 => unfold maxLen; omega
              case c4 => omega
              case c5 => simp; have := B5.size; omega
              intro v6 w6 hown6 hgrow6 _
              have B6 : Below w.heap.size w w6 := (B5.alloc B5.size _).grown hgrow6 (by simp; have := B5.size; omega) (fun k hk => (World.ownsRow.lt S2.out k hk).1)
              have U0 : Hid (Knowns w6 w.heap.size (.slice oa (ks.length + ns.length) oc) (ks ++ ns)) := World.ownsRow.kept (World.ownsRow.alloc S0.out _) hgrow6 (owns_apart S0.out S2.out (by decide))
              have U3 : Hid (w6.ownsRow w.heap.size 9 1 (.slice ta es.length tc) es.length ((es.map (·.2)).map fun l => .string (mk l))) := World.ownsRow.kept (World.ownsRow.alloc S3.out _) hgrow6 (owns_apart S3.out S2.out (by decide))
              have U2 : Hid (w6.ownsRow w.heap.size 3 1 v6 (es.length + 1) (((es.map (·.1)).map fun n : Nat => Value.int .i64 (n : Int)) ++ [.int .i64 sL.length])) := by unfold Hid; rw [List.map_map]; exact hown6
              have hcell6 := (B6.cell hbw).trans Hcell.out
              clear hown6 hgrow6 S0 S2 S3 hcell5 B5
              go_wp2_with (first
                | (at_builtin; refine wpList_append_own _ rfl _ _ 38 rfl w.heap.size 9 i1 (.string ByteArray.empty) 1 16 Try.underlying38 hi1 hy0 hy1 hy2 rfl (by decide) _ es.length _ rfl (World.ownsRow.alloc U3.out _) ⟨w6.heap.size, 0, none⟩ 1 1 [.string nm] rfl rfl ?d1 ?d2 ?d3 ?d4 ?d5 ?_)
                | go_in)
              case d1 =>
                intro j u hj
                match j, hj with
                | 0, hj => simp at hj; subst hj; simp [Addr.add]
              case d2 => intro u hu; simp at hu; subst hu; rfl
              case d3 => unfold maxLen; omega
              case d4 => omega
              case d5 => simp; have := B6.size; omega
              intro v7 w7 hown7 hgrow7 _
              have B7 : Below w.heap.size w w7 := (B6.alloc B6.size _).grown hgrow7 (by simp; have := B6.size; omega) (fun k hk => (World.ownsRow.lt U3.out k hk).1)
              have Z0 : Hid (Knowns w7 w.heap.size (.slice oa (ks.length + ns.length) oc) (ks ++ ns)) := World.ownsRow.kept (World.ownsRow.alloc U0.out _) hgrow7 (owns_apart U0.out U3.out (by decide))
              have Z2 : Hid (Nums w7 w.heap.size v6 ((es ++ [(sL.length, bs nm)]).map (·.1))) := by
                show w7.ownsRow _ _ _ _ _ _
                have := World.ownsRow.kept (World.ownsRow.alloc U2.out _) hgrow7 (owns_apart U2.out U3.out (by decide))
                simpa using this
              have Z3 : Hid (Texts w7 w.heap.size v7 ((es ++ [(sL.length, bs nm)]).map (·.2))) := by
                show w7.ownsRow _ _ _ _ _ _
                simpa [mk_bs] using hown7
              clear hown7 hgrow7 U0 U2 U3 hcell6 B6
              go_wp2
              refine ⟨⟨j + 1, sL ++ tL, ks ++ ns, es ++ [(sL.length, bs nm)], by omega, by omega, by simp; omega, by go_num, ?_, Z0, Z2, Z3, B7, Hnext⟩, by simp [intOf]; omega⟩
              rw [mk_append]
            | false =>
              clear hag
              by_cases hem0 : bs nm = []
              · have hem : nm.toList.isEmpty = true := empty_yes (by rw [← length_bs, hem0]; rfl)
                have ht0 : (mk tL).toList = [0] := by rw [Hroot.out hem0]; exact toList_mk _
                clear hem0
                go_wp2_with fail
                refine (HSame.out _ Bi).mono ?_; rintro e w5 ⟨rfl, hb5⟩
                replace hb5 := bel_trans Bi hb5
                have B5 : Below w.heap.size w w5 := bel_trans B hb5
                have S0 : Hid (Knowns w5 w.heap.size (.slice oa (ks.length + ns.length) oc) (ks ++ ns)) := by have := R0.out.below hb5; rwa [← Hol.out, List.length_append] at this
                have S2 : Hid (w5.ownsRow w.heap.size 3 1 (.slice pa es.length pc) es.length ((es.map (·.1)).map fun n : Nat => Value.int .i64 (n : Int))) := by have := R2.out.below hb5; unfold Nums at this; rwa [List.length_map] at this
                have S3 : Hid (w5.ownsRow w.heap.size 9 1 (.slice ta es.length tc) es.length ((es.map (·.2)).map fun l => .string (mk l))) := by have := R3.out.below hb5; unfold Texts at this; rwa [List.length_map] at this
                have hcell5 := (B5.cell hbw).trans Hcell.out
                clear hb5 HSame hcellA R0 R1 R2 R3 Htwo Hroot
                go_wp2_with (first
                  | (at_builtin; refine wpList_append_own _ rfl _ _ 40 rfl w.heap.size 3 i0 (.int .i64 0) 1 8 Try.underlying40 hi0 hz0 hz1 hz2 rfl (by decide) _ es.length _ rfl (World.ownsRow.alloc S2.out _) ⟨w5.heap.size, 0, none⟩ 1 1 [.int .i64 sL.length] rfl rfl ?c1 ?c2 ?c3 ?c4 ?c5 ?_)
                  | go_in)
                case c1 =>
                  intro j u hj
                  match j, hj with
                  | 0, hj => simp at hj; subst hj; simp [Addr.add]
                case c2 => intro u hu; simp at hu; subst hu; rfl
                case c3 => unfold maxLen; omega
                case c4 => omega
                case c5 => simp; have := B5.size; omega
                intro v6 w6 hown6 hgrow6 _
                have B6 : Below w.heap.size w w6 := (B5.alloc B5.size _).grown hgrow6 (by simp; have := B5.size; omega) (fun k hk => (World.ownsRow.lt S2.out k hk).1)
                have U0 : Hid (Knowns w6 w.heap.size (.slice oa (ks.length + ns.length) oc) (ks ++ ns)) := World.ownsRow.kept (World.ownsRow.alloc S0.out _) hgrow6 (owns_apart S0.out S2.out (by decide))
                have U3 : Hid (w6.ownsRow w.heap.size 9 1 (.slice ta es.length tc) es.length ((es.map (·.2)).map fun l => .string (mk l))) := World.ownsRow.kept (World.ownsRow.alloc S3.out _) hgrow6 (owns_apart S3.out S2.out (by decide))
                have U2 : Hid (w6.ownsRow w.heap.size 3 1 v6 (es.length + 1) (((es.map (·.1)).map fun n : Nat => Value.int .i64 (n : Int)) ++ [.int .i64 sL.length])) := by unfold Hid; rw [List.map_map]; exact hown6
                have hcell6 := (B6.cell hbw).trans Hcell.out
                clear hown6 hgrow6 S0 S2 S3 hcell5 B5
                go_wp2_with (first
                  | (at_builtin; refine wpList_append_own _ rfl _ _ 38 rfl w.heap.size 9 i1 (.string ByteArray.empty) 1 16 Try.underlying38 hi1 hy0 hy1 hy2 rfl (by decide) _ es.length _ rfl (World.ownsRow.alloc U3.out _) ⟨w6.heap.size, 0, none⟩ 1 1 [.string nm] rfl rfl ?d1 ?d2 ?d3 ?d4 ?d5 ?_)
                  | go_in)
                case d1 =>
                  intro j u hj
                  match j, hj with
                  | 0, hj => simp at hj; subst hj; simp [Addr.add]
                case d2 => intro u hu; simp at hu; subst hu; rfl
                case d3 => unfold maxLen; omega
                case d4 => omega
                case d5 => simp; have := B6.size; omega
                intro v7 w7 hown7 hgrow7 _
                have B7 : Below w.heap.size w w7 := (B6.alloc B6.size _).grown hgrow7 (by simp; have := B6.size; omega) (fun k hk => (World.ownsRow.lt U3.out k hk).1)
                have Z0 : Hid (Knowns w7 w.heap.size (.slice oa (ks.length + ns.length) oc) (ks ++ ns)) := World.ownsRow.kept (World.ownsRow.alloc U0.out _) hgrow7 (owns_apart U0.out U3.out (by decide))
                have Z2 : Hid (Nums w7 w.heap.size v6 ((es ++ [(sL.length, bs nm)]).map (·.1))) := by
                  show w7.ownsRow _ _ _ _ _ _
                  have := World.ownsRow.kept (World.ownsRow.alloc U2.out _) hgrow7 (owns_apart U2.out U3.out (by decide))
                  simpa using this
                have Z3 : Hid (Texts w7 w.heap.size v7 ((es ++ [(sL.length, bs nm)]).map (·.2))) := by
                  show w7.ownsRow _ _ _ _ _ _
                  simpa [mk_bs] using hown7
                clear hown7 hgrow7 U0 U2 U3 hcell6 B6
                go_wp2
                refine ⟨⟨j + 1, sL ++ tL, ks ++ ns, es ++ [(sL.length, bs nm)], by omega, by omega, by simp; omega, by go_num, ?_, Z0, Z2, Z3, B7, Hnext⟩, by simp [intOf]; omega⟩
                rw [mk_append]
              · have hem : nm.toList.isEmpty = false := empty_no (by rw [← length_bs]; intro e; exact hem0 (List.eq_nil_of_length_eq_zero e))
                clear hem0
                go_wp2_with fail
                refine (HSame.out _ Bi).mono ?_; rintro e w5 ⟨rfl, hb5⟩
                replace hb5 := bel_trans Bi hb5
                have B5 : Below w.heap.size w w5 := bel_trans B hb5
                have S0 : Hid (Knowns w5 w.heap.size (.slice oa (ks.length + ns.length) oc) (ks ++ ns)) := by have := R0.out.below hb5; rwa [← Hol.out, List.length_append] at this
                have S2 : Hid (w5.ownsRow w.heap.size 3 1 (.slice pa es.length pc) es.length ((es.map (·.1)).map fun n : Nat => Value.int .i64 (n : Int))) := by have := R2.out.below hb5; unfold Nums at this; rwa [List.length_map] at this
                have S3 : Hid (w5.ownsRow w.heap.size 9 1 (.slice ta es.length tc) es.length ((es.map (·.2)).map fun l => .string (mk l))) := by have := R3.out.below hb5; unfold Texts at this; rwa [List.length_map] at this
                have hcell5 := (B5.cell hbw).trans Hcell.out
                clear hb5 HSame hcellA R0 R1 R2 R3 Htwo Hroot
                go_wp2_with (first
                  | (at_builtin; refine wpList_append_own _ rfl _ _ 40 rfl w.heap.size 3 i0 (.int .i64 0) 1 8 Try.underlying40 hi0 hz0 hz1 hz2 rfl (by decide) _ es.length _ rfl (World.ownsRow.alloc S2.out _) ⟨w5.heap.size, 0, none⟩ 1 1 [.int .i64 sL.length] rfl rfl ?c1 ?c2 ?c3 ?c4 ?c5 ?_)
                  | go_in)
                case c1 =>
                  intro j u hj
                  match j, hj with
                  | 0, hj => simp at hj; subst hj; simp [Addr.add]
                case c2 => intro u hu; simp at hu; subst hu; rfl
                case c3 => unfold maxLen; omega
                case c4 => omega
                case c5 => simp; have := B5.size; omega
                intro v6 w6 hown6 hgrow6 _
                have B6 : Below w.heap.size w w6 := (B5.alloc B5.size _).grown hgrow6 (by simp; have := B5.size; omega) (fun k hk => (World.ownsRow.lt S2.out k hk).1)
                have U0 : Hid (Knowns w6 w.heap.size (.slice oa (ks.length + ns.length) oc) (ks ++ ns)) := World.ownsRow.kept (World.ownsRow.alloc S0.out _) hgrow6 (owns_apart S0.out S2.out (by decide))
                have U3 : Hid (w6.ownsRow w.heap.size 9 1 (.slice ta es.length tc) es.length ((es.map (·.2)).map fun l => .string (mk l))) := World.ownsRow.kept (World.ownsRow.alloc S3.out _) hgrow6 (owns_apart S3.out S2.out (by decide))
                have U2 : Hid (w6.ownsRow w.heap.size 3 1 v6 (es.length + 1) (((es.map (·.1)).map fun n : Nat => Value.int .i64 (n : Int)) ++ [.int .i64 sL.length])) := by unfold Hid; rw [List.map_map]; exact hown6
                have hcell6 := (B6.cell hbw).trans Hcell.out
                clear hown6 hgrow6 S0 S2 S3 hcell5 B5
                go_wp2_with (first
                  | (at_builtin; refine wpList_append_own _ rfl _ _ 38 rfl w.heap.size 9 i1 (.string ByteArray.empty) 1 16 Try.underlying38 hi1 hy0 hy1 hy2 rfl (by decide) _ es.length _ rfl (World.ownsRow.alloc U3.out _) ⟨w6.heap.size, 0, none⟩ 1 1 [.string nm] rfl rfl ?d1 ?d2 ?d3 ?d4 ?d5 ?_)
                  | go_in)
                case d1 =>
                  intro j u hj
                  match j, hj with
                  | 0, hj => simp at hj; subst hj; simp [Addr.add]
                case d2 => intro u hu; simp at hu; subst hu; rfl
                case d3 => unfold maxLen; omega
                case d4 => omega
                case d5 => simp; have := B6.size; omega
                intro v7 w7 hown7 hgrow7 _
                have B7 : Below w.heap.size w w7 := (B6.alloc B6.size _).grown hgrow7 (by simp; have := B6.size; omega) (fun k hk => (World.ownsRow.lt U3.out k hk).1)
                have Z0 : Hid (Knowns w7 w.heap.size (.slice oa (ks.length + ns.length) oc) (ks ++ ns)) := World.ownsRow.kept (World.ownsRow.alloc U0.out _) hgrow7 (owns_apart U0.out U3.out (by decide))
                have Z2 : Hid (Nums w7 w.heap.size v6 ((es ++ [(sL.length, bs nm)]).map (·.1))) := by
                  show w7.ownsRow _ _ _ _ _ _
                  have := World.ownsRow.kept (World.ownsRow.alloc U2.out _) hgrow7 (owns_apart U2.out U3.out (by decide))
                  simpa using this
                have Z3 : Hid (Texts w7 w.heap.size v7 ((es ++ [(sL.length, bs nm)]).map (·.2))) := by
                  show w7.ownsRow _ _ _ _ _ _
                  simpa [mk_bs] using hown7
                clear hown7 hgrow7 U0 U2 U3 hcell6 B6
                go_wp2
                refine ⟨⟨j + 1, sL ++ tL, ks ++ ns, es ++ [(sL.length, bs nm)], by omega, by omega, by simp; omega, by go_num, ?_, Z0, Z2, Z3, B7, Hnext⟩, by simp [intOf]; omega⟩
                rw [mk_append]
    · obtain ⟨wo, hwo⟩ : ∃ wo, wo = wr := ⟨wr, rfl⟩
      subst hwo
      have hfin : j < len ∧ 12 ≤ j ∨ len ≤ j := by omega
      have hpcm : ∀ m, m < es.length → ∃ g, pa = some ⟨g, 0, none⟩ ∧ wo.cell? ⟨g, m, none⟩ = some (.int .i64 ((enAt es m).1 : Nat)) := by
        intro m hmlt
        obtain ⟨g, h1, h2⟩ := hpc m hmlt
        refine ⟨g, h1, ?_⟩
        rw [h2]
        unfold enAt
        simp only [List.getD_eq_getElem?_getD, List.getElem?_map, List.getElem?_eq_getElem hmlt]; rfl
      have htcm : ∀ m, m < es.length → ∃ g o, ta = some ⟨g, o, none⟩ ∧ wo.cell? ⟨g, o + m, none⟩ = some (.string (mk (enAt es m).2)) := by
        intro m hmlt
        rcases htl with hnil | ⟨g, o, h1, h2⟩
        · simp at hnil; subst hnil; simp at hmlt
        · refine ⟨g, o, h1, ?_⟩
          rw [h2 m (by simpa using hmlt)]
          unfold enAt
          simp only [List.getD_eq_getElem?_getD, List.getElem?_map, List.getElem?_eq_getElem hmlt]; rfl
      clear hkl hpc htl HC hlt
      rcases hfin with ⟨h1, h2⟩ | h1
      · go_wp2_with fail
        go_loopw [15] (fun i wi => ∃ m : Nat, m ≤ es.length ∧ i = .int .i64 m ∧ Below wo.heap.size wo wi) (fun i _ => es.length - (intOf i).toNat)
        case atStart => exact ⟨0, Nat.zero_le _, rfl, Below.refl _ _⟩
        case round =>
          obtain ⟨m, hm, rfl, Bi⟩ := hrel
          by_cases hmlt : m < es.length
          · obtain ⟨hmay, htold⟩ := hback.out.told m hmlt
            have hg := get_told htold (fun x hx => labsL_ok hx) (labsL_len _)
            rw [join_labs hmay] at hg
            obtain ⟨pg, hpa, hpcell⟩ := hpcm m hmlt
            obtain ⟨tg, tof, hta, htcell⟩ := htcm m hmlt
            have hp1 : ∀ k, k < es.length → wo.cell? ⟨pg, k, none⟩ = some (.int .i64 ((enAt es k).1 : Nat)) := fun k hk => by
              obtain ⟨pg', hpa', hc'⟩ := hpcm k hk
              rw [hpa] at hpa'
              cases hpa'
              exact hc'
            have Hend : Hid (endOf sL es m = if m + 1 < es.length then (enAt es (m + 1)).1 else sL.length) := rfl
            have hpm := hp1 m hmlt
            have hpmi := (Bi.cell (World.block_lt_of_cell? wo _ hpm)).trans hpm
            have htmi := (Bi.cell (World.block_lt_of_cell? wo _ htcell)).trans htcell
            have hlt1 := World.block_lt_of_cell? _ _ hpmi
            have hlt2 := World.block_lt_of_cell? _ _ htmi
            subst hpa hta
            have G : Hid (∀ w, _) := fun w => get_is (mk sL) ((enAt es m).1 : Nat) (mk (enAt es m).2) (endOf sL es m : Nat) 0 w (by omega) (by rw [bs_mk, bs_mk, getI, if_neg (by omega), Int.toNat_natCast]; exact hg)
            have Hpn : Hid (m + 1 < es.length → wo.cell? ⟨pg, m + 1, none⟩ = some (.int .i64 ((enAt es (m + 1)).1 : Nat))) := fun h => hp1 (m + 1) h
            have hmI : (m : Int) < (es.length : Int) := by omega
            clear hp1 hpm hpcell htcell hmay htold hg
            go_wp2_with fail
            refine (G.out _).mono ?_; rintro e w5 ⟨rfl, hb5⟩
            have t5 := (hb5.cell hlt2).trans htmi
            have B5 := bel_trans Bi hb5
            clear hpmi htmi
            by_cases hm1 : m + 1 < es.length
            · have hp5 := (B5.cell (World.block_lt_of_cell? wo _ (Hpn.out hm1))).trans (Hpn.out hm1)
              have hE : endOf sL es m = (enAt es (m + 1)).1 := by rw [Hend.out, if_pos hm1]
              rw [hE]
              have hm1I : ((m : Int) + 1) < (es.length : Int) := by omega
              clear hE hb5
              go_wp2_with (go_at_call 16; refine (num_any _ _).mono ?_; rintro e w6 ⟨rfl, rfl⟩)
              exact ⟨⟨m + 1, by omega, by go_num, B5⟩, by simp [intOf]; omega⟩
            · have hE : endOf sL es m = sL.length := by rw [Hend.out, if_neg hm1]
              rw [hE]
              clear hE hb5
              go_wp2_with (go_at_call 16; refine (num_any _ _).mono ?_; rintro e w6 ⟨rfl, rfl⟩)
              exact ⟨⟨m + 1, by omega, by go_num, B5⟩, by simp [intOf]; omega⟩
          · obtain rfl : m = es.length := by omega
            go_wp2
            go_ret
            exact ⟨rfl, B.trans (Bi.mono B.size)⟩
      · go_wp2_with fail
        go_loopw [15] (fun i wi => ∃ m : Nat, m ≤ es.length ∧ i = .int .i64 m ∧ Below wo.heap.size wo wi) (fun i _ => es.length - (intOf i).toNat)
        case atStart => exact ⟨0, Nat.zero_le _, rfl, Below.refl _ _⟩
        case round =>
          obtain ⟨m, hm, rfl, Bi⟩ := hrel
          by_cases hmlt : m < es.length
          · obtain ⟨hmay, htold⟩ := hback.out.told m hmlt
            have hg := get_told htold (fun x hx => labsL_ok hx) (labsL_len _)
            rw [join_labs hmay] at hg
            obtain ⟨pg, hpa, hpcell⟩ := hpcm m hmlt
            obtain ⟨tg, tof, hta, htcell⟩ := htcm m hmlt
            have hp1 : ∀ k, k < es.length → wo.cell? ⟨pg, k, none⟩ = some (.int .i64 ((enAt es k).1 : Nat)) := fun k hk => by
              obtain ⟨pg', hpa', hc'⟩ := hpcm k hk
              rw [hpa] at hpa'
              cases hpa'
              exact hc'
            have Hend : Hid (endOf sL es m = if m + 1 < es.length then (enAt es (m + 1)).1 else sL.length) := rfl
            have hpm := hp1 m hmlt
            have hpmi := (Bi.cell (World.block_lt_of_cell? wo _ hpm)).trans hpm
            have htmi := (Bi.cell (World.block_lt_of_cell? wo _ htcell)).trans htcell
            have hlt1 := World.block_lt_of_cell? _ _ hpmi
            have hlt2 := World.block_lt_of_cell? _ _ htmi
            subst hpa hta
            have G : Hid (∀ w, _) := fun w => get_is (mk sL) ((enAt es m).1 : Nat) (mk (enAt es m).2) (endOf sL es m : Nat) 0 w (by omega) (by rw [bs_mk, bs_mk, getI, if_neg (by omega), Int.toNat_natCast]; exact hg)
            have Hpn : Hid (m + 1 < es.length → wo.cell? ⟨pg, m + 1, none⟩ = some (.int .i64 ((enAt es (m + 1)).1 : Nat))) := fun h => hp1 (m + 1) h
            have hmI : (m : Int) < (es.length : Int) := by omega
            clear hp1 hpm hpcell htcell hmay htold hg
            go_wp2_with fail
            refine (G.out _).mono ?_; rintro e w5 ⟨rfl, hb5⟩
            have t5 := (hb5.cell hlt2).trans htmi
            have B5 := bel_trans Bi hb5
            clear hpmi htmi
            by_cases hm1 : m + 1 < es.length
            · have hp5 := (B5.cell (World.block_lt_of_cell? wo _ (Hpn.out hm1))).trans (Hpn.out hm1)
              have hE : endOf sL es m = (enAt es (m + 1)).1 := by rw [Hend.out, if_pos hm1]
              rw [hE]
              have hm1I : ((m : Int) + 1) < (es.length : Int) := by omega
              clear hE hb5
              go_wp2_with (go_at_call 16; refine (num_any _ _).mono ?_; rintro e w6 ⟨rfl, rfl⟩)
              exact ⟨⟨m + 1, by omega, by go_num, B5⟩, by simp [intOf]; omega⟩
            · have hE : endOf sL es m = sL.length := by rw [Hend.out, if_neg hm1]
              rw [hE]
              clear hE hb5
              go_wp2_with (go_at_call 16; refine (num_any _ _).mono ?_; rintro e w6 ⟨rfl, rfl⟩)
              exact ⟨⟨m + 1, by omega, by go_num, B5⟩, by simp [intOf]; omega⟩
          · obtain rfl : m = es.length := by omega
            go_wp2
            go_ret
            exact ⟨rfl, B.trans (Bi.mono B.size)⟩

theorem walk (a0 : Option Addr) (len0 cap0 : Nat) (z0 : Nat → ByteArray) (a1 : Int) (w : World) (w0 : IsTexts w a0 len0 z0) (_w1 : (Lit.int .i64 a1).wf = true) :
    Calls Try.prog 4 #[.slice a0 len0 cap0, .int .i64 a1] w fun e w' => e = .returned (.bool true) ∧ Below w.heap.size w w' := by
  rcases w0 with ⟨rfl, rfl⟩ | ⟨x, rfl, hm, hc⟩
  · exact walk_any none 0 cap0 z0 a1 w (by unfold maxLen; omega) (fun i hi => by omega)
  · exact walk_any (some x) len0 cap0 z0 a1 w hm (fun i hi => ⟨x, rfl, hc i hi⟩)

theorem own : ownKnob Try.prog.godebug = none := by kernel_rfl
theorem laidOut : laidOutB Try.prog = true := by kernel_rfl

/-! ### The row's step -/
set_option maxRecDepth 100000 in
theorem lifted (os : Os) (started : os.Started) (H : Type) (enc : TypeId × Value → H) :
    ReturnsInHanded {} Try.checked os 4 .any (Rows.wireBackSpec.pre6 enc Try.prog Try.f4 Rows.wireBackRow.domain false) (Rows.wireBackSpec.post enc Try.prog Try.f4 false true false false) := by
  refine returnsInHanded_of_change_sized (C := Try.checked) own started (by kernel_rfl) Try.func4
    (ChangeSpec.witness6 (enc := enc) (C := Try.checked) false ⟨#[], #[.slice none 0 0, .int .i64 0], []⟩ 8 (by kernel_rfl) (by kernel_rfl) (by kernel_rfl) (by kernel_rfl)) ?_
  intro W base args ds gs before hval0 hW _ hsz0 _
  have hval : ∀ (j : Nat) t v, Try.f4.params[j]? = some t → args[j]? = some v → Value.okWide Try.prog W .any base t v := hval0
  have hsz : (DataW.weightsEach Try.prog (Try.f4.params.toList ++ Rows.wireBackSpec.plain.varTypes Try.prog) (ds ++ gs)).all (· ≤ reachBytes) = true := hsz0
  have hW' := hW
  obtain ⟨p, q, hA0, hV, rfl, _, _⟩ := hW
  have hA : DataW.TrodAll enc Try.prog W 0 (fun _ => true) true Try.f4.params.toList args.toList ds p := hA0
  rw [Try.params4] at hA hval hsz
  obtain ⟨v0, vs0, d0, ds0, p0, q0, hargs, rfl, rfl, h0, r0⟩ := trodAll_cons hA
  obtain ⟨v1, vs1, d1, ds1, p1, q1, rfl, rfl, rfl, h1, r1⟩ := trodAll_cons r0
  obtain ⟨rfl, rfl, rfl⟩ := trodAll_nil r1
  obtain rfl : args = #[v0, v1] := by cases args; simp_all
  obtain ⟨rfl, rfl⟩ := trodVars_none hV
  obtain ⟨a0, len0, cap0, rfl⟩ := okWide_slice Try.underlying38 (hval 0 38 v0 rfl rfl)
  have k0 := h0
  have lt0 : ∀ x ∈ p0, x.block < W.heap.size := by obtain ⟨m, hm⟩ := k0; exact DataW.trod_lt m _ _ _ hm
  obtain ⟨z0, w0⟩ : ∃ S, IsTexts W a0 len0 S := by
    obtain ⟨fuel, hf⟩ := h0
    rcases Go.Deep.open_strs Try.underlying38 Try.underlying9 (by kernel_rfl) hf with ⟨hcs, _⟩ | ⟨x, l, c, m, S, hcs, _, hl, hm, hmm, _, hcell⟩
    · simp [Value.cells] at hcs
      obtain ⟨rfl, rfl, rfl⟩ := hcs
      exact ⟨fun _ => ⟨#[]⟩, .inl ⟨rfl, rfl⟩⟩
    · simp [Value.cells] at hcs
      obtain ⟨rfl, rfl, rfl⟩ := hcs
      have hlm : len0 ≤ m := by rw [hmm]; split <;> omega
      exact ⟨S, .inr ⟨_, rfl, Nat.le_trans hl hm, fun i hi => hcell i (by omega)⟩⟩
  obtain ⟨a1, rfl, rfl, rfl, w1⟩ := open_int Try.underlying3 (hval 1 3 v1 rfl rfl) h1
  clear hA0 hval0 hsz0
  refine (walk a0 len0 cap0 z0 a1 W w0 w1).mono fun e W' ⟨he, bel⟩ => ?_
  subst he
  exact ⟨_, rfl, _, _, _, [], _, [], hW', trodAll_mk1 (shut_bool Try.underlying4 _), (trodAll_cons_mk (Below.trod laidOut (by kernel_rfl) (of_decide_eq_true (by kernel_rfl)) k0 bel lt0) (trodAll_cons_mk (shut_int Try.underlying3 w1) trodAll_mk0)), rfl, bel.frame _, fun h => by cases h⟩

theorem over : Rows.wireBackRow.holds Try.pinned (OpenSpec.ofChange Rows.wireBackSpec) :=
  OpenClaim.holds_of_wide 4 Try.f4 rfl rfl rfl rfl rfl rfl rfl ⟨rfl, rfl, rfl, rfl, rfl⟩ rfl rfl rfl rfl rfl (by kernel_rfl) Try.func4 (by kernel_rfl)
    (of_decide_eq_true (by kernel_rfl)) (by unfold Func.isWrapper; first | (rw [if_pos (by decide +kernel)]; kernel_rfl) | (rw [if_neg (by decide +kernel)]; exact ⟨rfl, rfl⟩))
    (fun os started H enc _ => lifted os started H enc)

/-- The given statement. -/
theorem proved : Rows.WireBackSaid := over

end Go.Proofs.Ytiohmjimlehnpaa.wireBack
namespace Go.Proofs.Ytiohmjimlehnpaa
theorem wireBack_proved : Rows.WireBackSaid := wireBack.proved
#print axioms wireBack_proved
end Go.Proofs.Ytiohmjimlehnpaa
