/-
  Contract of package wire's Put, at every place, list of known names and name.
-/
import Derived.Test.YteaediobcjednaaWireMap
import Derived.Deep.RegionWith
namespace Go.Proofs.Yteaediobcjednaa
set_option maxRecDepth 100000
open Go.ChangeShapes Go.WideShapes Go.ChangeAt Go.RowKit Go.Pin Go.PlainAid

theorem run_eql_nil (w : World) (a : Option Addr) (l c : Nat) : (binOp .eql 41 (.slice a l c) (.slice none 0 0)).run Try.prog w = .ok (.bool a.isNone) w := by
  simp [binOp, Op.equal, Result.andThen]
  cases a <;> rfl

set_option maxRecDepth 100000 in
theorem clone_nil (cap : Nat) (w : World) : Calls Try.prog 44 #[.slice none 0 cap] w fun e w' => e = .returned (.slice none 0 0) ∧ w' = w := by
  have heq := run_eql_nil
  go_enter Try.func44, Try.ntmps44
  go_wp2
  go_ret
  exact ⟨rfl, rfl⟩

theorem owns_empty (w : World) : (w.alloc (.cells #[] 68)).ownsRow w.heap.size 68 2 (.slice (some ⟨w.heap.size, 0, none⟩) 0 0) 0 [] :=
  ⟨rfl, .inr ⟨w.heap.size, 0, #[], rfl, Nat.le_refl _, heap_alloc_new w _, Nat.le_refl _, by unfold maxLen; omega, rfl, rfl⟩⟩

set_option maxRecDepth 100000 in
theorem clone_some (x : Addr) (cap : Nat) (ks : List Kn) (w : World) (hl : ks.length ≤ 1000000000) (h : ∀ j u, (knCells ks)[j]? = some u → w.cell? (x.add j) = some u) :
    Calls Try.prog 44 #[.slice (some x) ks.length cap] w fun e w' => (∃ v, e = .returned v ∧ Knowns w' w.heap.size v ks) ∧ Below w.heap.size w w' := by
  obtain ⟨i0, hi, hz0, hz1, hz2⟩ := info_parts Try.infoKn
  have H : Hid (∀ o j u, (knCells ks)[j]? = some u → (w.alloc o).cell? (x.add j) = some u) := by
    intro o j u hj
    have := h j u hj
    rw [← this]
    exact ((Below.refl w.heap.size w).alloc (Nat.le_refl _) o).cell (World.block_lt_of_cell? w _ this)
  clear h
  have heq := run_eql_nil
  go_enter Try.func44, Try.ntmps44
  go_wp2_with (first
    | (at_builtin; refine wpList_append_own _ rfl _ _ 41 rfl w.heap.size 68 i0 (.agg #[.string ByteArray.empty, .int .i64 0]) 2 24 Try.underlying41 hi hz0 hz1 hz2 rfl (by decide) _ 0 [] rfl (owns_empty w) x ks.length cap (knCells ks) rfl (knCells_len ks) (H.out _) (knCells_one ks) ?c3 ?c4 ?c5 ?_)
    | go_in)
  case c3 => unfold maxLen; omega
  case c4 => omega
  case c5 => simp
  · intro v' w3 hown' hgrow _
    have R : Hid (Knowns w3 w.heap.size v' ks) := by
      show w3.ownsRow _ _ _ _ _ _
      simpa using hown'
    have B : Below w.heap.size w w3 := ((Below.refl _ _).alloc (Nat.le_refl _) _).grown hgrow (by simp) (fun k hk => by cases hk; exact Nat.le_refl _)
    clear hown' hgrow
    go_wp2
    go_ret
    exact ⟨⟨_, rfl, R.out⟩, B⟩

theorem clone_c (a : Option Addr) (cap : Nat) (ks : List Kn) (w : World) (hl : ks.length ≤ 1000000000) (h : KnLies w a ks) :
    Calls Try.prog 44 #[.slice a ks.length cap] w fun e w' => (∃ v, e = .returned v ∧ Knowns w' w.heap.size v ks) ∧ Below w.heap.size w w' := by
  rcases h with rfl | ⟨x, rfl, h⟩
  · cases a with
    | none => exact (clone_nil cap w).mono fun e w' ⟨h1, h2⟩ => ⟨⟨_, h1, World.ownsRow_nil _ _ _ _⟩, by rw [h2]; exact Below.refl _ _⟩
    | some x => exact clone_some x cap [] w hl (fun j u hj => by simp [knCells] at hj)
  · exact clone_some x cap ks w hl (cells_of_from h)

theorem placesOf_c (a : Option Addr) (cap : Nat) (ks : List Kn) (w : World) (hl : ks.length ≤ 1000000000) (hs : ∀ k ∈ ks, k.1.length ≤ maxLen) (hw : ∀ k ∈ ks, (Lit.int .i64 k.2).wf = true) (h : KnLies w a ks) :
    Calls Try.prog 43 #[.slice a ks.length cap] w fun e w' => e = .returned (.map (some w.heap.size)) ∧ Places w' w.heap.size ks.length (findT ks) ∧ Below w.heap.size w w' := by
  rcases h with rfl | ⟨x, rfl, h⟩
  · exact placesOf_none a cap w
  · exact placesOf_from x cap ks w hl hs hw h

theorem wput_no (at_ : Int) (a : Option Addr) (cap : Nat) (ks : List Kn) (name : ByteArray) (w : World) (hs : name.size ≤ maxLen) (hl : ks.length ≤ 1000000000) (hks : ∀ k ∈ ks, k.1.length ≤ maxLen) (hk : KnLies w a ks) (hm : mayPutL at_ ks (bs name) = false) :
    Calls Try.prog 31 #[.int .i64 at_, .slice a ks.length cap, .string name] w fun e w' => e = .returned (.tuple #[.string ⟨#[]⟩, .slice none 0 0, .int .i64 300]) ∧ Below w.heap.size w w' := by
  have HC := mayPut_c at_ a cap ks name w hs hl hks hk
  rw [hm] at HC
  clear hm hk hks
  go_enter Try.func31, Try.ntmps31
  go_wp2_with fail
  refine HC.mono ?_; rintro e w1 ⟨rfl, hb1⟩
  go_wp2
  go_ret3
  exact ⟨rfl, hb1⟩

theorem be1_is (n : Nat) (h : n ≤ 255) : be (n : Int) 1 = mk [UInt8.ofNat n] := by
  rw [be_1 n (by omega) (by omega)]; rfl
theorem be2_is (x : Int) (h0 : 0 ≤ x) (h1 : x < 65536) : be x 2 = mk (be2 x) := by
  rw [be_2 x h0 h1]; rfl

/-- How far Put has come. -/
structure Putting (ks : List Kn) (at_ : Int) (ls r : List (List UInt8)) (P : List UInt8) (N : List Kn) : Prop where
  s : putS ks ls = P ++ putS ks r
  n : putN ks at_ ls = N ++ putN ks (at_ + P.length) r
  len : P.length + 9 * r.length ≤ 72
  nlen : N.length + r.length ≤ 8
  ok : ∀ x ∈ r, okL x = true

theorem Putting.next {ks : List Kn} {at_ : Int} {ls r : List (List UInt8)} {p : List UInt8} {P : List UInt8} {N : List Kn} (h : Putting ks at_ ls (p :: r) P N) (hf : findK ks (join (p :: r)) = none) :
    Putting ks at_ ls r (P ++ (UInt8.ofNat p.length :: p)) (N ++ if at_ + P.length < 16384 then [(join (p :: r), at_ + P.length)] else []) := by
  obtain ⟨h1, h2, h3, h4, h5⟩ := h
  have hp := okL_bounds (h5 p (by simp))
  refine ⟨?_, ?_, ?_, ?_, fun x hx => h5 x (List.mem_cons_of_mem _ hx)⟩
  · rw [h1, putS, hf]; simp
  · rw [h2, putN, hf]
    simp only [List.length_append, List.length_cons, List.append_assoc]
    rw [show at_ + (P.length + (p.length + 1) : Nat) = at_ + P.length + 1 + p.length by omega]
  · simp only [List.length_append, List.length_cons] at h3 ⊢; omega
  · simp only [List.length_append, List.length_cons] at h4 ⊢
    split <;> simp <;> omega
theorem Putting.found {ks : List Kn} {at_ : Int} {ls r : List (List UInt8)} {p : List UInt8} {P : List UInt8} {N : List Kn} {a : Int} (h : Putting ks at_ ls (p :: r) P N) (hf : findK ks (join (p :: r)) = some a) :
    putS ks ls = P ++ be2 (49152 + a) ∧ putN ks at_ ls = N := by
  obtain ⟨h1, h2, _⟩ := h
  rw [h1, h2, putS, putN, hf]; simp
theorem Putting.done {ks : List Kn} {at_ : Int} {ls : List (List UInt8)} {P : List UInt8} {N : List Kn} (h : Putting ks at_ ls [] P N) : putS ks ls = P ++ [0] ∧ putN ks at_ ls = N := by
  obtain ⟨h1, h2, _⟩ := h
  rw [h1, h2]; simp [putS, putN]
theorem find_known {ks : List Kn} {x : List UInt8} {a : Int} (hk : ks.all knownL = true) (h : findK ks x = some a) : 0 ≤ a ∧ a < 16384 := by
  rcases findK_at ks x with ⟨j, hj, _, h2, _⟩ | ⟨h2, _⟩
  · rw [h2] at h; cases h
    have := List.all_eq_true.1 hk _ (knAt_mem hj)
    rcases known_cases (knAt ks j) with ⟨h, _⟩ | ⟨h, _⟩ | ⟨h, _⟩ | ⟨h, _⟩ | ⟨_, _, _, h1, h2⟩
    all_goals first | (rw [this] at h; cases h; done) | exact ⟨h1, h2⟩
  · rw [h2] at h; cases h
theorem join_head {p : List UInt8} {r : List (List UInt8)} (ho : ∀ x ∈ p :: r, okL x = true) : headL (join (p :: r)) = p ∧ tailL (join (p :: r)) = join r := by
  have hd : (46 : UInt8) ∉ p := okL_nodot (ho p (by simp))
  by_cases hr : r = []
  · subst hr; exact head_miss p hd
  · rw [join_cons p r hr]; exact head_hit p (join r) hd

theorem new_at (w : World) (cs : Array Value) (t : TypeId) (j : Nat) (v : Value) (n : Nat) (hn : w.heap.size = n) (h : cs[j]? = some v) : (w.alloc (.cells cs t)).cell? ⟨n, j, none⟩ = some v := by
  subst hn; exact new_cell w cs t j v h
theorem cell_of_block {w w' : World} {b : Nat} (h : w'.heap[b]? = w.heap[b]?) (j : Nat) : w'.cell? ⟨b, j, none⟩ = w.cell? ⟨b, j, none⟩ := by simp only [World.cell?, h]
theorem knowns_snoc {w : World} {base : Nat} {v : Value} {ks : List Kn} {n : List UInt8} {a : Int} (h : w.ownsRow base 68 2 v (ks.length + 1) (knCells ks ++ [.string (mk n), .int .i64 a])) : Knowns w base v (ks ++ [(n, a)]) := by
  show w.ownsRow _ _ _ _ _ _
  rw [knCells_append]
  simpa [knCells] using h
theorem Knowns.form {w : World} {base : Nat} {v : Value} {ks : List Kn} (h : Knowns w base v ks) : ∃ a cap, v = .slice a ks.length cap := by
  obtain ⟨a, cap, h, _⟩ := h.lies
  exact ⟨a, cap, h⟩

set_option maxHeartbeats 2000000 in
set_option maxRecDepth 100000 in
theorem wput_ok (at_ : Int) (a : Option Addr) (cap : Nat) (ks : List Kn) (name : ByteArray) (w : World) (hs : name.size ≤ maxLen) (hl : ks.length ≤ 1048576) (hks : ∀ k ∈ ks, k.1.length ≤ maxLen) (hk : KnLies w a ks) (hm : mayPutL at_ ks (bs name) = true) :
    Calls Try.prog 31 #[.int .i64 at_, .slice a ks.length cap, .string name] w fun e w' => (∃ v, e = .returned (.tuple #[.string (mk (putS ks (labsL (bs name)))), v, .int .i64 0]) ∧ Knowns w' w.heap.size v (ks ++ putN ks at_ (labsL (bs name)))) ∧ Below w.heap.size w w' := by
  have HC := mayPut_c at_ a cap ks name w hs (by omega) hks hk
  rw [hm] at HC
  simp only [mayPutL, Bool.and_eq_true, decide_eq_true_eq] at hm
  obtain ⟨⟨⟨ha0, ha1⟩, hmay⟩, hall⟩ := hm
  have Hall : Hid (ks.all knownL = true) := hall
  have HP : Hid (∀ w', Below w.heap.size w w' → _) := fun w' hb => placesOf_c a cap ks w' (by omega) hks (fun k hkk => by
    have := List.all_eq_true.1 hall k hkk
    rcases known_cases k with ⟨h, _⟩ | ⟨h, _⟩ | ⟨h, _⟩ | ⟨h, _⟩ | ⟨_, _, _, h1, h2⟩
    all_goals first | (rw [this] at h; cases h; done) | exact WalkArith.wf_i64 (by omega)) (hk.below hb)
  have HD : Hid (∀ w', Below w.heap.size w w' → _) := fun w' hb => clone_c a cap ks w' (by omega) (hk.below hb)
  obtain ⟨i0, hi, hz0, hz1, hz2⟩ := info_parts Try.infoKn
  have hname : name = mk (join (labsL (bs name))) := by rw [join_labs hmay, mk_bs]
  have hL8 := labsL_len (bs name)
  have hLok : ∀ x ∈ labsL (bs name), okL x = true := fun x hx => labsL_ok hx
  generalize labsL (bs name) = ls at *
  subst hname
  have Hstart : Hid (Putting ks at_ ls ls [] []) := ⟨by simp, by simp, by simp; omega, by simp; omega, hLok⟩
  clear hmay hall hks hk hLok hs
  go_enter Try.func31, Try.ntmps31
  go_wp2_with fail
  refine HC.mono ?_; rintro e w1 ⟨rfl, hb1⟩
  go_wp2_with fail
  refine (HP.out _ hb1).mono ?_; rintro e w2 ⟨rfl, hpl2, hb2⟩
  go_wp2_with fail
  refine (HD.out _ (bel_trans hb1 hb2)).mono ?_; rintro e w3 ⟨⟨v3, rfl, hkn3⟩, hb3⟩
  have hle1 := hb1.size
  have hle2 := hb2.size
  have hpl3 : Hid (Places w3 w1.heap.size ks.length (findT ks)) := hpl2.below hb3 hpl2.lt (Nat.le_refl _)
  have hB3 : Below w.heap.size w w3 := bel_trans hb1 (bel_trans hb2 hb3)
  have hlt2 := hpl2.lt
  have hkn3' : Hid (Knowns w3 (w1.heap.size + 1) v3 ks) := hkn3.base (by omega)
  generalize w1.heap.size = mb at *
  clear hb1 hb2 hb3 hpl2 hkn3 HC HP HD
  go_wp2_with fail
  go_loopw [10, 11, 12] (fun v p l wr => ∃ (r : List (List UInt8)) (P : List UInt8) (N : List Kn), p = .string (mk P) ∧ l = .string (mk (join r)) ∧ Hid (Knowns wr (mb + 1) v (ks ++ N)) ∧ Hid (Places wr mb ks.length (findT ks)) ∧ Below w.heap.size w wr ∧ Hid (Putting ks at_ ls r P N)) (fun _ _ l _ => (strOf l).size)
  case atStart => exact ⟨ls, [], [], rfl, rfl, by rw [List.append_nil]; exact hkn3', hpl3, hB3, Hstart⟩
  case round =>
    obtain ⟨r, P, N, rfl, rfl, hkn, hpl, B, hput⟩ := hrel
    clear hkn3' hpl3 hB3 Hstart
    have hPl := hput.out.len
    have hPs := size_mk P
    cases r with
    | nil =>
      have he : (mk (join ([] : List (List UInt8)))).toList.isEmpty = true := empty_mk_yes rfl
      have HN : Hid (∀ w, Calls Try.prog 46 #[.int .i64 0, .int .i64 1] w fun e w' => e = .returned (.string (mk [0])) ∧ Below w.heap.size w w') := by
        intro w; have := number_1 0 w (by omega) (by omega); rwa [show be 0 1 = mk [0] from be1_is 0 (by omega)] at this
      have h0s := size_mk [(0 : UInt8)]
      simp only [List.length_nil] at hPl
      go_wp2_with fail
      refine (HN.out _).mono ?_; rintro e w4 ⟨rfl, hb4⟩
      have R : Hid (Knowns w4 (mb + 1) u10 (ks ++ N)) := hkn.out.below hb4
      have B4 : Below w.heap.size w w4 := bel_trans B hb4
      clear hb4
      go_wp2
      go_ret3
      obtain ⟨e1, e2⟩ := hput.out.done
      rw [e1, e2, ← mk_append]
      exact ⟨⟨_, rfl, R.out.base (by omega)⟩, B4⟩
    | cons p r =>
      have hok := hput.out.ok
      obtain ⟨hh1, hh2⟩ := join_head hok
      have hpb := okL_bounds (hok p (by simp))
      have hjl := join_len (p :: r) hok
      have hne : join (p :: r) ≠ [] := join_ne (by simp) hok
      have he := empty_mk_no hne
      have hmay : mayL (join (p :: r)) = true := (may_join (ls := p :: r) (by have := hput.out.nlen; omega) hok).1
      have HFT : Hid (findT ks p (join r) = findK ks (join (p :: r))) := by rw [← findT_is ks _ hmay hne Hall.out, hh1, hh2]; rfl
      have HT : Hid (∀ w, Calls Try.prog 45 #[.string (mk (join (p :: r)))] w fun e w' => e = .returned (.agg #[.string (mk p), .string (mk (join r))]) ∧ Below w.heap.size w w') := by
        intro w
        have := tailOf_c (join (p :: r)) w (by unfold maxLen; simp at hjl hPl; omega)
        rwa [hh1, hh2] at this
      have hjr : (join r).length < (join (p :: r)).length := by
        by_cases hr : r = []
        · subst hr; simp [join]; omega
        · rw [join_cons p r hr]; simp; omega
      obtain ⟨kl, hkl⟩ := key_is (mk p) (mk (join r)) (by rw [size_mk]; unfold maxLen; omega) (by rw [size_mk]; unfold maxLen; simp at hjl hPl; omega)
      have Hkl : Hid (_) := hkl
      have Hjr : Hid (_) := hjr
      generalize hleft : join (p :: r) = left at *
      have Hleft : Hid (_) := hleft
      obtain ⟨D, hown, hf⟩ := hpl.out
      have Hf : Hid (_) := hf
      have hfk := hf _ _ _ hkl
      have hmlt := hown.lt
      clear hleft hkl hh1 hh2 hmay hne hf hok hpl
      go_wp2_with fail
      refine (HT.out _).mono ?_; rintro e w4 ⟨rfl, hb4⟩
      have hown4 := own_keep hown (w' := w4) (hb4.block mb hmlt)
      have hkn4 : Hid (Knowns w4 (mb + 1) u10 (ks ++ N)) := hkn.out.below hb4
      have B4 : Below w.heap.size w w4 := bel_trans B hb4
      have hle4 := hb4.size
      clear hb4 hown hkn B
      cases hq : findK ks left with
      | some q =>
        have hqb := find_known Hall.out hq
        rw [HFT.out, hq] at hfk
        obtain ⟨hf1, hf2⟩ := hfk
        have hf1' : Maps.has D kl = true := hf1
        have Hf2 : Hid (D.atKey kl (.lit (.int .i64 0)) = .lit (.int .i64 q)) := hf2
        have HN : Hid (∀ w, Calls Try.prog 46 #[.int .i64 (49152 + q), .int .i64 2] w fun e w' => e = .returned (.string (mk (be2 (49152 + q)))) ∧ Below w.heap.size w w') := by
          intro w; have := number_2 (49152 + q) w (by omega) (by omega); rwa [be2_is _ (by omega) (by omega)] at this
        have Hq : Hid (findK ks left = some q) := hq
        have h2s : (mk (be2 (49152 + q))).size = 2 := by rw [size_mk]; rfl
        clear hf1 hf2 hq
        go_wp2_with (first | (at_lookup; refine wpList_lookup_own_ok_int _ rfl _ _ 78 rfl 82 3 .i64 Try.tailKeyed Try.underlying78 Try.underlying3 (Try.zeroInt _) mb ks.length D rfl (hown4.alloc _) _ kl rfl Hkl.out ?_; intro c hat hwc; rw [Hf2.out] at hat; cases hat; rw [hf1']) | fail)
        refine (HN.out _).mono ?_; rintro e w5 ⟨rfl, hb5⟩
        have hb5' := bel_trans ((Below.refl w4.heap.size w4).alloc (Nat.le_refl _) _) hb5
        have R : Hid (Knowns w5 (mb + 1) u10 (ks ++ N)) := hkn4.out.below hb5'
        have B5 : Below w.heap.size w w5 := bel_trans B4 hb5'
        clear hb5 hb5' hown4
        go_wp2
        go_ret3
        obtain ⟨e1, e2⟩ := hput.out.found (by rw [Hleft.out]; exact Hq.out)
        rw [e1, e2, ← mk_append]
        exact ⟨⟨_, rfl, R.out.base (by omega)⟩, B5⟩
      | none =>
        rw [HFT.out, hq] at hfk
        have hf1' : Maps.has D kl = false := hfk.1
        have Hq : Hid (findK ks left = none) := hq
        have HN : Hid (∀ w, Calls Try.prog 46 #[.int .i64 p.length, .int .i64 1] w fun e w' => e = .returned (.string (mk [UInt8.ofNat p.length])) ∧ Below w.heap.size w w') := by
          intro w; have := number_1 p.length w (by omega) (by omega); rwa [be1_is _ (by omega)] at this
        have h1s := size_mk [UInt8.ofNat p.length]
        have hps := size_mk p
        have Hnext : Hid (Putting ks at_ ls r (P ++ (UInt8.ofNat p.length :: p)) (N ++ if at_ + P.length < 16384 then [(left, at_ + P.length)] else [])) := by
          have := hput.out.next (by rw [Hleft.out]; exact Hq.out)
          rwa [Hleft.out] at this
        clear hfk hq
        by_cases hfar : at_ + (P.length : Int) < 16384
        · rw [if_pos hfar] at Hnext
          obtain ⟨ua, ucap, rfl⟩ := hkn4.out.form
          have hknlen : (ks ++ N).length ≤ 1048576 + 8 := by have := hput.out.nlen; simp; omega
          have hat8 : 0 ≤ at_ + (P.length : Int) := by omega
          have hown5 : ∀ o o', World.ownsRow ((w4.alloc o).alloc o') (mb + 1) 68 2 (.slice ua (ks ++ N).length ucap) (ks ++ N).length (knCells (ks ++ N)) := fun o o' => World.ownsRow.alloc (World.ownsRow.alloc hkn4.out o) o'
          have hlo := World.ownsRow.lt hkn4.out
          generalize hkl2 : (ks ++ N).length = kn at *
          have Hkl2 : Hid (_) := hkl2
          clear hkl2
          go_wp2_with (first
            | (at_lookup; refine wpList_lookup_own_ok_int _ rfl _ _ 78 rfl 82 3 .i64 Try.tailKeyed Try.underlying78 Try.underlying3 (Try.zeroInt _) mb ks.length D rfl (hown4.alloc _) _ kl rfl Hkl.out ?_; intro c hat hwc; clear hat hwc; rw [hf1'])
            | (at_builtin; refine wpList_append_own _ rfl _ _ 41 rfl (mb + 1) 68 i0 (.agg #[.string ByteArray.empty, .int .i64 0]) 2 24 Try.underlying41 hi hz0 hz1 hz2 rfl (by decide) _ kn (knCells (ks ++ N)) rfl (hown5 _ _) ⟨w4.heap.size + 1, 0, none⟩ 1 1 [.string (mk left), .int .i64 (at_ + P.length)] rfl rfl ?c1 ?c2 ?c3 ?c4 ?c5 ?_)
            | fail)
          case c1 =>
            intro j u hj
            match j, hj with
            | 0, hj => simp at hj; subst hj; exact new_at _ _ _ 0 _ _ (World.size_alloc _ _) rfl
            | 1, hj => simp at hj; subst hj; exact new_at _ _ _ 1 _ _ (World.size_alloc _ _) rfl
          case c2 => intro u hu; simp at hu; rcases hu with rfl | rfl <;> rfl
          case c3 => unfold maxLen; omega
          case c4 => omega
          case c5 => simp; omega
          · intro v' w6 hown6 hgrow _
            have hm4 := hown4.lt
            have hz5 : ∀ o o', ((w4.alloc o).alloc o').heap.size = w4.heap.size + 2 := fun o o' => by simp
            have B5 : ∀ o o', Below w4.heap.size w4 ((w4.alloc o).alloc o') := fun o o' => ((Below.refl w4.heap.size w4).alloc (Nat.le_refl _) o).alloc (by simp) o'
            have k1 := hgrow.block w4.heap.size (by rw [hz5]; omega) (fun e => by have := (hlo _ e.symm).2; omega)
            have k2 := hgrow.block mb (by rw [hz5]; omega) (fun e => by have := (hlo _ e.symm).1; omega)
            have R6 : Knowns w6 (mb + 1) v' (ks ++ N ++ [(left, at_ + P.length)]) := knowns_snoc (by rw [Hkl2.out]; exact hown6)
            have B6 : Below w.heap.size w w6 := (bel_trans B4 (B5 _ _)).grown hgrow (by rw [hz5]; have := B4.size; omega) (fun k hk => by have := (hlo _ hk).1; omega)
            have P6 := own_keep (hown4) (w' := w6) (k2.trans ((B5 _ _).block mb hm4))
            have c0 : w6.cell? ⟨w4.heap.size, 0, none⟩ = some (.string (mk p)) := (cell_of_block k1 0).trans ((((Below.refl _ (w4.alloc _)).alloc (Nat.le_refl _) _).cell (p := ⟨w4.heap.size, 0, none⟩) (by simp)).trans (new_cell w4 _ _ 0 _ rfl))
            have c1 : w6.cell? ⟨w4.heap.size, 1, none⟩ = some (.string (mk (join r))) := (cell_of_block k1 1).trans ((((Below.refl _ (w4.alloc _)).alloc (Nat.le_refl _) _).cell (p := ⟨w4.heap.size, 1, none⟩) (by simp)).trans (new_cell w4 _ _ 1 _ rfl))
            have hlt6 : w4.heap.size < w6.heap.size := World.block_lt_of_cell? w6 _ c0
            have hR6 : Hid (_) := R6
            have hP6 := P6.lt
            clear hown6 hgrow hown5 k1 k2 B5 hz5 R6 hown4 hkn4
            go_wp2_with fail
            go_region_with (refine (HN.out _).mono ?_; rintro e w7 ⟨rfl, hb7⟩; have hb7' : Below _ w6 w7 := bel_trans ((Below.refl _ _).drew) hb7; have d0 := (hb7'.cell (p := ⟨w4.heap.size, 0, none⟩) hlt6).trans c0; have d1 := (hb7'.cell (p := ⟨w4.heap.size, 1, none⟩) hlt6).trans c1)
            all_goals
              have R7 : Hid (Knowns w7 (mb + 1) v' (ks ++ (N ++ [(left, at_ + P.length)]))) := by rw [← List.append_assoc]; exact Knowns.below hR6.out hb7'
              have P7 : Hid (Places w7 mb ks.length (findT ks)) := ⟨D, own_keep P6 (hb7'.block mb hP6), Hf.out⟩
              have B7 : Below w.heap.size w w7 := bel_trans B6 hb7'
              clear hb7 hb7' c0 c1
              go_wp2
              refine ⟨⟨r, P ++ (UInt8.ofNat p.length :: p), N ++ [(left, at_ + P.length)], ?_, rfl, R7, P7, B7, Hnext⟩, ?_⟩
              · rw [mk_append, mk_append]; rfl
              · simp only [strOf, size_mk]; exact Hjr.out
        · have hfar' : decide (at_ + (P.length : Int) < 16384) = false := by simp; omega
          rw [if_neg hfar] at Hnext
          clear hfar
          have c0 : ∀ w', Below (w4.alloc (.cells #[.string (mk p), .string (mk (join r))] 82)).heap.size (w4.alloc (.cells #[.string (mk p), .string (mk (join r))] 82)) w' → w'.cell? ⟨w4.heap.size, 0, none⟩ = some (.string (mk p)) ∧ w'.cell? ⟨w4.heap.size, 1, none⟩ = some (.string (mk (join r))) :=
            fun w' hb => ⟨(hb.cell (p := ⟨w4.heap.size, 0, none⟩) (by simp)).trans (new_cell w4 _ _ 0 _ rfl), (hb.cell (p := ⟨w4.heap.size, 1, none⟩) (by simp)).trans (new_cell w4 _ _ 1 _ rfl)⟩
          have C0 : Hid (_) := c0
          clear c0
          go_wp2_with (first | (at_lookup; refine wpList_lookup_own_ok_int _ rfl _ _ 78 rfl 82 3 .i64 Try.tailKeyed Try.underlying78 Try.underlying3 (Try.zeroInt _) mb ks.length D rfl (hown4.alloc _) _ kl rfl Hkl.out ?_; intro c hat hwc; clear hat hwc; rw [hf1']) | fail)
          go_region_with (refine (HN.out _).mono ?_; rintro e w7 ⟨rfl, hb7⟩; have hb7' : Below _ (w4.alloc (.cells #[.string (mk p), .string (mk (join r))] 82)) w7 := bel_trans ((Below.refl _ _).drew) hb7; obtain ⟨d0, d1⟩ := C0.out w7 hb7')
          all_goals
            have hb8 := bel_trans ((Below.refl w4.heap.size w4).alloc (Nat.le_refl _) _) hb7'
            have R7 : Hid (Knowns w7 (mb + 1) u10 (ks ++ N)) := hkn4.out.below hb8
            have P7 : Hid (Places w7 mb ks.length (findT ks)) := ⟨D, own_keep hown4 (hb8.block mb hown4.lt), Hf.out⟩
            have B7 : Below w.heap.size w w7 := bel_trans B4 hb8
            clear hb7 hb7' hb8
            go_wp2
            refine ⟨⟨r, P ++ (UInt8.ofNat p.length :: p), N, ?_, rfl, R7, P7, B7, by rw [List.append_nil] at Hnext; exact Hnext⟩, ?_⟩
            · rw [mk_append, mk_append]; rfl
            · simp only [strOf, size_mk]; exact Hjr.out

/-- Put, its answer named. -/
theorem wput_is (at_ : Int) (a : Option Addr) (n cap : Nat) (ks ks' : List Kn) (name s : ByteArray) (w : World) (hn : n = ks.length) (hs : name.size ≤ maxLen) (hl : ks.length ≤ 1048576) (hks : ∀ k ∈ ks, k.1.length ≤ maxLen) (hk : KnLies w a ks) (hm : mayPutL at_ ks (bs name) = true)
    (h1 : mk (putS ks (labsL (bs name))) = s) (h2 : ks ++ putN ks at_ (labsL (bs name)) = ks') :
    Calls Try.prog 31 #[.int .i64 at_, .slice a n cap, .string name] w fun e w' => (∃ v, e = .returned (.tuple #[.string s, v, .int .i64 0]) ∧ Knowns w' w.heap.size v ks') ∧ Below w.heap.size w w' := by
  subst hn h1 h2
  exact wput_ok at_ a cap ks name w hs hl hks hk hm
theorem wput_nil (at_ : Int) (cap : Nat) (ks' : List Kn) (name s : ByteArray) (w : World) (hs : name.size ≤ maxLen) (hm : mayPutL at_ [] (bs name) = true) (h1 : mk (putS [] (labsL (bs name))) = s) (h2 : putN [] at_ (labsL (bs name)) = ks') :
    Calls Try.prog 31 #[.int .i64 at_, .slice none 0 cap, .string name] w fun e w' => (∃ v, e = .returned (.tuple #[.string s, v, .int .i64 0]) ∧ Knowns w' w.heap.size v ks') ∧ Below w.heap.size w w' :=
  wput_is at_ none 0 cap [] ks' name s w rfl hs (by simp) (by simp) (.inl rfl) hm h1 (by simpa using h2)
theorem wput_nil_no (at_ : Int) (cap : Nat) (name : ByteArray) (w : World) (hs : name.size ≤ maxLen) (hm : mayPutL at_ [] (bs name) = false) :
    Calls Try.prog 31 #[.int .i64 at_, .slice none 0 cap, .string name] w fun e w' => e = .returned (.tuple #[.string ⟨#[]⟩, .slice none 0 0, .int .i64 300]) ∧ Below w.heap.size w w' :=
  wput_no at_ none cap [] name w hs (by simp) (by simp) (.inl rfl) hm

end Go.Proofs.Yteaediobcjednaa
