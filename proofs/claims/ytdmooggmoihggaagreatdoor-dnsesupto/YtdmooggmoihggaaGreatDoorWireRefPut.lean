/-
  Contract of the reference PutName, where it puts: at every place, list of known names and name (of the sizes that each theorem names).
-/
import Derived.Test.YtdmooggmoihggaaGreatDoorWireRef
namespace Go.Proofs.YtdmooggmoihggaaGreatDoor
set_option maxRecDepth 100000
open Go.ChangeShapes Go.WideShapes Go.ChangeAt Go.RowKit Go.Pin Go.PlainAid

theorem findK_append' (ks ns : List Kn) (x : List UInt8) : findK (ks ++ ns) x = match findK ks x with | some a => some a | none => findK ns x := by
  induction ks with
  | nil => rfl
  | cons k r ih =>
    simp only [List.cons_append, findK]
    split
    · rfl
    · exact ih
theorem findK_more {ks ns : List Kn} {x : List UInt8} (h : ∀ k ∈ ns, k.1 ≠ x) : findK (ks ++ ns) x = findK ks x := by
  have e : findK ns x = none := by
    induction ns with
    | nil => rfl
    | cons k r ih => unfold findK; rw [if_neg (h k (by simp))]; exact ih (fun k' hk' => h k' (List.mem_cons_of_mem _ hk'))
  rw [findK_append', e]
  cases findK ks x <;> rfl

theorem left_rest {p : List UInt8} {r : List (List UInt8)} (ho : ∀ x ∈ p :: r, okL x = true) : ∃ M : Nat, (∀ (w : World) (ts : Array TypeId) (t : TypeId), (Builtin.min_ ts t #[.int .i64 ((p.length : Int) + 1), .int .i64 (join (p :: r)).length]).run Tryz.prog w = .ok (.int .i64 M) w) ∧ M ≤ (join (p :: r)).length ∧
    (mk (join (p :: r))).extract M (join (p :: r)).length = mk (join r) ∧ (join r).length < (join (p :: r)).length := by
  have hpb := okL_bounds (ho p (by simp))
  by_cases hr : r = []
  · subst hr
    refine ⟨p.length, fun w ts t => ?_, Nat.le_refl _, ?_, by simp [join]; omega⟩
    · rw [run_min_int2, if_pos (by simp only [join]; omega)]; rfl
    · rw [Lib.extract_eq]
      have hd : (mk (join [p])).data.toList = p := rfl
      rw [hd]
      simp [join, mk]
  · have e := join_cons p r hr
    refine ⟨p.length + 1, fun w ts t => ?_, by rw [e]; simp, ?_, by rw [e]; simp; omega⟩
    · rw [run_min_int2, if_neg (by rw [e]; simp; omega)]; rfl
    · rw [Lib.extract_eq, e]
      have hd : (mk (p ++ 46 :: join r)).data.toList = p ++ 46 :: join r := rfl
      rw [hd, ← List.drop_drop, show (p ++ 46 :: join r).length - (p.length + 1) = (join r).length by simp; omega]
      simp [mk]
theorem split_labs {p : List UInt8} {r : List (List UInt8)} (ho : ∀ x ∈ p :: r, okL x = true) : split (join (p :: r)) = p :: r := split_join _ (by simp) (fun x hx => okL_nodot (ho x hx))

set_option maxHeartbeats 1000000 in
set_option maxRecDepth 100000 in
theorem rput_some (at_ : Int) (x : Addr) (cap : Nat) (ks : List Kn) (name : ByteArray) (w : World) (hs : name.size ≤ 1048576) (hl : ks.length ≤ 1048576) (hks : ∀ k ∈ ks, k.1.length ≤ 1048576) (hk : KnLies w (some x) ks) (hc : ∀ j u, (knCells ks)[j]? = some u → w.cell? (x.add j) = some u) (hm : mayPutL at_ ks (bs name) = true) :
    Calls Tryz.prog 47 #[.int .i64 at_, .slice (some x) ks.length cap, .string name] w fun e w' => (∃ v, e = .returned (.tuple #[.string (mk (putS ks (labsL (bs name)))), v, .int .i64 0]) ∧ Knowns w' w.heap.size v (ks ++ putN ks at_ (labsL (bs name)))) ∧ Below w.heap.size w w' := by
  simp only [mayPutL, Bool.and_eq_true, decide_eq_true_eq] at hm
  obtain ⟨⟨⟨ha0, ha1⟩, hmay⟩, hall⟩ := hm
  have Hall : Hid (ks.all knownL = true) := hall
  have h0 : decide (at_ < 0) = false := by simp; omega
  have h1 : decide (65535 < at_) = false := by simp; omega
  have HC : Hid (∀ w, _) := fun w => nameMay_c name w hs
  rw [hmay] at HC
  have HD : Hid (∀ w', Below w.heap.size w w' → _) := fun w' hb => knownMay_c (some x) cap ks w' (by omega) hks (hk.below hb)
  rw [hall] at HD
  obtain ⟨i0, hi, hz0, hz1, hz2⟩ := info_parts Tryz.infoKn
  have hname : name = mk (join (labsL (bs name))) := by rw [join_labs hmay, mk_bs]
  have hL8 := labsL_len (bs name)
  have hLok : ∀ x ∈ labsL (bs name), okL x = true := fun x hx => labsL_ok hx
  generalize labsL (bs name) = ls at *
  subst hname
  have Hstart : Hid (Putting ks at_ ls ls [] []) := ⟨by simp, by simp, by simp; omega, by simp; omega, hLok⟩
  have Hsrc : Hid (∀ w' o, Below w.heap.size w w' → ∀ j u, (knCells ks)[j]? = some u → (w'.alloc o).cell? (x.add j) = some u) := by
    intro w' o hb j u hj
    have h := hc j u hj
    have hlt := World.block_lt_of_cell? w _ h
    have h' := (hb.cell hlt).trans h
    exact (((Below.refl w'.heap.size w').alloc (Nat.le_refl _) o).cell (World.block_lt_of_cell? w' _ h')).trans h'
  clear hc hmay hall hks hLok hs hk
  go_enter Tryz.func47, Tryz.ntmps47
  go_wp2_with fail
  refine (HC.out _).mono ?_; rintro e w1 ⟨rfl, hb1⟩
  go_wp2_with fail
  refine (HD.out _ hb1).mono ?_; rintro e w2 ⟨rfl, hb2⟩
  have B2 : Below w.heap.size w w2 := bel_trans hb1 hb2
  clear hb1 hb2 HC HD
  go_wp2_with (first
    | (at_builtin; refine wpList_append_own _ rfl _ _ 73 rfl w2.heap.size 123 i0 (.agg #[.string ByteArray.empty, .int .i64 0]) 2 24 Tryz.underlying73 hi hz0 hz1 hz2 rfl (by decide) _ 0 [] rfl (owns_empty w2) x ks.length cap (knCells ks) rfl (knCells_len ks) (Hsrc.out w2 _ B2) (knCells_one ks) ?c3 ?c4 ?c5 ?_)
    | go_in)
  case c3 => unfold maxLen; omega
  case c4 => omega
  case c5 => simp
  intro v3 w3 hown3 hgrow3 _
  have hkn3 : Hid (Knowns w3 w.heap.size v3 ks) := by
    have : Knowns w3 w2.heap.size v3 ks := by show w3.ownsRow _ _ _ _ _ _; simpa using hown3
    exact this.base B2.size
  have B3 : Below w.heap.size w w3 := (B2.alloc B2.size _).grown hgrow3 (by simp; have := B2.size; omega) (fun k hk => by cases hk; exact B2.size)
  clear hown3 hgrow3 B2 Hsrc
  go_wp2_with fail
  go_loopw [9, 10, 11] (fun v p l wr => ∃ (r : List (List UInt8)) (P : List UInt8) (N : List Kn), p = .string (mk P) ∧ l = .string (mk (join r)) ∧ Hid (Knowns wr w.heap.size v (ks ++ N)) ∧ Below w.heap.size w wr ∧ Hid (Putting ks at_ ls r P N) ∧ Hid (∀ k ∈ N, (join r).length < k.1.length)) (fun _ _ l _ => (strOf l).size)
  case atStart => exact ⟨ls, [], [], rfl, rfl, by rw [List.append_nil]; exact hkn3, B3, Hstart, fun k hk => by cases hk⟩
  case round =>
    clear hkn3 B3 Hstart
    obtain ⟨r, P, N, rfl, rfl, hkn, B, hput, hlong⟩ := hrel
    have hPl := hput.out.len
    have hPs := size_mk P
    obtain ⟨oa, oc, rfl, hol⟩ := hkn.out.lies
    have hkN : (ks ++ N).length ≤ 1048576 + 8 := by have := hput.out.nlen; simp; omega
    have HWx : Hid (∀ n', Calls Tryz.prog 80 #[.slice oa (ks ++ N).length oc, .string (mk n')] wr fun e w'' => e = .returned (.int .i64 ((findK (ks ++ N) n').getD (-1))) ∧ w'' = wr) := fun n' => where_c oa oc (ks ++ N) n' wr (by omega) hol
    have hown5 : Hid (wr.ownsRow w.heap.size 123 2 (.slice oa (ks ++ N).length oc) (ks ++ N).length (knCells (ks ++ N))) := hkn.out
    generalize hkl2 : (ks ++ N).length = kn at *
    have Hkl2 : Hid ((ks ++ N).length = kn) := hkl2
    clear hkl2 hol
    cases r with
    | nil =>
      have he : (mk (join ([] : List (List UInt8)))).toList.isEmpty = true := empty_mk_yes rfl
      have Hc : Hid ((⟨#[0]⟩ : ByteArray) = mk [0]) := rfl
      simp only [List.length_nil] at hPl
      go_wp2
      go_ret3
      obtain ⟨e1, e2⟩ := hput.out.done
      rw [e1, e2, Hc.out, mk_append]
      exact ⟨⟨_, rfl, hkn.out⟩, B⟩
    | cons p r =>
      have hok := hput.out.ok
      have hpb := okL_bounds (hok p (by simp))
      have hjl := join_len (p :: r) hok
      have hne : join (p :: r) ≠ [] := join_ne (by simp) hok
      have he := empty_mk_no hne
      have hfind : findK (ks ++ N) (join (p :: r)) = findK ks (join (p :: r)) := findK_more (fun k hk e => by have := hlong.out k hk; rw [e] at this; omega)
      have HW := HWx.out (join (p :: r))
      rw [hfind] at HW
      obtain ⟨M, hmin, hM, hext, hshort⟩ := left_rest hok
      have hsplit := split_labs hok
      have hPs2 : ∀ w', _ := fun w' => parts_c (mk (join (p :: r))) w' (by rw [size_mk]; simp at hjl hPl; omega)
      rw [bs_mk, hsplit] at hPs2
      have Hparts : Hid (_) := hPs2
      have Hext : Hid (_) := hext
      have Hshort : Hid (_) := hshort
      have hls := size_mk (join (p :: r))
      generalize hleft : join (p :: r) = left at *
      have Hleft : Hid (_) := hleft
      clear hleft hne hfind hok hext hshort hsplit hPs2 HWx
      cases hq : findK ks left with
      | some q =>
        have hqb := find_known Hall.out hq
        rw [hq] at HW
        have HN : Hid (∀ w, Calls Tryz.prog 46 #[.int .i64 (49152 + q), .int .i64 2] w fun e w' => e = .returned (.string (mk (be2 (49152 + q)))) ∧ Below w.heap.size w w') := by
          intro w; have := refNum (49152 + q) 2 w (by omega) (by omega) (by omega); rwa [be2_is _ (by omega) (by omega)] at this
        have Hq : Hid (findK ks left = some q) := hq
        have h2s : (mk (be2 (49152 + q))).size = 2 := by rw [size_mk]; rfl
        clear hq hmin
        go_wp2_with fail
        refine HW.mono ?_; rintro e w4 ⟨rfl, rfl⟩
        clear HW
        go_wp2_with fail
        refine (HN.out _).mono ?_; rintro e w5 ⟨rfl, hb5⟩
        have R : Hid (Knowns w5 w.heap.size (.slice oa kn oc) (ks ++ N)) := hkn.out.below hb5
        have B5 : Below w.heap.size w w5 := bel_trans B hb5
        clear hb5
        go_wp2
        go_ret3
        obtain ⟨e1, e2⟩ := hput.out.found (by rw [Hleft.out]; exact Hq.out)
        rw [e1, e2, ← mk_append]
        exact ⟨⟨_, rfl, R.out⟩, B5⟩
      | none =>
        rw [hq] at HW
        have HN : Hid (∀ w, Calls Tryz.prog 46 #[.int .i64 p.length, .int .i64 1] w fun e w' => e = .returned (.string (mk [UInt8.ofNat p.length])) ∧ Below w.heap.size w w') := by
          intro w; have := refNum p.length 1 w (by omega) (by omega) (by omega); rwa [be1_is _ (by omega)] at this
        have h1s := size_mk [UInt8.ofNat p.length]
        have hps := size_mk p
        have Hq : Hid (findK ks left = none) := hq
        have Hnext : Hid (Putting ks at_ ls r (P ++ (UInt8.ofNat p.length :: p)) (N ++ if at_ + P.length < 16384 then [(left, at_ + P.length)] else [])) := by
          have := hput.out.next (by rw [Hleft.out]; exact Hq.out)
          rwa [Hleft.out] at this
        have Hlong2 : Hid (∀ k ∈ N ++ (if at_ + (P.length : Int) < 16384 then [(left, at_ + (P.length : Int))] else []), (join r).length < k.1.length) := by
          intro k hk
          rcases List.mem_append.1 hk with hk | hk
          · exact Nat.lt_trans Hshort.out (hlong.out k hk)
          · split at hk
            · simp at hk; subst hk; exact Hshort.out
            · cases hk
        clear hq
        by_cases hfar : at_ + (P.length : Int) < 16384
        · rw [if_pos hfar] at Hnext Hlong2
          have hat8 : 0 ≤ at_ + (P.length : Int) := by omega
          go_wp2_with fail
          refine HW.mono ?_; rintro e w4 ⟨rfl, rfl⟩
          clear HW
          go_wp2_with (first
            | (at_builtin; refine wpList_append_own _ rfl _ _ 73 rfl w.heap.size 123 i0 (.agg #[.string ByteArray.empty, .int .i64 0]) 2 24 Tryz.underlying73 hi hz0 hz1 hz2 rfl (by decide) _ kn (knCells (ks ++ N)) rfl (World.ownsRow.alloc hown5.out _) ⟨w4.heap.size, 0, none⟩ 1 1 [.string (mk left), .int .i64 (at_ + P.length)] rfl rfl ?c1 ?c2 ?c3 ?c4 ?c5 ?_)
            | fail)
          case c1 =>
            intro j u hj
            match j, hj with
            | 0, hj => simp at hj; subst hj; exact new_at _ _ _ 0 _ _ rfl rfl
            | 1, hj => simp at hj; subst hj; exact new_at _ _ _ 1 _ _ rfl rfl
          case c2 => intro u hu; simp at hu; rcases hu with rfl | rfl <;> rfl
          case c3 => unfold maxLen; omega
          case c4 => omega
          case c5 => simp; have := B.size; omega
          intro v6 w6 hown6 hgrow6 _
          have R6 : Hid (Knowns w6 w.heap.size v6 (ks ++ (N ++ [(left, at_ + P.length)]))) := by
            rw [← List.append_assoc]
            exact knowns_snoc (by rw [Hkl2.out]; exact hown6)
          have B6 : Below w.heap.size w w6 := (B.alloc B.size _).grown hgrow6 (by simp; have := B.size; omega) (fun k hk => (World.ownsRow.lt hown5.out k hk).1)
          clear hown6 hgrow6 hown5 hkn B
          go_wp2_with fail
          refine (Hparts.out _).mono ?_; rintro e w7 ⟨⟨v7, rfl, hte⟩, hb7⟩
          rcases hte.cases with ⟨_, hnil⟩ | ⟨g7, cap7, rfl, hn7, _, _, hlt7, hc7, _⟩
          · cases hnil
          have R7 : Hid (Knowns w7 w.heap.size v6 (ks ++ (N ++ [(left, at_ + P.length)]))) := R6.out.below hb7
          have B7 : Below w.heap.size w w7 := bel_trans B6 hb7
          have hp0 : w7.cell? ⟨g7, 0, none⟩ = some (.string (mk p)) := hc7 0 (by simp)
          have hlen7 : (p :: r).length = r.length + 1 := rfl
          rw [hlen7]
          clear hte hb7 hc7 hn7 hlen7
          go_wp2_with fail
          refine (HN.out _).mono ?_; rintro e w8 ⟨rfl, hb8⟩
          have R8 : Hid (Knowns w8 w.heap.size v6 (ks ++ (N ++ [(left, at_ + P.length)]))) := R7.out.below hb8
          have B8 : Below w.heap.size w w8 := bel_trans B7 hb8
          clear hb8 R7 B7 hp0
          go_wp2
          refine ⟨⟨r, P ++ (UInt8.ofNat p.length :: p), N ++ [(left, at_ + P.length)], ?_, ?_, R8, B8, Hnext, Hlong2⟩, ?_⟩
          · rw [mk_append, mk_append]; simp
          · rw [Hext.out]
          · rw [Hext.out]; simp only [strOf, size_mk]; exact Hshort.out
        · have hfar' : decide (at_ + (P.length : Int) < 16384) = false := by simp; omega
          rw [if_neg hfar] at Hnext Hlong2
          clear hfar
          go_wp2_with fail
          refine HW.mono ?_; rintro e w4 ⟨rfl, rfl⟩
          clear HW
          go_wp2_with fail
          refine (Hparts.out _).mono ?_; rintro e w7 ⟨⟨v7, rfl, hte⟩, hb7⟩
          rcases hte.cases with ⟨_, hnil⟩ | ⟨g7, cap7, rfl, hn7, _, _, hlt7, hc7, _⟩
          · cases hnil
          have R7 : Hid (Knowns w7 w.heap.size (.slice oa kn oc) (ks ++ N)) := hkn.out.below hb7
          have B7 : Below w.heap.size w w7 := bel_trans B hb7
          have hp0 : w7.cell? ⟨g7, 0, none⟩ = some (.string (mk p)) := hc7 0 (by simp)
          have hlen7 : (p :: r).length = r.length + 1 := rfl
          rw [hlen7]
          clear hte hb7 hc7 hn7 hlen7
          go_wp2_with fail
          refine (HN.out _).mono ?_; rintro e w8 ⟨rfl, hb8⟩
          have R8 : Hid (Knowns w8 w.heap.size (.slice oa kn oc) (ks ++ N)) := R7.out.below hb8
          have B8 : Below w.heap.size w w8 := bel_trans B7 hb8
          clear hb8 R7 B7 hp0
          go_wp2
          refine ⟨⟨r, P ++ (UInt8.ofNat p.length :: p), N, ?_, ?_, R8, B8, by rw [List.append_nil] at Hnext; exact Hnext, by rw [List.append_nil] at Hlong2; exact Hlong2⟩, ?_⟩
          · rw [mk_append, mk_append]; simp
          · rw [Hext.out]
          · rw [Hext.out]; simp only [strOf, size_mk]; exact Hshort.out

set_option maxHeartbeats 1000000 in
set_option maxRecDepth 100000 in
theorem rput_nil (at_ : Int) (cap : Nat) (ks : List Kn) (hk0 : ks = []) (name : ByteArray) (w : World) (hs : name.size ≤ 1048576) (hm : mayPutL at_ ks (bs name) = true) :
    Calls Tryz.prog 47 #[.int .i64 at_, .slice none 0 cap, .string name] w fun e w' => (∃ v, e = .returned (.tuple #[.string (mk (putS ks (labsL (bs name)))), v, .int .i64 0]) ∧ Knowns w' w.heap.size v (ks ++ putN ks at_ (labsL (bs name)))) ∧ Below w.heap.size w w' := by
  simp only [mayPutL, Bool.and_eq_true, decide_eq_true_eq] at hm
  obtain ⟨⟨⟨ha0, ha1⟩, hmay⟩, hall⟩ := hm
  have Hall : Hid (ks.all knownL = true) := hall
  have h0 : decide (at_ < 0) = false := by simp; omega
  have h1 : decide (65535 < at_) = false := by simp; omega
  have HC : Hid (∀ w, _) := fun w => nameMay_c name w hs
  rw [hmay] at HC
  have HD : Hid (∀ w', Below w.heap.size w w' → Calls Tryz.prog 79 #[.slice none 0 cap] w' fun e w'' => e = .returned (.bool true) ∧ Below w'.heap.size w' w'') := fun w' _ => (knownMay_none none cap w').mono fun e w'' ⟨h1, h2⟩ => ⟨h1, by rw [h2]; exact Below.refl _ _⟩
  have hl : ks.length ≤ 1048576 := by rw [hk0]; simp
  obtain ⟨i0, hi, hz0, hz1, hz2⟩ := info_parts Tryz.infoKn
  have hname : name = mk (join (labsL (bs name))) := by rw [join_labs hmay, mk_bs]
  have hL8 := labsL_len (bs name)
  have hLok : ∀ x ∈ labsL (bs name), okL x = true := fun x hx => labsL_ok hx
  generalize labsL (bs name) = ls at *
  subst hname
  have Hstart : Hid (Putting ks at_ ls ls [] []) := ⟨by simp, by simp, by simp; omega, by simp; omega, hLok⟩
  have Hk0 : Hid (ks = []) := hk0
  clear hk0 hmay hall hLok hs
  go_enter Tryz.func47, Tryz.ntmps47
  go_wp2_with fail
  refine (HC.out _).mono ?_; rintro e w1 ⟨rfl, hb1⟩
  go_wp2_with fail
  refine (HD.out _ hb1).mono ?_; rintro e w2 ⟨rfl, hb2⟩
  have B2 : Below w.heap.size w w2 := bel_trans hb1 hb2
  clear hb1 hb2 HC HD
  have hkn3 : Hid (Knowns (w2.alloc (.cells #[] 123)) w.heap.size (.slice (some ⟨w2.heap.size, 0, none⟩) 0 0) ks) := by
    rw [Hk0.out]
    exact Knowns.base (owns_empty w2) B2.size
  have B3 : Below w.heap.size w (w2.alloc (.cells #[] 123)) := B2.alloc B2.size _
  clear B2 Hk0
  go_wp2_with fail
  go_loopw [9, 10, 11] (fun v p l wr => ∃ (r : List (List UInt8)) (P : List UInt8) (N : List Kn), p = .string (mk P) ∧ l = .string (mk (join r)) ∧ Hid (Knowns wr w.heap.size v (ks ++ N)) ∧ Below w.heap.size w wr ∧ Hid (Putting ks at_ ls r P N) ∧ Hid (∀ k ∈ N, (join r).length < k.1.length)) (fun _ _ l _ => (strOf l).size)
  case atStart => exact ⟨ls, [], [], rfl, rfl, by rw [List.append_nil]; exact hkn3, B3, Hstart, fun k hk => by cases hk⟩
  case round =>
    clear hkn3 B3 Hstart
    obtain ⟨r, P, N, rfl, rfl, hkn, B, hput, hlong⟩ := hrel
    have hPl := hput.out.len
    have hPs := size_mk P
    obtain ⟨oa, oc, rfl, hol⟩ := hkn.out.lies
    have hkN : (ks ++ N).length ≤ 1048576 + 8 := by have := hput.out.nlen; simp; omega
    have HWx : Hid (∀ n', Calls Tryz.prog 80 #[.slice oa (ks ++ N).length oc, .string (mk n')] wr fun e w'' => e = .returned (.int .i64 ((findK (ks ++ N) n').getD (-1))) ∧ w'' = wr) := fun n' => where_c oa oc (ks ++ N) n' wr (by omega) hol
    have hown5 : Hid (wr.ownsRow w.heap.size 123 2 (.slice oa (ks ++ N).length oc) (ks ++ N).length (knCells (ks ++ N))) := hkn.out
    generalize hkl2 : (ks ++ N).length = kn at *
    have Hkl2 : Hid ((ks ++ N).length = kn) := hkl2
    clear hkl2 hol
    cases r with
    | nil =>
      have he : (mk (join ([] : List (List UInt8)))).toList.isEmpty = true := empty_mk_yes rfl
      have Hc : Hid ((⟨#[0]⟩ : ByteArray) = mk [0]) := rfl
      simp only [List.length_nil] at hPl
      go_wp2
      go_ret3
      obtain ⟨e1, e2⟩ := hput.out.done
      rw [e1, e2, Hc.out, mk_append]
      exact ⟨⟨_, rfl, hkn.out⟩, B⟩
    | cons p r =>
      have hok := hput.out.ok
      have hpb := okL_bounds (hok p (by simp))
      have hjl := join_len (p :: r) hok
      have hne : join (p :: r) ≠ [] := join_ne (by simp) hok
      have he := empty_mk_no hne
      have hfind : findK (ks ++ N) (join (p :: r)) = findK ks (join (p :: r)) := findK_more (fun k hk e => by have := hlong.out k hk; rw [e] at this; omega)
      have HW := HWx.out (join (p :: r))
      rw [hfind] at HW
      obtain ⟨M, hmin, hM, hext, hshort⟩ := left_rest hok
      have hsplit := split_labs hok
      have hPs2 : ∀ w', _ := fun w' => parts_c (mk (join (p :: r))) w' (by rw [size_mk]; simp at hjl hPl; omega)
      rw [bs_mk, hsplit] at hPs2
      have Hparts : Hid (_) := hPs2
      have Hext : Hid (_) := hext
      have Hshort : Hid (_) := hshort
      have hls := size_mk (join (p :: r))
      generalize hleft : join (p :: r) = left at *
      have Hleft : Hid (_) := hleft
      clear hleft hne hfind hok hext hshort hsplit hPs2 HWx
      cases hq : findK ks left with
      | some q =>
        have hqb := find_known Hall.out hq
        rw [hq] at HW
        have HN : Hid (∀ w, Calls Tryz.prog 46 #[.int .i64 (49152 + q), .int .i64 2] w fun e w' => e = .returned (.string (mk (be2 (49152 + q)))) ∧ Below w.heap.size w w') := by
          intro w; have := refNum (49152 + q) 2 w (by omega) (by omega) (by omega); rwa [be2_is _ (by omega) (by omega)] at this
        have Hq : Hid (findK ks left = some q) := hq
        have h2s : (mk (be2 (49152 + q))).size = 2 := by rw [size_mk]; rfl
        clear hq hmin
        go_wp2_with fail
        refine HW.mono ?_; rintro e w4 ⟨rfl, rfl⟩
        clear HW
        go_wp2_with fail
        refine (HN.out _).mono ?_; rintro e w5 ⟨rfl, hb5⟩
        have R : Hid (Knowns w5 w.heap.size (.slice oa kn oc) (ks ++ N)) := hkn.out.below hb5
        have B5 : Below w.heap.size w w5 := bel_trans B hb5
        clear hb5
        go_wp2
        go_ret3
        obtain ⟨e1, e2⟩ := hput.out.found (by rw [Hleft.out]; exact Hq.out)
        rw [e1, e2, ← mk_append]
        exact ⟨⟨_, rfl, R.out⟩, B5⟩
      | none =>
        rw [hq] at HW
        have HN : Hid (∀ w, Calls Tryz.prog 46 #[.int .i64 p.length, .int .i64 1] w fun e w' => e = .returned (.string (mk [UInt8.ofNat p.length])) ∧ Below w.heap.size w w') := by
          intro w; have := refNum p.length 1 w (by omega) (by omega) (by omega); rwa [be1_is _ (by omega)] at this
        have h1s := size_mk [UInt8.ofNat p.length]
        have hps := size_mk p
        have Hq : Hid (findK ks left = none) := hq
        have Hnext : Hid (Putting ks at_ ls r (P ++ (UInt8.ofNat p.length :: p)) (N ++ if at_ + P.length < 16384 then [(left, at_ + P.length)] else [])) := by
          have := hput.out.next (by rw [Hleft.out]; exact Hq.out)
          rwa [Hleft.out] at this
        have Hlong2 : Hid (∀ k ∈ N ++ (if at_ + (P.length : Int) < 16384 then [(left, at_ + (P.length : Int))] else []), (join r).length < k.1.length) := by
          intro k hk
          rcases List.mem_append.1 hk with hk | hk
          · exact Nat.lt_trans Hshort.out (hlong.out k hk)
          · split at hk
            · simp at hk; subst hk; exact Hshort.out
            · cases hk
        clear hq
        by_cases hfar : at_ + (P.length : Int) < 16384
        · rw [if_pos hfar] at Hnext Hlong2
          have hat8 : 0 ≤ at_ + (P.length : Int) := by omega
          go_wp2_with fail
          refine HW.mono ?_; rintro e w4 ⟨rfl, rfl⟩
          clear HW
          go_wp2_with (first
            | (at_builtin; refine wpList_append_own _ rfl _ _ 73 rfl w.heap.size 123 i0 (.agg #[.string ByteArray.empty, .int .i64 0]) 2 24 Tryz.underlying73 hi hz0 hz1 hz2 rfl (by decide) _ kn (knCells (ks ++ N)) rfl (World.ownsRow.alloc hown5.out _) ⟨w4.heap.size, 0, none⟩ 1 1 [.string (mk left), .int .i64 (at_ + P.length)] rfl rfl ?c1 ?c2 ?c3 ?c4 ?c5 ?_)
            | fail)
          case c1 =>
            intro j u hj
            match j, hj with
            | 0, hj => simp at hj; subst hj; exact new_at _ _ _ 0 _ _ rfl rfl
            | 1, hj => simp at hj; subst hj; exact new_at _ _ _ 1 _ _ rfl rfl
          case c2 => intro u hu; simp at hu; rcases hu with rfl | rfl <;> rfl
          case c3 => unfold maxLen; omega
          case c4 => omega
          case c5 => simp; have := B.size; omega
          intro v6 w6 hown6 hgrow6 _
          have R6 : Hid (Knowns w6 w.heap.size v6 (ks ++ (N ++ [(left, at_ + P.length)]))) := by
            rw [← List.append_assoc]
            exact knowns_snoc (by rw [Hkl2.out]; exact hown6)
          have B6 : Below w.heap.size w w6 := (B.alloc B.size _).grown hgrow6 (by simp; have := B.size; omega) (fun k hk => (World.ownsRow.lt hown5.out k hk).1)
          clear hown6 hgrow6 hown5 hkn B
          go_wp2_with fail
          refine (Hparts.out _).mono ?_; rintro e w7 ⟨⟨v7, rfl, hte⟩, hb7⟩
          rcases hte.cases with ⟨_, hnil⟩ | ⟨g7, cap7, rfl, hn7, _, _, hlt7, hc7, _⟩
          · cases hnil
          have R7 : Hid (Knowns w7 w.heap.size v6 (ks ++ (N ++ [(left, at_ + P.length)]))) := R6.out.below hb7
          have B7 : Below w.heap.size w w7 := bel_trans B6 hb7
          have hp0 : w7.cell? ⟨g7, 0, none⟩ = some (.string (mk p)) := hc7 0 (by simp)
          have hlen7 : (p :: r).length = r.length + 1 := rfl
          rw [hlen7]
          clear hte hb7 hc7 hn7 hlen7
          go_wp2_with fail
          refine (HN.out _).mono ?_; rintro e w8 ⟨rfl, hb8⟩
          have R8 : Hid (Knowns w8 w.heap.size v6 (ks ++ (N ++ [(left, at_ + P.length)]))) := R7.out.below hb8
          have B8 : Below w.heap.size w w8 := bel_trans B7 hb8
          clear hb8 R7 B7 hp0
          go_wp2
          refine ⟨⟨r, P ++ (UInt8.ofNat p.length :: p), N ++ [(left, at_ + P.length)], ?_, ?_, R8, B8, Hnext, Hlong2⟩, ?_⟩
          · rw [mk_append, mk_append]; simp
          · rw [Hext.out]
          · rw [Hext.out]; simp only [strOf, size_mk]; exact Hshort.out
        · have hfar' : decide (at_ + (P.length : Int) < 16384) = false := by simp; omega
          rw [if_neg hfar] at Hnext Hlong2
          clear hfar
          go_wp2_with fail
          refine HW.mono ?_; rintro e w4 ⟨rfl, rfl⟩
          clear HW
          go_wp2_with fail
          refine (Hparts.out _).mono ?_; rintro e w7 ⟨⟨v7, rfl, hte⟩, hb7⟩
          rcases hte.cases with ⟨_, hnil⟩ | ⟨g7, cap7, rfl, hn7, _, _, hlt7, hc7, _⟩
          · cases hnil
          have R7 : Hid (Knowns w7 w.heap.size (.slice oa kn oc) (ks ++ N)) := hkn.out.below hb7
          have B7 : Below w.heap.size w w7 := bel_trans B hb7
          have hp0 : w7.cell? ⟨g7, 0, none⟩ = some (.string (mk p)) := hc7 0 (by simp)
          have hlen7 : (p :: r).length = r.length + 1 := rfl
          rw [hlen7]
          clear hte hb7 hc7 hn7 hlen7
          go_wp2_with fail
          refine (HN.out _).mono ?_; rintro e w8 ⟨rfl, hb8⟩
          have R8 : Hid (Knowns w8 w.heap.size (.slice oa kn oc) (ks ++ N)) := R7.out.below hb8
          have B8 : Below w.heap.size w w8 := bel_trans B7 hb8
          clear hb8 R7 B7 hp0
          go_wp2
          refine ⟨⟨r, P ++ (UInt8.ofNat p.length :: p), N, ?_, ?_, R8, B8, by rw [List.append_nil] at Hnext; exact Hnext, by rw [List.append_nil] at Hlong2; exact Hlong2⟩, ?_⟩
          · rw [mk_append, mk_append]; simp
          · rw [Hext.out]
          · rw [Hext.out]; simp only [strOf, size_mk]; exact Hshort.out

theorem rput_c (at_ : Int) (a : Option Addr) (cap : Nat) (ks : List Kn) (name : ByteArray) (w : World) (hs : name.size ≤ 1048576) (hl : ks.length ≤ 1048576) (hks : ∀ k ∈ ks, k.1.length ≤ 1048576) (hk : KnLies w a ks) (hm : mayPutL at_ ks (bs name) = true) :
    Calls Tryz.prog 47 #[.int .i64 at_, .slice a ks.length cap, .string name] w fun e w' => (∃ v, e = .returned (.tuple #[.string (mk (putS ks (labsL (bs name)))), v, .int .i64 0]) ∧ Knowns w' w.heap.size v (ks ++ putN ks at_ (labsL (bs name)))) ∧ Below w.heap.size w w' := by
  cases a with
  | none =>
    have h0 : ks = [] := by
      rcases hk with h | ⟨x, h, _⟩
      · exact h
      · cases h
    subst h0
    exact rput_nil at_ cap [] rfl name w hs hm
  | some x =>
    refine rput_some at_ x cap ks name w hs hl hks hk ?_ hm
    rcases hk with rfl | ⟨y, hy, h⟩
    · intro j u hj; simp [knCells] at hj
    · cases hy; exact cells_of_from h
theorem rput_no (at_ : Int) (a : Option Addr) (cap : Nat) (ks : List Kn) (name : ByteArray) (w : World) (hs : name.size ≤ 1048576) (hl : ks.length ≤ 1048576) (hks : ∀ k ∈ ks, k.1.length ≤ 1048576) (hk : KnLies w a ks) (hm : mayPutL at_ ks (bs name) = false) :
    Calls Tryz.prog 47 #[.int .i64 at_, .slice a ks.length cap, .string name] w fun e w' => e = .returned (.tuple #[.string ⟨#[]⟩, .slice none 0 0, .int .i64 300]) ∧ Below w.heap.size w w' := by
  by_cases h0 : at_ < 0
  · exact rput_no1 at_ _ name w h0
  · by_cases h1 : 65535 < at_
    · exact rput_no2 at_ _ name w h1
    · cases hn : mayL (bs name) with
      | false => exact rput_no3 at_ _ name w (by omega) (by omega) hs hn
      | true =>
        have hall : ks.all knownL = false := by
          have e0 : (0 ≤ at_) = True := by simp; omega
          have e1 : (at_ ≤ 65535) = True := by simp; omega
          simpa [mayPutL, hn, e0, e1] using hm
        exact rput_no4 at_ a cap ks name w (by omega) (by omega) hs hn (by omega) hks hk hall

end Go.Proofs.YtdmooggmoihggaaGreatDoor
