/-
  Proved here: pinfoldlaw3.WireFolds answers true for every list of numbers (P3.2, T1: great letters on the way in are small ones).
  Conditions: none but the row's own.
-/
import Derived.Test.YtiohmjimlehnpaaAwake3
import Derived.Test.YtiohmjimlehnpaaWireFacts
import Derived.OpenShut
import Derived.ShutString
import Derived.ChangeOld
import Derived.SizedLaws
namespace Go.Proofs.Ytiohmjimlehnpaa.wireFolds
open Go.ChangeShapes Go.WideShapes Go.ChangeAt Go.RowKit Go.Pin Go.PlainAid
open Go.ChangeMaps (open_string shut_string)

/-- What the walk is told of a slice of integers that came in: it is nil; or it leads to a row of 'cap' cells, the numbers 'zs' (the first 'len' are its elements), each fitting its kind; it takes at most the row's own reach. -/
def IsRow (k : IntKind) (w : World) (a : Option Addr) (len cap : Nat) (zs : List Int) : Prop :=
  (a = none ∧ len = 0 ∧ cap = 0 ∧ zs = []) ∨
  ∃ x, a = some x ∧ len ≤ cap ∧ cap ≤ maxLen ∧ zs.length = cap ∧ (∀ i, i < zs.length → w.cell? (x.add i) = some (.int k (zs.getD i 0))) ∧ ∀ n ∈ zs, (Lit.int k n).wf = true


/-- Which letter a number tells; whether it is a great one. -/
def letter (z : Int) : Nat := (z % 256).toNat % 26
def great (z : Int) : Bool := decide (z / 256 % 2 = 1)
def small (z : Int) : UInt8 := UInt8.ofNat (97 + letter z)
def raw (z : Int) : UInt8 := if great z then UInt8.ofNat (65 + letter z) else UInt8.ofNat (97 + letter z)
theorem letter_c (z : Int) : ((bits .and .i64 z 255).tmod 26) = (letter z : Int) ∧ letter z < 26 := by
  have h := i64_mask 8 z (by omega)
  have e : bits .and .i64 z 255 = z % 256 := h
  have h0 := Int.emod_nonneg z (b := 256) (by omega)
  rw [e]
  unfold letter
  refine ⟨?_, Nat.mod_lt _ (by omega)⟩
  rw [Int.tmod_eq_emod_of_nonneg h0]
  omega
theorem great_c (z : Int) : bits .and .i64 (z / 256) 1 = if great z then 1 else 0 := by
  have h := i64_mask 1 (z / 256) (by omega)
  have e : bits .and .i64 (z / 256) 1 = z / 256 % 2 := h
  rw [e]
  unfold great
  by_cases hh : z / 256 % 2 = 1
  · simp [hh]
  · simp [hh]; omega
theorem fold_raw (z : Int) : foldL [raw z] = [small z] ∧ okL [small z] = true := by
  have hl := (letter_c z).2
  have key : ∀ m, m < 26 → foldL [UInt8.ofNat (65 + m)] = [UInt8.ofNat (97 + m)] ∧ foldL [UInt8.ofNat (97 + m)] = [UInt8.ofNat (97 + m)] ∧ okL [UInt8.ofNat (97 + m)] = true := by decide
  obtain ⟨k1, k2, k3⟩ := key _ hl
  unfold raw small
  refine ⟨?_, k3⟩
  split
  · exact k1
  · exact k2
def bodyOf (rs : List UInt8) : List UInt8 := rs.flatMap fun r => [1, r]
theorem body_len (rs : List UInt8) : (bodyOf rs).length = 2 * rs.length := by
  induction rs with
  | nil => rfl
  | cons r rs ih =>
    have e : bodyOf (r :: rs) = 1 :: r :: bodyOf rs := rfl
    rw [e]; simp [ih]; omega
theorem stands_body : ∀ (rs pre : List UInt8) (row : Nat), Stands (pre ++ bodyOf rs ++ [0]) (rs.map fun r => foldL [r]) pre.length row (pre ++ bodyOf rs ++ [0]).length
  | [], pre, row => by
    refine ⟨?_, ?_⟩
    · simp [bodyOf]
    · simp [bodyOf]
  | r :: rs, pre, row => by
    have e : pre ++ bodyOf (r :: rs) ++ [0] = (pre ++ [1, r]) ++ bodyOf rs ++ [0] := by simp [bodyOf]
    have ih := stands_body rs (pre ++ [1, r]) row
    rw [← e] at ih
    refine ⟨⟨[r], bodyOf rs ++ [0], rfl, ?_⟩, .inl ?_⟩
    · rw [e]; simp
    · have hl : (pre ++ [1, r]).length = pre.length + 1 + (foldL [r]).length := by simp [foldL]
      rw [hl] at ih
      exact ih
/-- What the first j numbers tell. -/
def rawsOf (zs : List Int) (j : Nat) : List UInt8 := (List.range j).map fun i => raw (zs.getD i 0)
def labsOf (zs : List Int) (j : Nat) : List (List UInt8) := (List.range j).map fun i => [small (zs.getD i 0)]
theorem labs_raws (zs : List Int) (j : Nat) : (rawsOf zs j).map (fun r => foldL [r]) = labsOf zs j := by
  simp only [rawsOf, labsOf, List.map_map]
  exact List.map_congr_left fun i _ => (fold_raw _).1
theorem labsOf_len (zs : List Int) (j : Nat) : (labsOf zs j).length = j := by simp [labsOf]
theorem labsOf_ok (zs : List Int) (j : Nat) : ∀ x ∈ labsOf zs j, okL x = true := by
  intro x hx
  simp only [labsOf, List.mem_map] at hx
  obtain ⟨i, _, rfl⟩ := hx
  exact (fold_raw _).2
theorem get_body (zs : List Int) (j : Nat) (h8 : j ≤ 8) (pre : List UInt8) : getI (pre ++ bodyOf (rawsOf zs j) ++ [0]) pre.length = (join (labsOf zs j), ((pre.length + 2 * j + 1 : Nat) : Int), 0) := by
  have := stands_body (rawsOf zs j) pre pre.length
  rw [labs_raws] at this
  rw [getI, if_neg (by omega), Int.toNat_natCast, get_told (.inl this) (labsOf_ok zs j) (by rw [labsOf_len]; exact h8)]
  congr 2
  simp [body_len, rawsOf]
  omega
theorem round_name (zs : List Int) (j : Nat) : join (labsOf zs (j + 1)) = if j = 0 then [small (zs.getD j 0)] else join (labsOf zs j) ++ 46 :: [small (zs.getD j 0)] := by
  have e : labsOf zs (j + 1) = labsOf zs j ++ [[small (zs.getD j 0)]] := by simp [labsOf, List.range_succ]
  rw [e]
  by_cases h : j = 0
  · subst h; simp [labsOf, join]
  · rw [if_neg h, join_snoc _ _ (by intro e; have := labsOf_len zs j; rw [e] at this; simp at this; omega)]
theorem round_body (zs : List Int) (j : Nat) : bodyOf (rawsOf zs (j + 1)) = bodyOf (rawsOf zs j) ++ [1, raw (zs.getD j 0)] := by
  simp [rawsOf, bodyOf, List.range_succ]
theorem str_one (n : Nat) : str [(n : Int)] = mk [UInt8.ofNat n] := rfl

set_option maxHeartbeats 1000000 in
set_option maxRecDepth 100000 in
theorem walk_any (a : Option Addr) (len cap : Nat) (zs : List Int) (w : World) (_hm : len ≤ maxLen) (hc : ∀ i, i < len → ∃ x, a = some x ∧ w.cell? (x.add i) = some (.int .i64 (zs.getD i 0))) :
    Calls Try.prog 8 #[.slice a len cap] w fun e w' => e = .returned (.bool true) ∧ Below w.heap.size w w' := by
  unfold maxLen at _hm
  have HC : Hid (∀ i, i < len → ∃ x, a = some x ∧ w.cell? (x.add i) = some (.int .i64 (zs.getD i 0))) := hc
  have hcv : ∀ (w : World) (n : Int), (convert 39 9 (.slice (some ⟨w.heap.size, 0, none⟩) 1 1)).run Try.prog (w.alloc (.cells #[.int .u8 n] 5)) = .ok (.string (str [n])) (w.alloc (.cells #[.int .u8 n] 5)) :=
    fun w n => conv_new w 39 9 5 5 1 [n] 1 _ rfl rfl Try.underlying39 Try.underlying5 Try.underlying9
  have hcv2 : ∀ (w : World) (o : Obj) (n : Int), (convert 39 9 (.slice (some ⟨w.heap.size + 1, 0, none⟩) 1 1)).run Try.prog ((w.alloc o).alloc (.cells #[.int .u8 n] 5)) = .ok (.string (str [n])) ((w.alloc o).alloc (.cells #[.int .u8 n] 5)) := by
    intro w o n
    have := hcv (w.alloc o) n
    rwa [World.size_alloc] at this
  clear hc
  go_enter Try.func8, Try.ntmps8
  go_wp2_with fail
  refine (awake_yes _).mono ?_; rintro e x1 ⟨rfl, B⟩
  go_wp2_with fail
  go_loopw [3, 4, 5] (fun s n i wr => ∃ j : Nat, j ≤ len ∧ j ≤ 8 ∧ i = .int .i64 j ∧ n = .string (mk (join (labsOf zs j))) ∧ s = .string (mk (bodyOf (rawsOf zs j))) ∧ Below w.heap.size w wr) (fun _ _ i _ => 8 - (intOf i).toNat)
  case atStart => exact ⟨0, Nat.zero_le _, by omega, rfl, rfl, rfl, B⟩
  case round =>
    clear B
    obtain ⟨j, hj, hj8, rfl, rfl, rfl, B⟩ := hrel
    have hnl := join_len _ (labsOf_ok zs j)
    have hsl := body_len (rawsOf zs j)
    rw [labsOf_len] at hnl
    rw [show (rawsOf zs j).length = j by simp [rawsOf]] at hsl
    have hns := size_mk (join (labsOf zs j))
    have hss := size_mk (bodyOf (rawsOf zs j))
    by_cases hlt : j < len ∧ j < 8
    · obtain ⟨hlt, hlt8⟩ := hlt
      obtain ⟨x, rfl, hcell⟩ := HC.out j hlt
      have hcell2 := (B.cell (World.block_lt_of_cell? w _ hcell)).trans hcell
      have Hn := round_name zs j
      have Hw := round_body zs j
      obtain ⟨hlo, hlo8⟩ := letter_c (zs.getD j 0)
      have hgr := great_c (zs.getD j 0)
      have hblt : (x.add j).block < wr.heap.size := World.block_lt_of_cell? wr _ hcell2
      generalize hzz : zs.getD j 0 = z at *
      have hcell3 : ∀ o, (wr.alloc o).cell? (x.add j) = some (.int .i64 z) := fun o => (((Below.refl wr.heap.size wr).alloc (Nat.le_refl _) o).cell hblt).trans hcell2
      have hraw : raw z = if great z then UInt8.ofNat (65 + letter z) else UInt8.ofNat (97 + letter z) := rfl
      have hsm : small z = UInt8.ofNat (97 + letter z) := rfl
      generalize letter z = m at *
      have HN : Hid (j = 0 → join (labsOf zs j) = []) := by intro h; rw [h]; rfl
      generalize join (labsOf zs j) = N at *
      generalize bodyOf (rawsOf zs j) = S at *
      rw [hsm] at Hn
      have Hn' : Hid (_) := Hn
      have hs1 : (str [97 + (m : Int)]).size = 1 := size_str _
      have Hs1 : Hid (str [97 + (m : Int)] = mk [UInt8.ofNat (97 + m)]) := str_one (97 + m)
      have H46 : Hid ((⟨#[46]⟩ : ByteArray) = mk [46] ∧ (⟨#[1]⟩ : ByteArray) = mk [1]) := ⟨rfl, rfl⟩
      have hj01 : j < 1 ∨ 0 < j := by omega
      cases hg : great z with
      | true =>
        rw [hg] at hgr hraw
        simp only [if_true] at hgr hraw
        rw [hraw] at Hw
        have Hw' : Hid (_) := Hw
        have hs2 : (str [97 + (m : Int) - 32]).size = 1 := size_str _
        have Hs2 : Hid (str [97 + (m : Int) - 32] = mk [UInt8.ofNat (65 + m)]) := by rw [show 97 + (m : Int) - 32 = ((65 + m : Nat) : Int) by omega]; exact str_one (65 + m)
        clear Hn Hw hcell hzz hraw hsm hg
        rcases hj01 with hj0 | hj0
        · go_wp2
          refine ⟨⟨j + 1, by omega, by omega, by go_num, ?_, ?_, (B.alloc B.size _).alloc (by simp; have := B.size; omega) _⟩, by simp [intOf]; omega⟩
          · have hj' : j = 0 := by omega
            rw [Hn'.out, if_pos hj', HN.out hj', Hs1.out, mk_append]; rfl
          · rw [Hw'.out, Hs2.out, H46.out.2, mk_append, mk_append]; simp
        · go_wp2
          refine ⟨⟨j + 1, by omega, by omega, by go_num, ?_, ?_, (B.alloc B.size _).alloc (by simp; have := B.size; omega) _⟩, by simp [intOf]; omega⟩
          · rw [Hn'.out, if_neg (by omega), Hs1.out, H46.out.1, mk_append, mk_append]; simp
          · rw [Hw'.out, Hs2.out, H46.out.2, mk_append, mk_append]; simp
      | false =>
        rw [hg] at hgr hraw
        simp only [Bool.false_eq_true, if_false] at hgr hraw
        rw [hraw] at Hw
        have Hw' : Hid (_) := Hw
        clear Hn Hw hcell hzz hraw hsm hg
        rcases hj01 with hj0 | hj0
        · go_wp2
          refine ⟨⟨j + 1, by omega, by omega, by go_num, ?_, ?_, (B.alloc B.size _).alloc (by simp; have := B.size; omega) _⟩, by simp [intOf]; omega⟩
          · have hj' : j = 0 := by omega
            rw [Hn'.out, if_pos hj', HN.out hj', Hs1.out, mk_append]; rfl
          · rw [Hw'.out, Hs1.out, H46.out.2, mk_append, mk_append]; simp
        · go_wp2
          refine ⟨⟨j + 1, by omega, by omega, by go_num, ?_, ?_, (B.alloc B.size _).alloc (by simp; have := B.size; omega) _⟩, by simp [intOf]; omega⟩
          · rw [Hn'.out, if_neg (by omega), Hs1.out, H46.out.1, mk_append, mk_append]; simp
          · rw [Hw'.out, Hs1.out, H46.out.2, mk_append, mk_append]; simp
    · clear hcv hcv2 HC
      have hlen : Hid ((labsOf zs j).length = j) := labsOf_len zs j
      have hS0 : mk (bodyOf (rawsOf zs j)) ++ ⟨#[0]⟩ = mk ([] ++ bodyOf (rawsOf zs j) ++ [0]) := by rw [← mk_append]; rfl
      have hS2 : ⟨#[122, 122]⟩ ++ mk (bodyOf (rawsOf zs j)) ++ ⟨#[0]⟩ = mk ([122, 122] ++ bodyOf (rawsOf zs j) ++ [0]) := by rw [← mk_append, ← mk_append]; rfl
      have G0 : Hid (∀ w, Calls Try.prog 13 #[.string (mk (bodyOf (rawsOf zs j)) ++ ⟨#[0]⟩), .int .i64 0] w fun e w' => e = .returned (.tuple #[.string (mk (join (labsOf zs j))), .int .i64 ((bodyOf (rawsOf zs j)).length + 1), .int .i64 0]) ∧ Below w.heap.size w w') := by
        intro w
        rw [hS0]
        refine get_is _ 0 _ _ 0 w (by rw [size_mk]; simp; omega) ?_
        have := get_body zs j hj8 []
        rw [bs_mk, bs_mk]
        refine this.trans ?_
        congr 2
        rw [hsl]; simp
      have G2 : Hid (∀ w, Calls Try.prog 13 #[.string (⟨#[122, 122]⟩ ++ mk (bodyOf (rawsOf zs j)) ++ ⟨#[0]⟩), .int .i64 2] w fun e w' => e = .returned (.tuple #[.string (mk (join (labsOf zs j))), .int .i64 ((bodyOf (rawsOf zs j)).length + 3), .int .i64 0]) ∧ Below w.heap.size w w') := by
        intro w
        rw [hS2]
        refine get_is _ 2 _ _ 0 w (by rw [size_mk]; simp; omega) ?_
        have := get_body zs j hj8 [122, 122]
        rw [bs_mk, bs_mk]
        refine this.trans ?_
        congr 2
        rw [hsl]; simp; omega
      clear hS0 hS2
      generalize join (labsOf zs j) = N at *
      generalize bodyOf (rawsOf zs j) = S at *
      have hfin : j < len ∧ 8 ≤ j ∨ len ≤ j := by omega
      clear hlt hlen
      rcases hfin with ⟨h1, h2⟩ | h1
      all_goals
        go_wp2_with fail
        refine (G0.out _).mono ?_; rintro e w2 ⟨rfl, hb⟩
        replace B := bel_trans B hb
        clear hb
        go_wp2_with fail
        refine (G2.out _).mono ?_; rintro e w3 ⟨rfl, hb⟩
        replace B := bel_trans B hb
        clear hb
        go_wp2_with (go_at_call 16; refine (num_any _ _).mono ?_; rintro e w4 ⟨rfl, rfl⟩)
        go_ret
        exact ⟨rfl, B⟩

theorem walk (a0 : Option Addr) (len0 cap0 : Nat) (z0 : List Int) (w : World) (w0 : IsRow .i64 w a0 len0 cap0 z0) :
    Calls Try.prog 8 #[.slice a0 len0 cap0] w fun e w' => e = .returned (.bool true) ∧ Below w.heap.size w w' := by
  rcases w0 with ⟨rfl, rfl, rfl, rfl⟩ | ⟨x, rfl, hl, hm, hz, hc, _⟩
  · exact walk_any none 0 0 [] w (by unfold maxLen; omega) (fun i hi => by omega)
  · exact walk_any (some x) len0 cap0 z0 w (by omega) (fun i hi => ⟨x, rfl, hc i (by omega)⟩)

theorem own : ownKnob Try.prog.godebug = none := by kernel_rfl
theorem laidOut : laidOutB Try.prog = true := by kernel_rfl

/-! ### The row's step -/
set_option maxRecDepth 100000 in
theorem lifted (os : Os) (started : os.Started) (H : Type) (enc : TypeId × Value → H) :
    ReturnsInHanded {} Try.checked os 8 .any (Rows.wireFoldsSpec.pre6 enc Try.prog Try.f8 Rows.wireFoldsRow.domain false) (Rows.wireFoldsSpec.post enc Try.prog Try.f8 false true false false) := by
  refine returnsInHanded_of_change_sized (C := Try.checked) own started (by kernel_rfl) Try.func8
    (ChangeSpec.witness6 (enc := enc) (C := Try.checked) false ⟨#[], #[.slice none 0 0], []⟩ 8 (by kernel_rfl) (by kernel_rfl) (by kernel_rfl) (by kernel_rfl)) ?_
  intro W base args ds gs before hval0 hW _ hsz0 _
  have hval : ∀ (j : Nat) t v, Try.f8.params[j]? = some t → args[j]? = some v → Value.okWide Try.prog W .any base t v := hval0
  have hsz : (DataW.weightsEach Try.prog (Try.f8.params.toList ++ Rows.wireFoldsSpec.plain.varTypes Try.prog) (ds ++ gs)).all (· ≤ reachBytes) = true := hsz0
  have hW' := hW
  obtain ⟨p, q, hA0, hV, rfl, _, _⟩ := hW
  have hA : DataW.TrodAll enc Try.prog W 0 (fun _ => true) true Try.f8.params.toList args.toList ds p := hA0
  rw [Try.params8] at hA hval hsz
  obtain ⟨v0, vs0, d0, ds0, p0, q0, hargs, rfl, rfl, h0, r0⟩ := trodAll_cons hA
  obtain ⟨rfl, rfl, rfl⟩ := trodAll_nil r0
  obtain rfl : args = #[v0] := by cases args; simp_all
  obtain ⟨rfl, rfl⟩ := trodVars_none hV
  obtain ⟨a0, len0, cap0, rfl⟩ := okWide_slice Try.underlying40 (hval 0 40 v0 rfl rfl)
  have k0 := h0
  have lt0 : ∀ x ∈ p0, x.block < W.heap.size := by obtain ⟨m, hm⟩ := k0; exact DataW.trod_lt m _ _ _ hm
  obtain ⟨z0, w0⟩ : ∃ zs, IsRow .i64 W a0 len0 cap0 zs := by
    obtain ⟨fuel, hf⟩ := h0
    rcases open_ints Try.underlying40 Try.underlying3 (by kernel_rfl) hf with ⟨hcs, _⟩ | ⟨x, l, c, zs, hcs, _, hl, hm, hz, _, hcell, hwz⟩
    · simp [Value.cells] at hcs
      obtain ⟨rfl, rfl, rfl⟩ := hcs
      exact ⟨[], .inl ⟨rfl, rfl, rfl, rfl⟩⟩
    · simp [Value.cells] at hcs
      obtain ⟨rfl, rfl, rfl⟩ := hcs
      exact ⟨zs, .inr ⟨_, rfl, hl, hm, by simpa using hz, hcell, hwz⟩⟩
  clear hA0 hval0 hsz0
  refine (walk a0 len0 cap0 z0 W w0).mono fun e W' ⟨he, bel⟩ => ?_
  subst he
  exact ⟨_, rfl, _, _, _, [], _, [], hW', trodAll_mk1 (shut_bool Try.underlying4 _), (trodAll_cons_mk (Below.trod laidOut (by kernel_rfl) (of_decide_eq_true (by kernel_rfl)) k0 bel lt0) trodAll_mk0), rfl, bel.frame _, fun h => by cases h⟩

theorem over : Rows.wireFoldsRow.holds Try.pinned (OpenSpec.ofChange Rows.wireFoldsSpec) :=
  OpenClaim.holds_of_wide 8 Try.f8 rfl rfl rfl rfl rfl rfl rfl ⟨rfl, rfl, rfl, rfl, rfl⟩ rfl rfl rfl rfl rfl (by kernel_rfl) Try.func8 (by kernel_rfl)
    (of_decide_eq_true (by kernel_rfl)) (by unfold Func.isWrapper; first | (rw [if_pos (by decide +kernel)]; kernel_rfl) | (rw [if_neg (by decide +kernel)]; exact ⟨rfl, rfl⟩))
    (fun os started H enc _ => lifted os started H enc)

/-- The given statement. -/
theorem proved : Rows.WireFoldsSaid := over

end Go.Proofs.Ytiohmjimlehnpaa.wireFolds
namespace Go.Proofs.Ytiohmjimlehnpaa
theorem wireFolds_proved : Rows.WireFoldsSaid := wireFolds.proved
#print axioms wireFolds_proved
end Go.Proofs.Ytiohmjimlehnpaa
