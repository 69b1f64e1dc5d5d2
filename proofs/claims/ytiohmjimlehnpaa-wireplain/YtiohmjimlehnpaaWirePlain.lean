/-
  Proved here: pinfoldlaw3.WirePlain answers true for every list of numbers and every number (P3.1, T1: a name with nothing known is its labels, each with its length, and a byte 0).
  Conditions: none but the row's own.
-/
import Derived.Test.YtiohmjimlehnpaaAwake3
import Derived.Test.YtiohmjimlehnpaaWireFacts
import Derived.OpenShut
import Derived.ShutString
import Derived.ChangeOld
import Derived.SizedLaws
namespace Go.Proofs.Ytiohmjimlehnpaa.wirePlain
open Go.ChangeShapes Go.WideShapes Go.ChangeAt Go.RowKit Go.Pin Go.PlainAid
open Go.ChangeMaps (open_string shut_string)

/-- What the walk is told of a slice of integers that came in: it is nil; or it leads to a row of 'cap' cells, the numbers 'zs' (the first 'len' are its elements), each fitting its kind; it takes at most the row's own reach. -/
def IsRow (k : IntKind) (w : World) (a : Option Addr) (len cap : Nat) (zs : List Int) : Prop :=
  (a = none ∧ len = 0 ∧ cap = 0 ∧ zs = []) ∨
  ∃ x, a = some x ∧ len ≤ cap ∧ cap ≤ maxLen ∧ zs.length = cap ∧ (∀ i, i < zs.length → w.cell? (x.add i) = some (.int k (zs.getD i 0))) ∧ ∀ n ∈ zs, (Lit.int k n).wf = true


/-- The first letters: as many as a number tells. -/
def labP (m : Nat) : List UInt8 := ([97, 98, 99, 100, 101, 102, 103, 104] : List UInt8).take (1 + m)
theorem labP_c (m : Nat) (h : m < 8) : okL (labP m) = true ∧ (labP m).length = 1 + m ∧ (⟨#[97, 98, 99, 100, 101, 102, 103, 104]⟩ : ByteArray).extract 0 (1 + m) = mk (labP m) := by
  refine ⟨?_, by simp [labP]; omega, ?_⟩
  · rcases (by omega : m = 0 ∨ m = 1 ∨ m = 2 ∨ m = 3 ∨ m = 4 ∨ m = 5 ∨ m = 6 ∨ m = 7) with rfl | rfl | rfl | rfl | rfl | rfl | rfl | rfl
    all_goals decide
  · rw [Lib.extract_eq]; rfl
/-- The low three bits of a number. -/
def low (z : Int) : Nat := (z % 8).toNat
theorem low_c (z : Int) : bits .and .i64 z 7 = (low z : Int) ∧ low z < 8 := by
  have h := i64_mask 3 z (by omega)
  have h0 := Int.emod_nonneg z (b := 8) (by omega)
  have h1 := Int.emod_lt_of_pos z (b := 8) (by omega)
  refine ⟨?_, by unfold low; omega⟩
  rw [show ((low z : Nat) : Int) = z % 8 by unfold low; omega]
  exact h
/-- The labels that the first j numbers tell. -/
def labsOf (zs : List Int) (j : Nat) : List (List UInt8) := (List.range j).map fun i => labP (low (zs.getD i 0))
theorem labsOf_succ (zs : List Int) (j : Nat) : labsOf zs (j + 1) = labsOf zs j ++ [labP (low (zs.getD j 0))] := by simp [labsOf, List.range_succ]
theorem labsOf_len (zs : List Int) (j : Nat) : (labsOf zs j).length = j := by simp [labsOf]
theorem labsOf_ok (zs : List Int) (j : Nat) : ∀ x ∈ labsOf zs j, okL x = true := by
  intro x hx
  simp only [labsOf, List.mem_map] at hx
  obtain ⟨i, _, rfl⟩ := hx
  exact (labP_c _ (low_c _).2).1
/-- Labels, each with its length. -/
def plainB (ls : List (List UInt8)) : List UInt8 := ls.flatMap fun p => UInt8.ofNat p.length :: p
theorem plainB_len {ls : List (List UInt8)} (h : ∀ x ∈ ls, okL x = true) : (plainB ls).length ≤ 9 * ls.length := by
  induction ls with
  | nil => simp [plainB]
  | cons p r ih =>
    have := ih (fun x hx => h x (List.mem_cons_of_mem _ hx))
    have hb := okL_bounds (h p (by simp))
    have e : plainB (p :: r) = (UInt8.ofNat p.length :: p) ++ plainB r := rfl
    rw [e]; simp; omega
theorem putS_plain (ls : List (List UInt8)) : putS [] ls = plainB ls ++ [0] := by
  induction ls with
  | nil => rfl
  | cons p r ih =>
    have e : putS [] (p :: r) = UInt8.ofNat p.length :: (p ++ putS [] r) := rfl
    have e2 : plainB (p :: r) = (UInt8.ofNat p.length :: p) ++ plainB r := rfl
    rw [e, e2, ih]; simp
theorem putN_plain : ∀ (ls : List (List UInt8)) (at_ : Int), (∀ x ∈ ls, okL x = true) → at_ + 9 * ls.length < 16384 → (putN [] at_ ls).length = ls.length
  | [], _, _, _ => rfl
  | p :: r, at_, hok, h => by
    have hb := okL_bounds (hok p (by simp))
    simp only [List.length_cons] at h
    have ih := putN_plain r (at_ + 1 + p.length) (fun x hx => hok x (List.mem_cons_of_mem _ hx)) (by omega)
    have e : putN [] at_ (p :: r) = (if at_ < 16384 then [(join (p :: r), at_)] else []) ++ putN [] (at_ + 1 + p.length) r := rfl
    rw [e, if_pos (by omega)]; simp [ih]

/-- The name, and its bytes, behind j rounds. -/
theorem round_name (zs : List Int) (j : Nat) : join (labsOf zs (j + 1)) = if j = 0 then labP (low (zs.getD j 0)) else join (labsOf zs j) ++ 46 :: labP (low (zs.getD j 0)) := by
  rw [labsOf_succ]
  by_cases h : j = 0
  · subst h; simp [labsOf, join]
  · rw [if_neg h, join_snoc _ _ (by intro e; have := labsOf_len zs j; rw [e] at this; simp at this; omega)]
theorem round_want (zs : List Int) (j : Nat) : plainB (labsOf zs (j + 1)) = plainB (labsOf zs j) ++ (UInt8.ofNat (labP (low (zs.getD j 0))).length :: labP (low (zs.getD j 0))) := by
  rw [labsOf_succ]; simp [plainB]

theorem get_plain {ls : List (List UInt8)} (hok : ∀ x ∈ ls, okL x = true) (h8 : ls.length ≤ 8) : getI (plainB ls ++ [0]) 0 = (join ls, ((plainB ls ++ [0]).length : Int), 0) := by
  have := (put_told (s0 := []) (ks := []) (fun k hk => by cases hk) ls [] 0 hok h8 (Nat.le_refl _)).1
  rw [getI, if_neg (by omega)]
  have g := get_told (at_ := 0) this hok h8
  rw [← putS_plain]
  exact g

set_option maxHeartbeats 1000000 in
set_option maxRecDepth 100000 in
theorem walk_any (a : Option Addr) (len cap : Nat) (zs : List Int) (a1 : Int) (w : World) (hm : len ≤ maxLen) (hc : ∀ i, i < len → ∃ x, a = some x ∧ w.cell? (x.add i) = some (.int .i64 (zs.getD i 0))) :
    Calls Try.prog 6 #[.slice a len cap, .int .i64 a1] w fun e w' => e = .returned (.bool true) ∧ Below w.heap.size w w' := by
  have hm1 := i64_mask 12 a1 (by omega)
  obtain ⟨d, hd, hd1⟩ : ∃ d : Int, a1 % 4096 = d ∧ 0 ≤ d ∧ d < 4096 := ⟨_, rfl, Int.emod_nonneg _ (by omega), Int.emod_lt_of_pos _ (by omega)⟩
  obtain ⟨hd0, hd1⟩ := hd1
  have hm' : bits .and .i64 a1 4095 = d := by rw [← hd]; exact hm1
  clear hm1 hd
  unfold maxLen at hm
  have HC : Hid (∀ i, i < len → ∃ x, a = some x ∧ w.cell? (x.add i) = some (.int .i64 (zs.getD i 0))) := hc
  have hcv : ∀ (w : World) (n : Int), (convert 39 9 (.slice (some ⟨w.heap.size, 0, none⟩) 1 1)).run Try.prog (w.alloc (.cells #[.int .u8 n] 5)) = .ok (.string (str [n])) (w.alloc (.cells #[.int .u8 n] 5)) :=
    fun w n => conv_new w 39 9 5 5 1 [n] 1 _ rfl rfl Try.underlying39 Try.underlying5 Try.underlying9
  clear hc
  go_enter Try.func6, Try.ntmps6
  go_wp2_with fail
  refine (awake_yes _).mono ?_; rintro e x1 ⟨rfl, B⟩
  go_wp2_with fail
  go_loopw [5, 6, 7] (fun n s i wr => ∃ j : Nat, j ≤ len ∧ j ≤ 8 ∧ i = .int .i64 j ∧ n = .string (mk (join (labsOf zs j))) ∧ s = .string (mk (plainB (labsOf zs j))) ∧ Below w.heap.size w wr) (fun _ _ i _ => 8 - (intOf i).toNat)
  case atStart => exact ⟨0, Nat.zero_le _, by omega, rfl, rfl, rfl, B⟩
  case round =>
    clear B
    obtain ⟨j, hj, hj8, rfl, rfl, rfl, B⟩ := hrel
    have hnl := join_len _ (labsOf_ok zs j)
    have hsl := plainB_len (labsOf_ok zs j)
    rw [labsOf_len] at hnl hsl
    have hns := size_mk (join (labsOf zs j))
    have hss := size_mk (plainB (labsOf zs j))
    by_cases hlt : j < len ∧ j < 8
    · obtain ⟨hlt, hlt8⟩ := hlt
      obtain ⟨x, rfl, hcell⟩ := HC.out j hlt
      have hcell2 := (B.cell (World.block_lt_of_cell? w _ hcell)).trans hcell
      have Hn := round_name zs j
      have Hw := round_want zs j
      obtain ⟨hlo, hlo8⟩ := low_c (zs.getD j 0)
      obtain ⟨_, hpl, hpx⟩ := labP_c _ hlo8
      generalize zs.getD j 0 = z at *
      generalize low z = m at *
      have Hn' : Hid (_) := Hn
      have Hw' : Hid (_) := Hw
      generalize hP : labP m = P at *
      generalize hN : join (labsOf zs j) = N at *
      generalize hS : plainB (labsOf zs j) = S at *
      have hPs := size_mk P
      have HN : Hid (_) := hN
      clear Hn Hw hcell hP hN hS
      have hs1 : (str [1 + (m : Int)]).size = 1 := size_str _
      have Hs1 : Hid (str [1 + (m : Int)] = mk [UInt8.ofNat P.length]) := by
        rw [hpl]
        show str [1 + (m : Int)] = mk [UInt8.ofNat (1 + m)]
        unfold str mk
        simp only [List.map_cons, List.map_nil]
        rw [show (1 + (m : Int)).toNat = 1 + m by omega]
      have H46 : Hid ((⟨#[46]⟩ : ByteArray) = mk [46]) := rfl
      by_cases hj0 : j = 0
      · rw [if_pos hj0] at Hn'
        have HN0 : Hid (N = []) := by rw [← HN.out, hj0]; rfl
        have hj1 : j < 1 := by omega
        clear hj0
        go_wp2
        refine ⟨⟨j + 1, by omega, by omega, by go_num, ?_, ?_, B.alloc B.size _⟩, by simp [intOf]; omega⟩
        · rw [Hn'.out, HN0.out, mk_append]; rfl
        · rw [Hw'.out, Hs1.out, mk_append, mk_append]; simp
      · rw [if_neg hj0] at Hn'
        go_wp2
        refine ⟨⟨j + 1, by omega, by omega, by go_num, ?_, ?_, B.alloc B.size _⟩, by simp [intOf]; omega⟩
        · rw [Hn'.out, H46.out, mk_append, mk_append]; simp
        · rw [Hw'.out, Hs1.out, mk_append, mk_append]; simp
    · clear hcv HC
      have hok := labsOf_ok zs j
      have hLl := labsOf_len zs j
      have hfin : Hid (j = len ∧ len ≤ 8 ∨ j = 8 ∧ 8 < len) := by show _ ∨ _; omega
      generalize labsOf zs j = L at *
      have hmay := may_join (ls := L) (by omega) hok
      have hS : mk (plainB L) ++ ⟨#[0]⟩ = mk (plainB L ++ [0]) := by rw [← mk_append]; rfl
      have HP : Hid (∀ w, Calls Try.prog 11 #[.int .i64 d, .slice none 0 0, .string (mk (join L))] w fun e w' => (∃ a cap, e = .returned (.tuple #[.string (mk (plainB L) ++ ⟨#[0]⟩), .slice a j cap, .int .i64 0])) ∧ Below w.heap.size w w') := by
        intro w
        rw [hS]
        refine (wput_nil d 0 (putN [] d L) (mk (join L)) (mk (plainB L ++ [0])) w (by unfold maxLen; omega) ?_ ?_ ?_).mono ?_
        · simp [mayPutL, bs_mk, hmay.1]; omega
        · rw [bs_mk, hmay.2, putS_plain]
        · rw [bs_mk, hmay.2]
        · rintro e w' ⟨⟨v, rfl, hk⟩, hb⟩
          obtain ⟨a, c, rfl⟩ := hk.form
          rw [putN_plain L d hok (by omega), hLl]
          exact ⟨⟨a, c, rfl⟩, hb⟩
      have HG : Hid (∀ w, Calls Try.prog 13 #[.string (mk (plainB L) ++ ⟨#[0]⟩), .int .i64 0] w fun e w' => e = .returned (.tuple #[.string (mk (join L)), .int .i64 ((plainB L).length + 1), .int .i64 0]) ∧ Below w.heap.size w w') := by
        intro w
        rw [hS]
        refine get_is (mk (plainB L ++ [0])) 0 (mk (join L)) _ 0 w (by rw [size_mk]; simp; omega) ?_
        rw [bs_mk, bs_mk, get_plain hok (by omega)]
        simp
      have hsz : (mk (plainB L) ++ ⟨#[0]⟩).size = (plainB L).length + 1 := by rw [hS, size_mk]; simp
      generalize hcat : mk (plainB L) ++ ⟨#[0]⟩ = S at *
      clear hok hLl hmay hS
      have hmin : ∀ (w : World) (ts : Array TypeId) (t : TypeId), (Builtin.min_ ts t #[.int .i64 len, .int .i64 8]).run Try.prog w = .ok (.int .i64 j) w := fun w ts t => by
        have := hfin.out
        rw [run_min_int2]
        by_cases h : (8 : Int) < (len : Int)
        · rw [if_pos h, show (j : Int) = 8 by omega]
        · rw [if_neg h, show (j : Int) = len by omega]
      rcases hfin.out with ⟨rfl, h8⟩ | ⟨rfl, h8⟩
      all_goals
        clear hlt hfin
        go_wp2_with fail
        refine (HP.out _).mono ?_; rintro e w2 ⟨⟨va, vc, rfl⟩, hb⟩
        replace B := bel_trans B hb
        clear hb
        go_wp2_with fail
        refine (HG.out _).mono ?_; rintro e w3 ⟨rfl, hb⟩
        replace B := bel_trans B hb
        clear hb
        go_wp2_with (go_at_call 16; refine (num_any _ _).mono ?_; rintro e w4 ⟨rfl, rfl⟩)
        go_ret
        exact ⟨rfl, B⟩

theorem walk (a0 : Option Addr) (len0 cap0 : Nat) (z0 : List Int) (a1 : Int) (w : World) (w0 : IsRow .i64 w a0 len0 cap0 z0) (_w1 : (Lit.int .i64 a1).wf = true) :
    Calls Try.prog 6 #[.slice a0 len0 cap0, .int .i64 a1] w fun e w' => e = .returned (.bool true) ∧ Below w.heap.size w w' := by
  rcases w0 with ⟨rfl, rfl, rfl, rfl⟩ | ⟨x, rfl, hl, hm, hz, hc, _⟩
  · exact walk_any none 0 0 [] a1 w (by unfold maxLen; omega) (fun i hi => by omega)
  · exact walk_any (some x) len0 cap0 z0 a1 w (by omega) (fun i hi => ⟨x, rfl, hc i (by omega)⟩)

theorem own : ownKnob Try.prog.godebug = none := by kernel_rfl
theorem laidOut : laidOutB Try.prog = true := by kernel_rfl

/-! ### The row's step -/
set_option maxRecDepth 100000 in
theorem lifted (os : Os) (started : os.Started) (H : Type) (enc : TypeId × Value → H) :
    ReturnsInHanded {} Try.checked os 6 .any (Rows.wirePlainSpec.pre6 enc Try.prog Try.f6 Rows.wirePlainRow.domain false) (Rows.wirePlainSpec.post enc Try.prog Try.f6 false true false false) := by
  refine returnsInHanded_of_change_sized (C := Try.checked) own started (by kernel_rfl) Try.func6
    (ChangeSpec.witness6 (enc := enc) (C := Try.checked) false ⟨#[], #[.slice none 0 0, .int .i64 0], []⟩ 8 (by kernel_rfl) (by kernel_rfl) (by kernel_rfl) (by kernel_rfl)) ?_
  intro W base args ds gs before hval0 hW _ hsz0 _
  have hval : ∀ (j : Nat) t v, Try.f6.params[j]? = some t → args[j]? = some v → Value.okWide Try.prog W .any base t v := hval0
  have hsz : (DataW.weightsEach Try.prog (Try.f6.params.toList ++ Rows.wirePlainSpec.plain.varTypes Try.prog) (ds ++ gs)).all (· ≤ reachBytes) = true := hsz0
  have hW' := hW
  obtain ⟨p, q, hA0, hV, rfl, _, _⟩ := hW
  have hA : DataW.TrodAll enc Try.prog W 0 (fun _ => true) true Try.f6.params.toList args.toList ds p := hA0
  rw [Try.params6] at hA hval hsz
  obtain ⟨v0, vs0, d0, ds0, p0, q0, hargs, rfl, rfl, h0, r0⟩ := trodAll_cons hA
  obtain ⟨v1, vs1, d1, ds1, p1, q1, rfl, rfl, rfl, h1, r1⟩ := trodAll_cons r0
  obtain ⟨rfl, rfl, rfl⟩ := trodAll_nil r1
  obtain rfl : args = #[v0, v1] := by cases args; simp_all
  obtain ⟨rfl, rfl⟩ := trodVars_none hV
  obtain ⟨a0, len0, cap0, rfl⟩ := okWide_slice Try.underlying40 (hval 0 40 v0 rfl rfl)
  have k0 := h0
  have lt0 : ∀ x ∈ p0, x.block < W.heap.size := by obtain ⟨m, hm⟩ := k0; exact DataW.trod_lt m _ _ _ hm
  obtain ⟨z0, w0⟩ : ∃ zs, IsRow .i64 W a0 len0 cap0 zs := by
    obtain ⟨fuel, hf⟩ := h0
    rcases open_ints Try.underlying40 Try.underlying3 (by kernel_rfl) hf with ⟨hcs, _⟩ | ⟨x, l, c, zs, hcs, _, hl, hm, hz, _, hcell, hwz⟩
    · simp [Value.cells] at hcs
      obtain ⟨rfl, rfl, rfl⟩ := hcs
      exact ⟨[], .inl ⟨rfl, rfl, rfl, rfl⟩⟩
    · simp [Value.cells] at hcs
      obtain ⟨rfl, rfl, rfl⟩ := hcs
      exact ⟨zs, .inr ⟨_, rfl, hl, hm, by simpa using hz, hcell, hwz⟩⟩
  obtain ⟨a1, rfl, rfl, rfl, w1⟩ := open_int Try.underlying3 (hval 1 3 v1 rfl rfl) h1
  clear hA0 hval0 hsz0
  refine (walk a0 len0 cap0 z0 a1 W w0 w1).mono fun e W' ⟨he, bel⟩ => ?_
  subst he
  exact ⟨_, rfl, _, _, _, [], _, [], hW', trodAll_mk1 (shut_bool Try.underlying4 _), (trodAll_cons_mk (Below.trod laidOut (by kernel_rfl) (of_decide_eq_true (by kernel_rfl)) k0 bel lt0) (trodAll_cons_mk (shut_int Try.underlying3 w1) trodAll_mk0)), rfl, bel.frame _, fun h => by cases h⟩

theorem over : Rows.wirePlainRow.holds Try.pinned (OpenSpec.ofChange Rows.wirePlainSpec) :=
  OpenClaim.holds_of_wide 6 Try.f6 rfl rfl rfl rfl rfl rfl rfl ⟨rfl, rfl, rfl, rfl, rfl⟩ rfl rfl rfl rfl rfl (by kernel_rfl) Try.func6 (by kernel_rfl)
    (of_decide_eq_true (by kernel_rfl)) (by unfold Func.isWrapper; first | (rw [if_pos (by decide +kernel)]; kernel_rfl) | (rw [if_neg (by decide +kernel)]; exact ⟨rfl, rfl⟩))
    (fun os started H enc _ => lifted os started H enc)

/-- The given statement. -/
theorem proved : Rows.WirePlainSaid := over

end Go.Proofs.Ytiohmjimlehnpaa.wirePlain
namespace Go.Proofs.Ytiohmjimlehnpaa
theorem wirePlain_proved : Rows.WirePlainSaid := wirePlain.proved
#print axioms wirePlain_proved
end Go.Proofs.Ytiohmjimlehnpaa
