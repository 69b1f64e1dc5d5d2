/-
  pinfoldlaw6.OptsForms, at every two numbers: it returns true. No condition.
-/
import Derived.Test.YtegoaaamlfehpaaAwake6
import Derived.Test.YtegoaaamlfehpaaMade
import Derived.Deep.DeepCutAuto
import Derived.Deep.CutRange
import Derived.WalkKit
import Derived.ProofKit
import Derived.OpenShut
import Derived.ShutString
import Derived.ChangeOld
import Derived.SizedLaws
import Derived.Carry
namespace Go.Proofs.Ytegoaaamlfehpaa
namespace optsForms
open Go.ChangeShapes Go.WideShapes Go.ChangeAt Go.RowKit Go.Pin Go.PlainAid

theorem oPut_many (a : Option Addr) (n cap : Nat) (w : World) (h : 32 < n) :
    Calls Try.prog 6 #[.slice a n cap] w fun e w' => e = .returned (.tuple #[.string ⟨#[]⟩, .int .i64 600]) ∧ Below w.heap.size w w' := by
  have HM : Hid (∀ w, _) := fun w => mayBe_many a n cap w h
  clear h
  go_enter Try.func6, Try.ntmps6
  go_wp2_with fail
  refine (HM.out _).mono ?_; rintro e w1 ⟨rfl, rfl⟩
  go_wp2
  go_ret2
  exact ⟨rfl, Below.refl _ _⟩
/-- string(make([]byte, n)). -/
theorem made (w : World) (n : Nat) (hn : n ≤ 2000) : (Instr.makeSlice 26 (.int .i64 n) (.int .i64 n)).run Try.prog w = .ok (.slice (some ⟨w.heap.size, 0, none⟩) n n) (w.alloc (.cells (List.replicate n (Value.int .u8 0)).toArray 5)) ∧
    (convert 26 9 (.slice (some ⟨w.heap.size, 0, none⟩) n n)).run Try.prog (w.alloc (.cells (List.replicate n (Value.int .u8 0)).toArray 5)) = .ok (.string (mk (List.replicate n 0))) (w.alloc (.cells (List.replicate n (Value.int .u8 0)).toArray 5)) := by
  obtain ⟨i0, hi, hz0, hz1, hz2⟩ := info_parts Try.infoU8
  have hr := run_make (P := Try.prog) w 26 5 i0 (.int .u8 0) Try.underlying26 hi hz0 .i64 .i64 (n : Int) (n : Int) (by omega) (Int.le_refl _) (by rw [hz2]; omega) (by omega)
  rw [Int.toNat_natCast, hz1, Nat.mul_one] at hr
  have e : madeCells (Value.int .u8 0).cells n = (List.replicate n (Value.int .u8 0)).toArray := by
    apply Array.ext
    · simp [size_madeCells]
    · intro i h1 h2
      simp [madeCells, Value.cells, Nat.mod_one]
  rw [e] at hr
  refine ⟨hr, ?_⟩
  have := conv_new (P := Try.prog) w 26 9 5 5 n (List.replicate n 0) n (List.replicate n (Value.int .u8 0)).toArray (by simp) (by simp) Try.underlying26 Try.underlying5 Try.underlying9
  have e2 : str (List.replicate n 0) = mk (List.replicate n 0) := by simp [str, mk]
  rw [e2] at this
  exact this
theorem ab (w : World) (o : Obj) : Below w.heap.size w (w.alloc o) := (Below.refl _ _).alloc (Nat.le_refl _) _
theorem no_may (a : Option Addr) (n cap : Nat) (os : List Opn) (w : World) (hn : n = os.length) (h : OpLies w a os) (hm : mayO os = false) :
    Calls Try.prog 6 #[.slice a n cap] w fun e w' => e = .returned (.tuple #[.string ⟨#[]⟩, .int .i64 600]) ∧ Below w.heap.size w w' := by
  subst hn; exact oPut_no a cap os w h hm
theorem no_one {c : Int} {d : List UInt8} (h : okO (c, d) = false) : mayO [(c, d)] = false := may_no (j := 0) (by simp) h
theorem big_put (l : List UInt8) (h : l.length = 500) : putA [(1, l), (2, l), (3, l)] = (bs ⟨#[]⟩, 601) := by
  have hm : MayO [(1, l), (2, l), (3, l)] := by
    refine ⟨by simp, fun o ho => ?_, by simp⟩
    simp only [List.mem_cons, List.not_mem_nil, or_false] at ho
    rw [okO_iff]
    rcases ho with rfl | rfl | rfl <;> exact ⟨by simp, by simp, by simp [h]⟩
  have hl : (putO [(1, l), (2, l), (3, l)]).length = 1513 := by
    simp [putO, bodyO, parts_len, h]
  unfold putA
  rw [if_pos (by simpa [mayO] using hm), if_pos (by rw [hl]; omega)]
  rfl
theorem getO_nil_bs : getO (bs ⟨#[]⟩) [] = some [] := getO_nil []
/-- Block g is such a row of bytes, made in some world, as it stands in v. -/
def Rowed (cs : Array Value) (g : Nat) (v : World) : Prop := ∃ u : World, g = u.heap.size ∧ Below (u.alloc (.cells cs 5)).heap.size (u.alloc (.cells cs 5)) v
theorem Rowed.new (cs : Array Value) (u : World) : Rowed cs u.heap.size (u.alloc (.cells cs 5)) := ⟨u, rfl, Below.refl _ _⟩
theorem Rowed.alloc {cs : Array Value} {g : Nat} {v : World} (h : Rowed cs g v) (o : Obj) : Rowed cs g (v.alloc o) := by
  obtain ⟨u, h1, h2⟩ := h
  exact ⟨u, h1, h2.alloc h2.size _⟩
theorem region_named {P : Program} {id : Nat} {ops : Array Oper} {Q : Exit → Act → World → Prop} {a : Act} {w : World} (hm : P.follows .mixedOrders = true)
    (h : ∀ OPS, OPS = ops → ∀ A0, A0 = a → ∀ QQ, QQ = Q → wpAny P .any OPS QQ ops.size (Array.replicate ops.size false) A0 { w with drawn := w.drawn + 1 }) : (Code.region id ops true).wp P Q a w := wp_region_any hm (h ops rfl a rfl Q rfl)
/-- Texts that are none. -/
theorem no_texts (J : Nat) (h : J < 5) : ∃ T : ByteArray, (#[.string ⟨#[5]⟩, .string ⟨#[5, 1]⟩, .string ⟨#[5, 2, 97]⟩, .string ⟨#[0, 5]⟩, .string ⟨#[5, 0, 6, 9, 97, 98, 99, 255]⟩] : Array Value)[J]? = some (.string T) ∧ T.size ≤ 100 ∧ getO (bs T) [] = none := by
  have hJ : J = 0 ∨ J = 1 ∨ J = 2 ∨ J = 3 ∨ J = 4 := by omega
  rcases hJ with rfl | rfl | rfl | rfl | rfl
  · exact ⟨_, rfl, by decide, getO_one (by decide) (by decide) _⟩
  · exact ⟨_, rfl, by decide, getO_short (by decide) (by decide) (by decide) _⟩
  · exact ⟨_, rfl, by decide, getO_short (by decide) (by decide) (by decide) _⟩
  · refine ⟨_, rfl, by decide, ?_⟩
    show getO [0, 5] [] = none
    rw [getO_pad]
    exact getO_one (by decide) (by decide) _
  · refine ⟨_, rfl, by decide, ?_⟩
    show getO [5, 0, 6, 9, 97, 98, 99, 255] [] = none
    rw [getO_part (by decide) (by decide) (by decide), if_pos (by decide)]
    exact getO_short (by decide) (by decide) (by decide) _
theorem many_cells : ∀ k, k < 66 → ∃ v, (opCells (List.replicate 33 (0, []))).toArray[k]? = some v := by
  intro k hk
  refine ⟨(opCells (List.replicate 33 (0, []))).toArray[k]'(by simp [opCells_len]; omega), ?_⟩
  rw [Array.getElem?_eq_getElem]
theorem Try.makeOp (w : World) : (Instr.makeSlice 23 (.int .i64 33) (.int .i64 33)).run Try.prog w = .ok (.slice (some ⟨w.heap.size, 0, none⟩) 33 33) (w.alloc (.cells (opCells (List.replicate 33 (0, []))).toArray 25)) := by kernel_rfl
set_option maxRecDepth 100000 in
set_option maxHeartbeats 1000000 in
theorem walk (a b : Int) (w : World) (_wa : (Lit.int .i64 a).wf = true) (_wb : (Lit.int .i64 b).wf = true) : Calls Try.prog 3 #[.int .i64 a, .int .i64 b] w fun e w' => e = .returned (.bool true) ∧ Below w.heap.size w w' := by
  obtain ⟨I, hI, hIl⟩ := pick_mod a 7 (by omega) (by omega)
  obtain ⟨J, hJ, hJl⟩ := pick_mod a 5 (by omega) (by omega)
  have hmk := Try.makeOp
  have hmask : bits .and .i64 b 1023 = b % 1024 := i64_mask 10 b (by omega)
  obtain ⟨d, hd⟩ : ∃ d : Nat, 1 + b % 1024 = d := ⟨(1 + b % 1024).toNat, by omega⟩
  go_enter Try.func3, Try.ntmps3
  go_wp2_with fail
  refine (awake6_yes _).mono ?_; rintro e w1 ⟨rfl, hb1⟩
  have B1 : Hid (Below w.heap.size w w1) := hb1
  have hle := hb1.size
  clear hb1
  have HMC : Hid (_) := many_cells
  generalize (opCells (List.replicate 33 (0, []))).toArray = mcs at *
  go_wp2_with fail
  go_loopw [7] (fun i wr => ∃ j : Nat, j ≤ 33 ∧ i = .int .i64 j ∧ Hid (∀ k, k < 66 → ∃ v, wr.cell? ⟨w1.heap.size, k, none⟩ = some v) ∧ Hid (∀ k, wr.frozen? ⟨w1.heap.size, k, none⟩ = false) ∧ Hid (Below w.heap.size w wr)) (fun i _ => 33 - (intOf i).toNat)
  case atStart => exact ⟨0, by omega, rfl, fun k hk => by obtain ⟨v, hv⟩ := HMC.out k hk; exact ⟨v, new_cell _ _ _ _ _ hv⟩, fun k => new_frozen _ _ _ _, B1.out.alloc hle _⟩
  case round =>
    obtain ⟨j, hj, rfl, hce, hfr, B⟩ := hrel
    by_cases hlt : j < 33
    · obtain ⟨v0, h0⟩ := hce.out (j * 2) (by omega)
      obtain ⟨v1, h1⟩ := hce.out (j * 2 + 1) (by omega)
      have f0 := hfr.out (j * 2)
      have f1 := hfr.out (j * 2 + 1)
      go_wp2
      refine ⟨⟨j + 1, by omega, by go_num, fun k hk => ?_, fun k => ?_, (B.out.setCell hle _).setCell hle _⟩, by simp [intOf]; omega⟩
      · obtain ⟨v, hv⟩ := hce.out k hk
        by_cases e1 : k = j * 2 + 1
        · subst e1
          exact ⟨_, way_cell (way_cell h1 h0) (way_cell h1 h0)⟩
        · by_cases e0 : k = j * 2
          · subst e0
            exact ⟨_, way_cell (way_cell h0 h0) (way_cell h1 h0)⟩
          · exact ⟨_, way_cell (way_cell hv h0) (way_cell h1 h0)⟩
      · rw [World.frozen?_setCell, World.frozen?_setCell]; exact hfr.out k
    · obtain rfl : j = 33 := by omega
      clear hce hfr HMC
      obtain ⟨N, hN⟩ : ∃ N : Nat, 512 + (d : Int) = N := ⟨512 + d, by omega⟩
      have HNl : Hid (512 < N ∧ N ≤ 2000) := ⟨by omega, by omega⟩
      obtain ⟨w5, hw5⟩ : ∃ w5, ((((wr.alloc (.cells #[.int .i64 0, .string ⟨#[]⟩] 25)).alloc (.cells #[.int .i64 255, .string ⟨#[]⟩] 25)).alloc (.cells #[.int .i64 (-(d : Int)), .string ⟨#[]⟩] 25)).alloc (.cells #[.int .i64 (254 + (d : Int)), .string ⟨#[]⟩] 25)).alloc (.cells #[.int .i64 5, .string ⟨#[]⟩, .int .i64 5, .string ⟨#[]⟩] 25) = w5 := ⟨_, rfl⟩
      have HL5 : Hid (w5.heap.size = wr.heap.size + 5) := by show _ = _; rw [← hw5]; simp
      have hmd := made w5 N HNl.out.2
      have hTs : (mk (List.replicate N 0)).size = N := by rw [size_mk]; simp
      have HT0 : Hid (∃ l, mk (List.replicate N 0) = mk l ∧ l.length = N) := ⟨_, rfl, by simp⟩
      generalize (List.replicate N (Value.int .u8 0)).toArray = zs at hmd
      generalize mk (List.replicate N 0) = T at *
      obtain ⟨hmk5, hcv5⟩ := hmd
      have HTs : Hid (_) := hTs
      clear hTs
      obtain ⟨w8, hw8⟩ : ∃ w8, ((w5.alloc (.cells zs 5)).alloc (.cells #[.int .i64 5, .string T] 25)).alloc (.cells #[.slice (some ⟨wr.heap.size, 0, none⟩) 1 1, .slice (some ⟨wr.heap.size + 1, 0, none⟩) 1 1, .slice (some ⟨wr.heap.size + 1 + 1, 0, none⟩) 1 1, .slice (some ⟨wr.heap.size + 1 + 1 + 1, 0, none⟩) 1 1, .slice (some ⟨wr.heap.size + 1 + 1 + 1 + 1, 0, none⟩) 2 2, .slice (some ⟨w5.heap.size + 1, 0, none⟩) 1 1, .slice (some ⟨w1.heap.size, 0, none⟩) 33 33] 23) = w8 := ⟨_, rfl⟩
      have B58 : Below w5.heap.size w5 w8 := by rw [← hw8]; exact bel_trans (bel_trans (ab _ _) (ab _ _)) (ab _ _)
      have L0 : OpLies w8 (some ⟨wr.heap.size, 0, none⟩) [(0, [])] := by
        refine OpLies.below ?_ B58
        rw [← hw5]
        exact ((((op_lit wr _ _ _ rfl).below (ab _ _)).below (ab _ _)).below (ab _ _)).below (ab _ _)
      have L1 : OpLies w8 (some ⟨wr.heap.size + 1, 0, none⟩) [(255, [])] := by
        refine OpLies.below ?_ B58
        rw [← hw5]
        have := op_lit (wr.alloc (.cells #[.int .i64 0, .string ⟨#[]⟩] 25)) #[.int .i64 255, .string ⟨#[]⟩] 25 [(255, [])] rfl
        rw [World.size_alloc] at this
        exact ((this.below (ab _ _)).below (ab _ _)).below (ab _ _)
      have L2 : OpLies w8 (some ⟨wr.heap.size + 1 + 1, 0, none⟩) [(-(d : Int), [])] := by
        refine OpLies.below ?_ B58
        rw [← hw5]
        have := op_lit ((wr.alloc (.cells #[.int .i64 0, .string ⟨#[]⟩] 25)).alloc (.cells #[.int .i64 255, .string ⟨#[]⟩] 25)) #[.int .i64 (-(d : Int)), .string ⟨#[]⟩] 25 [(-(d : Int), [])] rfl
        rw [World.size_alloc, World.size_alloc] at this
        exact (this.below (ab _ _)).below (ab _ _)
      have L3 : OpLies w8 (some ⟨wr.heap.size + 1 + 1 + 1, 0, none⟩) [(254 + (d : Int), [])] := by
        refine OpLies.below ?_ B58
        rw [← hw5]
        have := op_lit (((wr.alloc (.cells #[.int .i64 0, .string ⟨#[]⟩] 25)).alloc (.cells #[.int .i64 255, .string ⟨#[]⟩] 25)).alloc (.cells #[.int .i64 (-(d : Int)), .string ⟨#[]⟩] 25)) #[.int .i64 (254 + (d : Int)), .string ⟨#[]⟩] 25 [(254 + (d : Int), [])] rfl
        rw [World.size_alloc, World.size_alloc, World.size_alloc] at this
        exact this.below (ab _ _)
      have L4 : OpLies w8 (some ⟨wr.heap.size + 1 + 1 + 1 + 1, 0, none⟩) [(5, []), (5, [])] := by
        refine OpLies.below ?_ B58
        rw [← hw5]
        have := op_lit ((((wr.alloc (.cells #[.int .i64 0, .string ⟨#[]⟩] 25)).alloc (.cells #[.int .i64 255, .string ⟨#[]⟩] 25)).alloc (.cells #[.int .i64 (-(d : Int)), .string ⟨#[]⟩] 25)).alloc (.cells #[.int .i64 (254 + (d : Int)), .string ⟨#[]⟩] 25)) #[.int .i64 5, .string ⟨#[]⟩, .int .i64 5, .string ⟨#[]⟩] 25 [(5, []), (5, [])] rfl
        rw [World.size_alloc, World.size_alloc, World.size_alloc, World.size_alloc] at this
        exact this
      obtain ⟨lT, hlT, hlTl⟩ := HT0.out
      have L5 : OpLies w8 (some ⟨w5.heap.size + 1, 0, none⟩) [(5, lT)] := by
        rw [← hw8]
        have := op_lit (w5.alloc (.cells zs 5)) #[.int .i64 5, .string T] 25 [(5, lT)] (by rw [hlT]; rfl)
        rw [World.size_alloc] at this
        exact this.below (ab _ _)
      have hdp : 1 ≤ d := by omega
      have HTAB : ∃ V, (#[.slice (some ⟨wr.heap.size, 0, none⟩) 1 1, .slice (some ⟨wr.heap.size + 1, 0, none⟩) 1 1, .slice (some ⟨wr.heap.size + 1 + 1, 0, none⟩) 1 1, .slice (some ⟨wr.heap.size + 1 + 1 + 1, 0, none⟩) 1 1, .slice (some ⟨wr.heap.size + 1 + 1 + 1 + 1, 0, none⟩) 2 2, .slice (some ⟨w5.heap.size + 1, 0, none⟩) 1 1, .slice (some ⟨w1.heap.size, 0, none⟩) 33 33] : Array Value)[I]? = some V ∧ Hid (Calls Try.prog 6 #[V] w8 fun e w' => e = .returned (.tuple #[.string ⟨#[]⟩, .int .i64 600]) ∧ Below w8.heap.size w8 w') := by
        have hI7 : I = 0 ∨ I = 1 ∨ I = 2 ∨ I = 3 ∨ I = 4 ∨ I = 5 ∨ I = 6 := by omega
        rcases hI7 with rfl | rfl | rfl | rfl | rfl | rfl | rfl
        · exact ⟨_, rfl, no_may _ 1 1 _ w8 rfl L0 (by decide)⟩
        · exact ⟨_, rfl, no_may _ 1 1 _ w8 rfl L1 (by decide)⟩
        · exact ⟨_, rfl, no_may _ 1 1 _ w8 rfl L2 (no_one (by simp [okO]; omega))⟩
        · exact ⟨_, rfl, no_may _ 1 1 _ w8 rfl L3 (no_one (by simp [okO]; omega))⟩
        · exact ⟨_, rfl, no_may _ 2 2 _ w8 rfl L4 (by decide)⟩
        · exact ⟨_, rfl, no_may _ 1 1 _ w8 rfl L5 (no_one (by simp [okO, hlTl]; have := HNl.out; omega))⟩
        · exact ⟨_, rfl, oPut_many _ 33 33 w8 (by omega)⟩
      obtain ⟨V, hV, HPV⟩ := HTAB
      have hcV : w8.cell? ⟨w5.heap.size + 1 + 1, I, none⟩ = some V := by
        rw [← hw8]
        exact new_at _ _ _ I V _ (by simp) hV
      have B8 : Hid (Below w.heap.size w w8) := by
        have : Below w.heap.size w w5 := by
          rw [← hw5]
          exact bel_trans (bel_trans (bel_trans (bel_trans (bel_trans B.out (ab _ _)) (ab _ _)) (ab _ _)) (ab _ _)) (ab _ _)
        exact bel_trans this B58
      have hI' : (I : Int) < 7 := hIl
      clear L0 L1 L2 L3 L4 L5 B58 hV HT0 hlT hlTl HNl HTs B
      go_wp2_with fail
      refine HPV.mono ?_; rintro e w9 ⟨rfl, hb9⟩
      have B9 : Hid (Below w.heap.size w w9) := bel_trans B8.out hb9
      clear hb9 B8 HPV hcV hw8 hw5 hmk5 hcv5
      obtain ⟨z5, MK, CV⟩ := made_any 500 (by omega)
      obtain ⟨l5, hl5⟩ : ∃ l5, l5 = List.replicate 500 (0 : UInt8) := ⟨_, rfl⟩
      have HL5l : Hid (l5.length = 500) := by show _ = _; rw [hl5, List.length_replicate]
      rw [← hl5] at CV
      clear hl5
      obtain ⟨T5, hT5⟩ : ∃ T5, mk l5 = T5 := ⟨_, rfl⟩
      have HT5 : Hid (mk l5 = T5) := hT5
      rw [hT5] at CV
      have RC : Hid (∀ (g : Nat) (v : World), Rowed z5 g v → (convert 26 9 (.slice (some ⟨g, 0, none⟩) 500 500)).run Try.prog v = .ok (.string T5) v) := fun g v h => by
        obtain ⟨u, h1, h2⟩ := h
        rw [h1]; exact CV u v h2
      clear CV hT5
      have MK5 : ∀ w : World, (Instr.makeSlice 26 (.int .i64 500) (.int .i64 500)).run Try.prog w = .ok (.slice (some ⟨w.heap.size, 0, none⟩) 500 500) (w.alloc (.cells z5 5)) := MK
      clear MK
      go_upto_region 11 with fail
      refine region_named (by kernel_rfl) ?_
      intro OPS hO A0 hA QQ hQ
      change wpAny _ _ _ _ 11 #[false, false, false, false, false, false, false, false, false, false, false] _ (World.drew _)
      have L222 : Hid (∀ (g0 g1 g2 : Nat) (v : World) (a' : Act), a' = (((((((((A0.put (some 75) (.slice (some ⟨g0, 0, none⟩) 500 500)).put (some 76) (.string T5)).put (some 77) (.agg #[.int .i64 1, .string T5])).put (some 78) (.slice (some ⟨g1, 0, none⟩) 500 500)).put (some 79) (.string T5)).put (some 80) (.agg #[.int .i64 2, .string T5])).put (some 81) (.slice (some ⟨g2, 0, none⟩) 500 500)).put (some 82) (.string T5)).put (some 83) (.agg #[.int .i64 3, .string T5])) → Below w9.heap.size w9 v → wpAny Try.prog .any OPS QQ 2 #[true, true, true, true, true, true, true, true, true, false, false] a' v) := by
        intro g0 g1 g2 v a' ha hb 
        subst ha hA hO
        refine wpAny_ready (rs := [9]) (by kernel_rfl) (by simp) ?_
        refine AllReady.cons rfl (fun K hK => ?_) AllReady.nil
        go_simp
        refine hK _ _ ?_
        clear hK K
        refine wpAny_take (i := 10) (v := .slice (some ⟨v.heap.size, 0, none⟩) 3 3) rfl (by kernel_rfl) (by kernel_rfl) (by kernel_rfl) (fun _ _ _ h => by rw [hQ] at h ⊢; exact h) (Or.inl ⟨by kernel_rfl, ?_⟩) ?_
        · intro w; go_simp
        refine wpAny_done (by kernel_rfl) ?_ _
        subst hQ
        generalize hcl : (Obj.cells #[.int .i64 1, .string T5, .int .i64 2, .string T5, .int .i64 3, .string T5] 25) = CL
        have Bv : Hid (Below w.heap.size w v) := bel_trans B9.out hb
        have Lb : OpLies (v.alloc CL) (some ⟨v.heap.size, 0, none⟩) [(1, l5), (2, l5), (3, l5)] := by
          rw [← hcl]; exact op_lit v _ _ _ (by rw [← HT5.out]; rfl)
        have HB : Hid (Calls Try.prog 6 #[.slice (some ⟨v.heap.size, 0, none⟩) 3 3] (v.alloc CL) fun e w' => e = .returned (.tuple #[.string ⟨#[]⟩, .int .i64 601]) ∧ Below (v.alloc CL).heap.size (v.alloc CL) w') := oPut_is _ 3 3 _ _ _ _ rfl Lb (big_put l5 HL5l.out)
        have Ba : Hid (Below w.heap.size w (v.alloc CL)) := Bv.out.alloc Bv.out.size _
        obtain ⟨T, hTJ, hTs, hTg⟩ := no_texts J (by omega)
        have HG1 : Hid (∀ w, _) := fun w => oGet_no T w (by omega) hTg
        have HG2 : Hid (∀ w, _) := fun w => oGet_yes ⟨#[]⟩ [] w (by decide) getO_nil_bs
        have HF0 : Hid (∀ w : World, Calls Try.prog 8 #[.slice none 0 0, .int .i64 0] w fun e w' => e = .returned (.tuple #[.string ⟨#[]⟩, .bool false]) ∧ Below w.heap.size w w') := fun w => oFind_c none 0 [] 0 w (by simp) (.inl rfl)
        have HP0 : Hid (∀ w : World, Calls Try.prog 6 #[.slice none 0 0] w fun e w' => e = .returned (.tuple #[.string ⟨#[255]⟩, .int .i64 0]) ∧ Below w.heap.size w w') := fun w => oPut_none none 0 w
        have hJ' : (J : Int) < 5 := by omega
        clear Lb hTg Bv MK5
        go_wp2_with fail
        refine HB.out.mono ?_; rintro e x1 ⟨rfl, hbx⟩
        have B1x : Hid (Below w.heap.size w x1) := bel_trans Ba.out hbx
        clear hbx Ba HB hcl
        go_wp2_with fail
        refine (HP0.out _).mono ?_; rintro e x2 ⟨rfl, hbx⟩
        have B2x : Hid (Below w.heap.size w x2) := bel_trans B1x.out hbx
        clear hbx B1x
        have hcJ := new_cell x2 _ 9 _ _ hTJ
        have BL : Hid (Below w.heap.size w (x2.alloc (.cells #[.string ⟨#[5]⟩, .string ⟨#[5, 1]⟩, .string ⟨#[5, 2, 97]⟩, .string ⟨#[0, 5]⟩, .string ⟨#[5, 0, 6, 9, 97, 98, 99, 255]⟩] 9))) := B2x.out.alloc B2x.out.size _
        go_wp2_with fail
        refine (HG1.out _).mono ?_; rintro e x3 ⟨rfl, hbx⟩
        have B3x : Hid (Below w.heap.size w x3) := bel_trans BL.out hbx
        clear hbx BL B2x hcJ hTJ
        go_wp2_with fail
        refine (HG2.out _).mono ?_; rintro e x4 ⟨⟨v4, rfl, hO4⟩, hbx⟩
        obtain ⟨a4, c4, rfl, _⟩ := hO4.lies
        have B4x : Hid (Below w.heap.size w x4) := bel_trans B3x.out hbx
        clear hbx B3x hO4
        simp only [List.length_nil]
        go_wp2_with fail
        refine (HF0.out _).mono ?_; rintro e x5 ⟨rfl, hbx⟩
        have B5x : Hid (Below w.heap.size w x5) := bel_trans B4x.out hbx
        clear hbx B4x
        go_wp2_with (go_at_call 9; refine (num_any _ _).mono ?_; rintro e w11 ⟨rfl, rfl⟩)
        go_ret
        exact ⟨rfl, B5x.out⟩
      have L122 : Hid (∀ (g0 g1 g2 : Nat) (v : World) (a' : Act), a' = (((((((A0.put (some 75) (.slice (some ⟨g0, 0, none⟩) 500 500)).put (some 78) (.slice (some ⟨g1, 0, none⟩) 500 500)).put (some 79) (.string T5)).put (some 80) (.agg #[.int .i64 2, .string T5])).put (some 81) (.slice (some ⟨g2, 0, none⟩) 500 500)).put (some 82) (.string T5)).put (some 83) (.agg #[.int .i64 3, .string T5])) → Below w9.heap.size w9 v → Rowed z5 g0 v → wpAny Try.prog .any OPS QQ 4 #[true, false, false, true, true, true, true, true, true, false, false] a' v) := by
        intro g0 g1 g2 v a' ha hb h0
        subst ha hA hO
        refine wpAny_ready (rs := [1]) (by kernel_rfl) (by simp) ?_
        refine AllReady.cons rfl (fun K hK => ?_) AllReady.nil
        · have hc := RC.out g0 v h0
          go_simp
          refine hK _ _ ?_
          refine wpAny_take (i := 2) (v := .agg #[.int .i64 1, .string T5]) rfl (by kernel_rfl) (by kernel_rfl) (by kernel_rfl) (fun _ _ _ h => by rw [hQ] at h ⊢; exact h) (Or.inl ⟨by kernel_rfl, ?_⟩) ?_
          · intro w; go_simp
          exact L222.out g0 g1 g2 _ _ (by kernel_rfl) hb 
      have L212 : Hid (∀ (g0 g1 g2 : Nat) (v : World) (a' : Act), a' = (((((((A0.put (some 75) (.slice (some ⟨g0, 0, none⟩) 500 500)).put (some 76) (.string T5)).put (some 77) (.agg #[.int .i64 1, .string T5])).put (some 78) (.slice (some ⟨g1, 0, none⟩) 500 500)).put (some 81) (.slice (some ⟨g2, 0, none⟩) 500 500)).put (some 82) (.string T5)).put (some 83) (.agg #[.int .i64 3, .string T5])) → Below w9.heap.size w9 v → Rowed z5 g1 v → wpAny Try.prog .any OPS QQ 4 #[true, true, true, true, false, false, true, true, true, false, false] a' v) := by
        intro g0 g1 g2 v a' ha hb h1
        subst ha hA hO
        refine wpAny_ready (rs := [4]) (by kernel_rfl) (by simp) ?_
        refine AllReady.cons rfl (fun K hK => ?_) AllReady.nil
        · have hc := RC.out g1 v h1
          go_simp
          refine hK _ _ ?_
          refine wpAny_take (i := 5) (v := .agg #[.int .i64 2, .string T5]) rfl (by kernel_rfl) (by kernel_rfl) (by kernel_rfl) (fun _ _ _ h => by rw [hQ] at h ⊢; exact h) (Or.inl ⟨by kernel_rfl, ?_⟩) ?_
          · intro w; go_simp
          exact L222.out g0 g1 g2 _ _ (by kernel_rfl) hb 
      have L221 : Hid (∀ (g0 g1 g2 : Nat) (v : World) (a' : Act), a' = (((((((A0.put (some 75) (.slice (some ⟨g0, 0, none⟩) 500 500)).put (some 76) (.string T5)).put (some 77) (.agg #[.int .i64 1, .string T5])).put (some 78) (.slice (some ⟨g1, 0, none⟩) 500 500)).put (some 79) (.string T5)).put (some 80) (.agg #[.int .i64 2, .string T5])).put (some 81) (.slice (some ⟨g2, 0, none⟩) 500 500)) → Below w9.heap.size w9 v → Rowed z5 g2 v → wpAny Try.prog .any OPS QQ 4 #[true, true, true, true, true, true, true, false, false, false, false] a' v) := by
        intro g0 g1 g2 v a' ha hb h2
        subst ha hA hO
        refine wpAny_ready (rs := [7]) (by kernel_rfl) (by simp) ?_
        refine AllReady.cons rfl (fun K hK => ?_) AllReady.nil
        · have hc := RC.out g2 v h2
          go_simp
          refine hK _ _ ?_
          refine wpAny_take (i := 8) (v := .agg #[.int .i64 3, .string T5]) rfl (by kernel_rfl) (by kernel_rfl) (by kernel_rfl) (fun _ _ _ h => by rw [hQ] at h ⊢; exact h) (Or.inl ⟨by kernel_rfl, ?_⟩) ?_
          · intro w; go_simp
          exact L222.out g0 g1 g2 _ _ (by kernel_rfl) hb 
      have L022 : Hid (∀ (g0 g1 g2 : Nat) (v : World) (a' : Act), a' = ((((((A0.put (some 78) (.slice (some ⟨g1, 0, none⟩) 500 500)).put (some 79) (.string T5)).put (some 80) (.agg #[.int .i64 2, .string T5])).put (some 81) (.slice (some ⟨g2, 0, none⟩) 500 500)).put (some 82) (.string T5)).put (some 83) (.agg #[.int .i64 3, .string T5])) → Below w9.heap.size w9 v → wpAny Try.prog .any OPS QQ 5 #[false, false, false, true, true, true, true, true, true, false, false] a' v) := by
        intro g0 g1 g2 v a' ha hb 
        subst ha hA hO
        refine wpAny_ready (rs := [0]) (by kernel_rfl) (by simp) ?_
        refine AllReady.cons rfl (fun K hK => ?_) AllReady.nil
        · go_simp
          refine hK _ _ ?_
          exact L122.out v.heap.size g1 g2 _ _ (by kernel_rfl) (hb.alloc hb.size _) (Rowed.new z5 v)
      have L112 : Hid (∀ (g0 g1 g2 : Nat) (v : World) (a' : Act), a' = (((((A0.put (some 75) (.slice (some ⟨g0, 0, none⟩) 500 500)).put (some 78) (.slice (some ⟨g1, 0, none⟩) 500 500)).put (some 81) (.slice (some ⟨g2, 0, none⟩) 500 500)).put (some 82) (.string T5)).put (some 83) (.agg #[.int .i64 3, .string T5])) → Below w9.heap.size w9 v → Rowed z5 g0 v → Rowed z5 g1 v → wpAny Try.prog .any OPS QQ 6 #[true, false, false, true, false, false, true, true, true, false, false] a' v) := by
        intro g0 g1 g2 v a' ha hb h0 h1
        subst ha hA hO
        refine wpAny_ready (rs := [1, 4]) (by kernel_rfl) (by simp) ?_
        refine AllReady.cons rfl (fun K hK => ?_) (AllReady.cons rfl (fun K hK => ?_) AllReady.nil)
        · have hc := RC.out g0 v h0
          go_simp
          refine hK _ _ ?_
          refine wpAny_take (i := 2) (v := .agg #[.int .i64 1, .string T5]) rfl (by kernel_rfl) (by kernel_rfl) (by kernel_rfl) (fun _ _ _ h => by rw [hQ] at h ⊢; exact h) (Or.inl ⟨by kernel_rfl, ?_⟩) ?_
          · intro w; go_simp
          exact L212.out g0 g1 g2 _ _ (by kernel_rfl) hb h1
        · have hc := RC.out g1 v h1
          go_simp
          refine hK _ _ ?_
          refine wpAny_take (i := 5) (v := .agg #[.int .i64 2, .string T5]) rfl (by kernel_rfl) (by kernel_rfl) (by kernel_rfl) (fun _ _ _ h => by rw [hQ] at h ⊢; exact h) (Or.inl ⟨by kernel_rfl, ?_⟩) ?_
          · intro w; go_simp
          exact L122.out g0 g1 g2 _ _ (by kernel_rfl) hb h0
      have L121 : Hid (∀ (g0 g1 g2 : Nat) (v : World) (a' : Act), a' = (((((A0.put (some 75) (.slice (some ⟨g0, 0, none⟩) 500 500)).put (some 78) (.slice (some ⟨g1, 0, none⟩) 500 500)).put (some 79) (.string T5)).put (some 80) (.agg #[.int .i64 2, .string T5])).put (some 81) (.slice (some ⟨g2, 0, none⟩) 500 500)) → Below w9.heap.size w9 v → Rowed z5 g0 v → Rowed z5 g2 v → wpAny Try.prog .any OPS QQ 6 #[true, false, false, true, true, true, true, false, false, false, false] a' v) := by
        intro g0 g1 g2 v a' ha hb h0 h2
        subst ha hA hO
        refine wpAny_ready (rs := [1, 7]) (by kernel_rfl) (by simp) ?_
        refine AllReady.cons rfl (fun K hK => ?_) (AllReady.cons rfl (fun K hK => ?_) AllReady.nil)
        · have hc := RC.out g0 v h0
          go_simp
          refine hK _ _ ?_
          refine wpAny_take (i := 2) (v := .agg #[.int .i64 1, .string T5]) rfl (by kernel_rfl) (by kernel_rfl) (by kernel_rfl) (fun _ _ _ h => by rw [hQ] at h ⊢; exact h) (Or.inl ⟨by kernel_rfl, ?_⟩) ?_
          · intro w; go_simp
          exact L221.out g0 g1 g2 _ _ (by kernel_rfl) hb h2
        · have hc := RC.out g2 v h2
          go_simp
          refine hK _ _ ?_
          refine wpAny_take (i := 8) (v := .agg #[.int .i64 3, .string T5]) rfl (by kernel_rfl) (by kernel_rfl) (by kernel_rfl) (fun _ _ _ h => by rw [hQ] at h ⊢; exact h) (Or.inl ⟨by kernel_rfl, ?_⟩) ?_
          · intro w; go_simp
          exact L122.out g0 g1 g2 _ _ (by kernel_rfl) hb h0
      have L202 : Hid (∀ (g0 g1 g2 : Nat) (v : World) (a' : Act), a' = ((((((A0.put (some 75) (.slice (some ⟨g0, 0, none⟩) 500 500)).put (some 76) (.string T5)).put (some 77) (.agg #[.int .i64 1, .string T5])).put (some 81) (.slice (some ⟨g2, 0, none⟩) 500 500)).put (some 82) (.string T5)).put (some 83) (.agg #[.int .i64 3, .string T5])) → Below w9.heap.size w9 v → wpAny Try.prog .any OPS QQ 5 #[true, true, true, false, false, false, true, true, true, false, false] a' v) := by
        intro g0 g1 g2 v a' ha hb 
        subst ha hA hO
        refine wpAny_ready (rs := [3]) (by kernel_rfl) (by simp) ?_
        refine AllReady.cons rfl (fun K hK => ?_) AllReady.nil
        · go_simp
          refine hK _ _ ?_
          exact L212.out g0 v.heap.size g2 _ _ (by kernel_rfl) (hb.alloc hb.size _) (Rowed.new z5 v)
      have L211 : Hid (∀ (g0 g1 g2 : Nat) (v : World) (a' : Act), a' = (((((A0.put (some 75) (.slice (some ⟨g0, 0, none⟩) 500 500)).put (some 76) (.string T5)).put (some 77) (.agg #[.int .i64 1, .string T5])).put (some 78) (.slice (some ⟨g1, 0, none⟩) 500 500)).put (some 81) (.slice (some ⟨g2, 0, none⟩) 500 500)) → Below w9.heap.size w9 v → Rowed z5 g1 v → Rowed z5 g2 v → wpAny Try.prog .any OPS QQ 6 #[true, true, true, true, false, false, true, false, false, false, false] a' v) := by
        intro g0 g1 g2 v a' ha hb h1 h2
        subst ha hA hO
        refine wpAny_ready (rs := [4, 7]) (by kernel_rfl) (by simp) ?_
        refine AllReady.cons rfl (fun K hK => ?_) (AllReady.cons rfl (fun K hK => ?_) AllReady.nil)
        · have hc := RC.out g1 v h1
          go_simp
          refine hK _ _ ?_
          refine wpAny_take (i := 5) (v := .agg #[.int .i64 2, .string T5]) rfl (by kernel_rfl) (by kernel_rfl) (by kernel_rfl) (fun _ _ _ h => by rw [hQ] at h ⊢; exact h) (Or.inl ⟨by kernel_rfl, ?_⟩) ?_
          · intro w; go_simp
          exact L221.out g0 g1 g2 _ _ (by kernel_rfl) hb h2
        · have hc := RC.out g2 v h2
          go_simp
          refine hK _ _ ?_
          refine wpAny_take (i := 8) (v := .agg #[.int .i64 3, .string T5]) rfl (by kernel_rfl) (by kernel_rfl) (by kernel_rfl) (fun _ _ _ h => by rw [hQ] at h ⊢; exact h) (Or.inl ⟨by kernel_rfl, ?_⟩) ?_
          · intro w; go_simp
          exact L212.out g0 g1 g2 _ _ (by kernel_rfl) hb h1
      have L220 : Hid (∀ (g0 g1 g2 : Nat) (v : World) (a' : Act), a' = ((((((A0.put (some 75) (.slice (some ⟨g0, 0, none⟩) 500 500)).put (some 76) (.string T5)).put (some 77) (.agg #[.int .i64 1, .string T5])).put (some 78) (.slice (some ⟨g1, 0, none⟩) 500 500)).put (some 79) (.string T5)).put (some 80) (.agg #[.int .i64 2, .string T5])) → Below w9.heap.size w9 v → wpAny Try.prog .any OPS QQ 5 #[true, true, true, true, true, true, false, false, false, false, false] a' v) := by
        intro g0 g1 g2 v a' ha hb 
        subst ha hA hO
        refine wpAny_ready (rs := [6]) (by kernel_rfl) (by simp) ?_
        refine AllReady.cons rfl (fun K hK => ?_) AllReady.nil
        · go_simp
          refine hK _ _ ?_
          exact L221.out g0 g1 v.heap.size _ _ (by kernel_rfl) (hb.alloc hb.size _) (Rowed.new z5 v)
      have L012 : Hid (∀ (g0 g1 g2 : Nat) (v : World) (a' : Act), a' = ((((A0.put (some 78) (.slice (some ⟨g1, 0, none⟩) 500 500)).put (some 81) (.slice (some ⟨g2, 0, none⟩) 500 500)).put (some 82) (.string T5)).put (some 83) (.agg #[.int .i64 3, .string T5])) → Below w9.heap.size w9 v → Rowed z5 g1 v → wpAny Try.prog .any OPS QQ 7 #[false, false, false, true, false, false, true, true, true, false, false] a' v) := by
        intro g0 g1 g2 v a' ha hb h1
        subst ha hA hO
        refine wpAny_ready (rs := [0, 4]) (by kernel_rfl) (by simp) ?_
        refine AllReady.cons rfl (fun K hK => ?_) (AllReady.cons rfl (fun K hK => ?_) AllReady.nil)
        · go_simp
          refine hK _ _ ?_
          exact L112.out v.heap.size g1 g2 _ _ (by kernel_rfl) (hb.alloc hb.size _) (Rowed.new z5 v) (h1.alloc _)
        · have hc := RC.out g1 v h1
          go_simp
          refine hK _ _ ?_
          refine wpAny_take (i := 5) (v := .agg #[.int .i64 2, .string T5]) rfl (by kernel_rfl) (by kernel_rfl) (by kernel_rfl) (fun _ _ _ h => by rw [hQ] at h ⊢; exact h) (Or.inl ⟨by kernel_rfl, ?_⟩) ?_
          · intro w; go_simp
          exact L022.out g0 g1 g2 _ _ (by kernel_rfl) hb 
      have L021 : Hid (∀ (g0 g1 g2 : Nat) (v : World) (a' : Act), a' = ((((A0.put (some 78) (.slice (some ⟨g1, 0, none⟩) 500 500)).put (some 79) (.string T5)).put (some 80) (.agg #[.int .i64 2, .string T5])).put (some 81) (.slice (some ⟨g2, 0, none⟩) 500 500)) → Below w9.heap.size w9 v → Rowed z5 g2 v → wpAny Try.prog .any OPS QQ 7 #[false, false, false, true, true, true, true, false, false, false, false] a' v) := by
        intro g0 g1 g2 v a' ha hb h2
        subst ha hA hO
        refine wpAny_ready (rs := [0, 7]) (by kernel_rfl) (by simp) ?_
        refine AllReady.cons rfl (fun K hK => ?_) (AllReady.cons rfl (fun K hK => ?_) AllReady.nil)
        · go_simp
          refine hK _ _ ?_
          exact L121.out v.heap.size g1 g2 _ _ (by kernel_rfl) (hb.alloc hb.size _) (Rowed.new z5 v) (h2.alloc _)
        · have hc := RC.out g2 v h2
          go_simp
          refine hK _ _ ?_
          refine wpAny_take (i := 8) (v := .agg #[.int .i64 3, .string T5]) rfl (by kernel_rfl) (by kernel_rfl) (by kernel_rfl) (fun _ _ _ h => by rw [hQ] at h ⊢; exact h) (Or.inl ⟨by kernel_rfl, ?_⟩) ?_
          · intro w; go_simp
          exact L022.out g0 g1 g2 _ _ (by kernel_rfl) hb 
      have L102 : Hid (∀ (g0 g1 g2 : Nat) (v : World) (a' : Act), a' = ((((A0.put (some 75) (.slice (some ⟨g0, 0, none⟩) 500 500)).put (some 81) (.slice (some ⟨g2, 0, none⟩) 500 500)).put (some 82) (.string T5)).put (some 83) (.agg #[.int .i64 3, .string T5])) → Below w9.heap.size w9 v → Rowed z5 g0 v → wpAny Try.prog .any OPS QQ 7 #[true, false, false, false, false, false, true, true, true, false, false] a' v) := by
        intro g0 g1 g2 v a' ha hb h0
        subst ha hA hO
        refine wpAny_ready (rs := [1, 3]) (by kernel_rfl) (by simp) ?_
        refine AllReady.cons rfl (fun K hK => ?_) (AllReady.cons rfl (fun K hK => ?_) AllReady.nil)
        · have hc := RC.out g0 v h0
          go_simp
          refine hK _ _ ?_
          refine wpAny_take (i := 2) (v := .agg #[.int .i64 1, .string T5]) rfl (by kernel_rfl) (by kernel_rfl) (by kernel_rfl) (fun _ _ _ h => by rw [hQ] at h ⊢; exact h) (Or.inl ⟨by kernel_rfl, ?_⟩) ?_
          · intro w; go_simp
          exact L202.out g0 g1 g2 _ _ (by kernel_rfl) hb 
        · go_simp
          refine hK _ _ ?_
          exact L112.out g0 v.heap.size g2 _ _ (by kernel_rfl) (hb.alloc hb.size _) (h0.alloc _) (Rowed.new z5 v)
      have L111 : Hid (∀ (g0 g1 g2 : Nat) (v : World) (a' : Act), a' = (((A0.put (some 75) (.slice (some ⟨g0, 0, none⟩) 500 500)).put (some 78) (.slice (some ⟨g1, 0, none⟩) 500 500)).put (some 81) (.slice (some ⟨g2, 0, none⟩) 500 500)) → Below w9.heap.size w9 v → Rowed z5 g0 v → Rowed z5 g1 v → Rowed z5 g2 v → wpAny Try.prog .any OPS QQ 8 #[true, false, false, true, false, false, true, false, false, false, false] a' v) := by
        intro g0 g1 g2 v a' ha hb h0 h1 h2
        subst ha hA hO
        refine wpAny_ready (rs := [1, 4, 7]) (by kernel_rfl) (by simp) ?_
        refine AllReady.cons rfl (fun K hK => ?_) (AllReady.cons rfl (fun K hK => ?_) (AllReady.cons rfl (fun K hK => ?_) AllReady.nil))
        · have hc := RC.out g0 v h0
          go_simp
          refine hK _ _ ?_
          refine wpAny_take (i := 2) (v := .agg #[.int .i64 1, .string T5]) rfl (by kernel_rfl) (by kernel_rfl) (by kernel_rfl) (fun _ _ _ h => by rw [hQ] at h ⊢; exact h) (Or.inl ⟨by kernel_rfl, ?_⟩) ?_
          · intro w; go_simp
          exact L211.out g0 g1 g2 _ _ (by kernel_rfl) hb h1 h2
        · have hc := RC.out g1 v h1
          go_simp
          refine hK _ _ ?_
          refine wpAny_take (i := 5) (v := .agg #[.int .i64 2, .string T5]) rfl (by kernel_rfl) (by kernel_rfl) (by kernel_rfl) (fun _ _ _ h => by rw [hQ] at h ⊢; exact h) (Or.inl ⟨by kernel_rfl, ?_⟩) ?_
          · intro w; go_simp
          exact L121.out g0 g1 g2 _ _ (by kernel_rfl) hb h0 h2
        · have hc := RC.out g2 v h2
          go_simp
          refine hK _ _ ?_
          refine wpAny_take (i := 8) (v := .agg #[.int .i64 3, .string T5]) rfl (by kernel_rfl) (by kernel_rfl) (by kernel_rfl) (fun _ _ _ h => by rw [hQ] at h ⊢; exact h) (Or.inl ⟨by kernel_rfl, ?_⟩) ?_
          · intro w; go_simp
          exact L112.out g0 g1 g2 _ _ (by kernel_rfl) hb h0 h1
      have L120 : Hid (∀ (g0 g1 g2 : Nat) (v : World) (a' : Act), a' = ((((A0.put (some 75) (.slice (some ⟨g0, 0, none⟩) 500 500)).put (some 78) (.slice (some ⟨g1, 0, none⟩) 500 500)).put (some 79) (.string T5)).put (some 80) (.agg #[.int .i64 2, .string T5])) → Below w9.heap.size w9 v → Rowed z5 g0 v → wpAny Try.prog .any OPS QQ 7 #[true, false, false, true, true, true, false, false, false, false, false] a' v) := by
        intro g0 g1 g2 v a' ha hb h0
        subst ha hA hO
        refine wpAny_ready (rs := [1, 6]) (by kernel_rfl) (by simp) ?_
        refine AllReady.cons rfl (fun K hK => ?_) (AllReady.cons rfl (fun K hK => ?_) AllReady.nil)
        · have hc := RC.out g0 v h0
          go_simp
          refine hK _ _ ?_
          refine wpAny_take (i := 2) (v := .agg #[.int .i64 1, .string T5]) rfl (by kernel_rfl) (by kernel_rfl) (by kernel_rfl) (fun _ _ _ h => by rw [hQ] at h ⊢; exact h) (Or.inl ⟨by kernel_rfl, ?_⟩) ?_
          · intro w; go_simp
          exact L220.out g0 g1 g2 _ _ (by kernel_rfl) hb 
        · go_simp
          refine hK _ _ ?_
          exact L121.out g0 g1 v.heap.size _ _ (by kernel_rfl) (hb.alloc hb.size _) (h0.alloc _) (Rowed.new z5 v)
      have L201 : Hid (∀ (g0 g1 g2 : Nat) (v : World) (a' : Act), a' = ((((A0.put (some 75) (.slice (some ⟨g0, 0, none⟩) 500 500)).put (some 76) (.string T5)).put (some 77) (.agg #[.int .i64 1, .string T5])).put (some 81) (.slice (some ⟨g2, 0, none⟩) 500 500)) → Below w9.heap.size w9 v → Rowed z5 g2 v → wpAny Try.prog .any OPS QQ 7 #[true, true, true, false, false, false, true, false, false, false, false] a' v) := by
        intro g0 g1 g2 v a' ha hb h2
        subst ha hA hO
        refine wpAny_ready (rs := [3, 7]) (by kernel_rfl) (by simp) ?_
        refine AllReady.cons rfl (fun K hK => ?_) (AllReady.cons rfl (fun K hK => ?_) AllReady.nil)
        · go_simp
          refine hK _ _ ?_
          exact L211.out g0 v.heap.size g2 _ _ (by kernel_rfl) (hb.alloc hb.size _) (Rowed.new z5 v) (h2.alloc _)
        · have hc := RC.out g2 v h2
          go_simp
          refine hK _ _ ?_
          refine wpAny_take (i := 8) (v := .agg #[.int .i64 3, .string T5]) rfl (by kernel_rfl) (by kernel_rfl) (by kernel_rfl) (fun _ _ _ h => by rw [hQ] at h ⊢; exact h) (Or.inl ⟨by kernel_rfl, ?_⟩) ?_
          · intro w; go_simp
          exact L202.out g0 g1 g2 _ _ (by kernel_rfl) hb 
      have L210 : Hid (∀ (g0 g1 g2 : Nat) (v : World) (a' : Act), a' = ((((A0.put (some 75) (.slice (some ⟨g0, 0, none⟩) 500 500)).put (some 76) (.string T5)).put (some 77) (.agg #[.int .i64 1, .string T5])).put (some 78) (.slice (some ⟨g1, 0, none⟩) 500 500)) → Below w9.heap.size w9 v → Rowed z5 g1 v → wpAny Try.prog .any OPS QQ 7 #[true, true, true, true, false, false, false, false, false, false, false] a' v) := by
        intro g0 g1 g2 v a' ha hb h1
        subst ha hA hO
        refine wpAny_ready (rs := [4, 6]) (by kernel_rfl) (by simp) ?_
        refine AllReady.cons rfl (fun K hK => ?_) (AllReady.cons rfl (fun K hK => ?_) AllReady.nil)
        · have hc := RC.out g1 v h1
          go_simp
          refine hK _ _ ?_
          refine wpAny_take (i := 5) (v := .agg #[.int .i64 2, .string T5]) rfl (by kernel_rfl) (by kernel_rfl) (by kernel_rfl) (fun _ _ _ h => by rw [hQ] at h ⊢; exact h) (Or.inl ⟨by kernel_rfl, ?_⟩) ?_
          · intro w; go_simp
          exact L220.out g0 g1 g2 _ _ (by kernel_rfl) hb 
        · go_simp
          refine hK _ _ ?_
          exact L211.out g0 g1 v.heap.size _ _ (by kernel_rfl) (hb.alloc hb.size _) (h1.alloc _) (Rowed.new z5 v)
      have L002 : Hid (∀ (g0 g1 g2 : Nat) (v : World) (a' : Act), a' = (((A0.put (some 81) (.slice (some ⟨g2, 0, none⟩) 500 500)).put (some 82) (.string T5)).put (some 83) (.agg #[.int .i64 3, .string T5])) → Below w9.heap.size w9 v → wpAny Try.prog .any OPS QQ 8 #[false, false, false, false, false, false, true, true, true, false, false] a' v) := by
        intro g0 g1 g2 v a' ha hb 
        subst ha hA hO
        refine wpAny_ready (rs := [0, 3]) (by kernel_rfl) (by simp) ?_
        refine AllReady.cons rfl (fun K hK => ?_) (AllReady.cons rfl (fun K hK => ?_) AllReady.nil)
        · go_simp
          refine hK _ _ ?_
          exact L102.out v.heap.size g1 g2 _ _ (by kernel_rfl) (hb.alloc hb.size _) (Rowed.new z5 v)
        · go_simp
          refine hK _ _ ?_
          exact L012.out g0 v.heap.size g2 _ _ (by kernel_rfl) (hb.alloc hb.size _) (Rowed.new z5 v)
      have L011 : Hid (∀ (g0 g1 g2 : Nat) (v : World) (a' : Act), a' = ((A0.put (some 78) (.slice (some ⟨g1, 0, none⟩) 500 500)).put (some 81) (.slice (some ⟨g2, 0, none⟩) 500 500)) → Below w9.heap.size w9 v → Rowed z5 g1 v → Rowed z5 g2 v → wpAny Try.prog .any OPS QQ 9 #[false, false, false, true, false, false, true, false, false, false, false] a' v) := by
        intro g0 g1 g2 v a' ha hb h1 h2
        subst ha hA hO
        refine wpAny_ready (rs := [0, 4, 7]) (by kernel_rfl) (by simp) ?_
        refine AllReady.cons rfl (fun K hK => ?_) (AllReady.cons rfl (fun K hK => ?_) (AllReady.cons rfl (fun K hK => ?_) AllReady.nil))
        · go_simp
          refine hK _ _ ?_
          exact L111.out v.heap.size g1 g2 _ _ (by kernel_rfl) (hb.alloc hb.size _) (Rowed.new z5 v) (h1.alloc _) (h2.alloc _)
        · have hc := RC.out g1 v h1
          go_simp
          refine hK _ _ ?_
          refine wpAny_take (i := 5) (v := .agg #[.int .i64 2, .string T5]) rfl (by kernel_rfl) (by kernel_rfl) (by kernel_rfl) (fun _ _ _ h => by rw [hQ] at h ⊢; exact h) (Or.inl ⟨by kernel_rfl, ?_⟩) ?_
          · intro w; go_simp
          exact L021.out g0 g1 g2 _ _ (by kernel_rfl) hb h2
        · have hc := RC.out g2 v h2
          go_simp
          refine hK _ _ ?_
          refine wpAny_take (i := 8) (v := .agg #[.int .i64 3, .string T5]) rfl (by kernel_rfl) (by kernel_rfl) (by kernel_rfl) (fun _ _ _ h => by rw [hQ] at h ⊢; exact h) (Or.inl ⟨by kernel_rfl, ?_⟩) ?_
          · intro w; go_simp
          exact L012.out g0 g1 g2 _ _ (by kernel_rfl) hb h1
      have L020 : Hid (∀ (g0 g1 g2 : Nat) (v : World) (a' : Act), a' = (((A0.put (some 78) (.slice (some ⟨g1, 0, none⟩) 500 500)).put (some 79) (.string T5)).put (some 80) (.agg #[.int .i64 2, .string T5])) → Below w9.heap.size w9 v → wpAny Try.prog .any OPS QQ 8 #[false, false, false, true, true, true, false, false, false, false, false] a' v) := by
        intro g0 g1 g2 v a' ha hb 
        subst ha hA hO
        refine wpAny_ready (rs := [0, 6]) (by kernel_rfl) (by simp) ?_
        refine AllReady.cons rfl (fun K hK => ?_) (AllReady.cons rfl (fun K hK => ?_) AllReady.nil)
        · go_simp
          refine hK _ _ ?_
          exact L120.out v.heap.size g1 g2 _ _ (by kernel_rfl) (hb.alloc hb.size _) (Rowed.new z5 v)
        · go_simp
          refine hK _ _ ?_
          exact L021.out g0 g1 v.heap.size _ _ (by kernel_rfl) (hb.alloc hb.size _) (Rowed.new z5 v)
      have L101 : Hid (∀ (g0 g1 g2 : Nat) (v : World) (a' : Act), a' = ((A0.put (some 75) (.slice (some ⟨g0, 0, none⟩) 500 500)).put (some 81) (.slice (some ⟨g2, 0, none⟩) 500 500)) → Below w9.heap.size w9 v → Rowed z5 g0 v → Rowed z5 g2 v → wpAny Try.prog .any OPS QQ 9 #[true, false, false, false, false, false, true, false, false, false, false] a' v) := by
        intro g0 g1 g2 v a' ha hb h0 h2
        subst ha hA hO
        refine wpAny_ready (rs := [1, 3, 7]) (by kernel_rfl) (by simp) ?_
        refine AllReady.cons rfl (fun K hK => ?_) (AllReady.cons rfl (fun K hK => ?_) (AllReady.cons rfl (fun K hK => ?_) AllReady.nil))
        · have hc := RC.out g0 v h0
          go_simp
          refine hK _ _ ?_
          refine wpAny_take (i := 2) (v := .agg #[.int .i64 1, .string T5]) rfl (by kernel_rfl) (by kernel_rfl) (by kernel_rfl) (fun _ _ _ h => by rw [hQ] at h ⊢; exact h) (Or.inl ⟨by kernel_rfl, ?_⟩) ?_
          · intro w; go_simp
          exact L201.out g0 g1 g2 _ _ (by kernel_rfl) hb h2
        · go_simp
          refine hK _ _ ?_
          exact L111.out g0 v.heap.size g2 _ _ (by kernel_rfl) (hb.alloc hb.size _) (h0.alloc _) (Rowed.new z5 v) (h2.alloc _)
        · have hc := RC.out g2 v h2
          go_simp
          refine hK _ _ ?_
          refine wpAny_take (i := 8) (v := .agg #[.int .i64 3, .string T5]) rfl (by kernel_rfl) (by kernel_rfl) (by kernel_rfl) (fun _ _ _ h => by rw [hQ] at h ⊢; exact h) (Or.inl ⟨by kernel_rfl, ?_⟩) ?_
          · intro w; go_simp
          exact L102.out g0 g1 g2 _ _ (by kernel_rfl) hb h0
      have L110 : Hid (∀ (g0 g1 g2 : Nat) (v : World) (a' : Act), a' = ((A0.put (some 75) (.slice (some ⟨g0, 0, none⟩) 500 500)).put (some 78) (.slice (some ⟨g1, 0, none⟩) 500 500)) → Below w9.heap.size w9 v → Rowed z5 g0 v → Rowed z5 g1 v → wpAny Try.prog .any OPS QQ 9 #[true, false, false, true, false, false, false, false, false, false, false] a' v) := by
        intro g0 g1 g2 v a' ha hb h0 h1
        subst ha hA hO
        refine wpAny_ready (rs := [1, 4, 6]) (by kernel_rfl) (by simp) ?_
        refine AllReady.cons rfl (fun K hK => ?_) (AllReady.cons rfl (fun K hK => ?_) (AllReady.cons rfl (fun K hK => ?_) AllReady.nil))
        · have hc := RC.out g0 v h0
          go_simp
          refine hK _ _ ?_
          refine wpAny_take (i := 2) (v := .agg #[.int .i64 1, .string T5]) rfl (by kernel_rfl) (by kernel_rfl) (by kernel_rfl) (fun _ _ _ h => by rw [hQ] at h ⊢; exact h) (Or.inl ⟨by kernel_rfl, ?_⟩) ?_
          · intro w; go_simp
          exact L210.out g0 g1 g2 _ _ (by kernel_rfl) hb h1
        · have hc := RC.out g1 v h1
          go_simp
          refine hK _ _ ?_
          refine wpAny_take (i := 5) (v := .agg #[.int .i64 2, .string T5]) rfl (by kernel_rfl) (by kernel_rfl) (by kernel_rfl) (fun _ _ _ h => by rw [hQ] at h ⊢; exact h) (Or.inl ⟨by kernel_rfl, ?_⟩) ?_
          · intro w; go_simp
          exact L120.out g0 g1 g2 _ _ (by kernel_rfl) hb h0
        · go_simp
          refine hK _ _ ?_
          exact L111.out g0 g1 v.heap.size _ _ (by kernel_rfl) (hb.alloc hb.size _) (h0.alloc _) (h1.alloc _) (Rowed.new z5 v)
      have L200 : Hid (∀ (g0 g1 g2 : Nat) (v : World) (a' : Act), a' = (((A0.put (some 75) (.slice (some ⟨g0, 0, none⟩) 500 500)).put (some 76) (.string T5)).put (some 77) (.agg #[.int .i64 1, .string T5])) → Below w9.heap.size w9 v → wpAny Try.prog .any OPS QQ 8 #[true, true, true, false, false, false, false, false, false, false, false] a' v) := by
        intro g0 g1 g2 v a' ha hb 
        subst ha hA hO
        refine wpAny_ready (rs := [3, 6]) (by kernel_rfl) (by simp) ?_
        refine AllReady.cons rfl (fun K hK => ?_) (AllReady.cons rfl (fun K hK => ?_) AllReady.nil)
        · go_simp
          refine hK _ _ ?_
          exact L210.out g0 v.heap.size g2 _ _ (by kernel_rfl) (hb.alloc hb.size _) (Rowed.new z5 v)
        · go_simp
          refine hK _ _ ?_
          exact L201.out g0 g1 v.heap.size _ _ (by kernel_rfl) (hb.alloc hb.size _) (Rowed.new z5 v)
      have L001 : Hid (∀ (g0 g1 g2 : Nat) (v : World) (a' : Act), a' = (A0.put (some 81) (.slice (some ⟨g2, 0, none⟩) 500 500)) → Below w9.heap.size w9 v → Rowed z5 g2 v → wpAny Try.prog .any OPS QQ 10 #[false, false, false, false, false, false, true, false, false, false, false] a' v) := by
        intro g0 g1 g2 v a' ha hb h2
        subst ha hA hO
        refine wpAny_ready (rs := [0, 3, 7]) (by kernel_rfl) (by simp) ?_
        refine AllReady.cons rfl (fun K hK => ?_) (AllReady.cons rfl (fun K hK => ?_) (AllReady.cons rfl (fun K hK => ?_) AllReady.nil))
        · go_simp
          refine hK _ _ ?_
          exact L101.out v.heap.size g1 g2 _ _ (by kernel_rfl) (hb.alloc hb.size _) (Rowed.new z5 v) (h2.alloc _)
        · go_simp
          refine hK _ _ ?_
          exact L011.out g0 v.heap.size g2 _ _ (by kernel_rfl) (hb.alloc hb.size _) (Rowed.new z5 v) (h2.alloc _)
        · have hc := RC.out g2 v h2
          go_simp
          refine hK _ _ ?_
          refine wpAny_take (i := 8) (v := .agg #[.int .i64 3, .string T5]) rfl (by kernel_rfl) (by kernel_rfl) (by kernel_rfl) (fun _ _ _ h => by rw [hQ] at h ⊢; exact h) (Or.inl ⟨by kernel_rfl, ?_⟩) ?_
          · intro w; go_simp
          exact L002.out g0 g1 g2 _ _ (by kernel_rfl) hb 
      have L010 : Hid (∀ (g0 g1 g2 : Nat) (v : World) (a' : Act), a' = (A0.put (some 78) (.slice (some ⟨g1, 0, none⟩) 500 500)) → Below w9.heap.size w9 v → Rowed z5 g1 v → wpAny Try.prog .any OPS QQ 10 #[false, false, false, true, false, false, false, false, false, false, false] a' v) := by
        intro g0 g1 g2 v a' ha hb h1
        subst ha hA hO
        refine wpAny_ready (rs := [0, 4, 6]) (by kernel_rfl) (by simp) ?_
        refine AllReady.cons rfl (fun K hK => ?_) (AllReady.cons rfl (fun K hK => ?_) (AllReady.cons rfl (fun K hK => ?_) AllReady.nil))
        · go_simp
          refine hK _ _ ?_
          exact L110.out v.heap.size g1 g2 _ _ (by kernel_rfl) (hb.alloc hb.size _) (Rowed.new z5 v) (h1.alloc _)
        · have hc := RC.out g1 v h1
          go_simp
          refine hK _ _ ?_
          refine wpAny_take (i := 5) (v := .agg #[.int .i64 2, .string T5]) rfl (by kernel_rfl) (by kernel_rfl) (by kernel_rfl) (fun _ _ _ h => by rw [hQ] at h ⊢; exact h) (Or.inl ⟨by kernel_rfl, ?_⟩) ?_
          · intro w; go_simp
          exact L020.out g0 g1 g2 _ _ (by kernel_rfl) hb 
        · go_simp
          refine hK _ _ ?_
          exact L011.out g0 g1 v.heap.size _ _ (by kernel_rfl) (hb.alloc hb.size _) (h1.alloc _) (Rowed.new z5 v)
      have L100 : Hid (∀ (g0 g1 g2 : Nat) (v : World) (a' : Act), a' = (A0.put (some 75) (.slice (some ⟨g0, 0, none⟩) 500 500)) → Below w9.heap.size w9 v → Rowed z5 g0 v → wpAny Try.prog .any OPS QQ 10 #[true, false, false, false, false, false, false, false, false, false, false] a' v) := by
        intro g0 g1 g2 v a' ha hb h0
        subst ha hA hO
        refine wpAny_ready (rs := [1, 3, 6]) (by kernel_rfl) (by simp) ?_
        refine AllReady.cons rfl (fun K hK => ?_) (AllReady.cons rfl (fun K hK => ?_) (AllReady.cons rfl (fun K hK => ?_) AllReady.nil))
        · have hc := RC.out g0 v h0
          go_simp
          refine hK _ _ ?_
          refine wpAny_take (i := 2) (v := .agg #[.int .i64 1, .string T5]) rfl (by kernel_rfl) (by kernel_rfl) (by kernel_rfl) (fun _ _ _ h => by rw [hQ] at h ⊢; exact h) (Or.inl ⟨by kernel_rfl, ?_⟩) ?_
          · intro w; go_simp
          exact L200.out g0 g1 g2 _ _ (by kernel_rfl) hb 
        · go_simp
          refine hK _ _ ?_
          exact L110.out g0 v.heap.size g2 _ _ (by kernel_rfl) (hb.alloc hb.size _) (h0.alloc _) (Rowed.new z5 v)
        · go_simp
          refine hK _ _ ?_
          exact L101.out g0 g1 v.heap.size _ _ (by kernel_rfl) (hb.alloc hb.size _) (h0.alloc _) (Rowed.new z5 v)
      have L000 : Hid (∀ (g0 g1 g2 : Nat) (v : World) (a' : Act), a' = A0 → Below w9.heap.size w9 v → wpAny Try.prog .any OPS QQ 11 #[false, false, false, false, false, false, false, false, false, false, false] a' v) := by
        intro g0 g1 g2 v a' ha hb 
        subst ha hA hO
        refine wpAny_ready (rs := [0, 3, 6]) (by kernel_rfl) (by simp) ?_
        refine AllReady.cons rfl (fun K hK => ?_) (AllReady.cons rfl (fun K hK => ?_) (AllReady.cons rfl (fun K hK => ?_) AllReady.nil))
        · go_simp
          refine hK _ _ ?_
          exact L100.out v.heap.size g1 g2 _ _ (by kernel_rfl) (hb.alloc hb.size _) (Rowed.new z5 v)
        · go_simp
          refine hK _ _ ?_
          exact L010.out g0 v.heap.size g2 _ _ (by kernel_rfl) (hb.alloc hb.size _) (Rowed.new z5 v)
        · go_simp
          refine hK _ _ ?_
          exact L001.out g0 g1 v.heap.size _ _ (by kernel_rfl) (hb.alloc hb.size _) (Rowed.new z5 v)
      exact L000.out 0 0 0 _ _ rfl (below_drewN (Below.refl _ _) 1)
theorem own : ownKnob Try.prog.godebug = none := by kernel_rfl
theorem laidOut : laidOutB Try.prog = true := by kernel_rfl

/-! ### The row's step -/
set_option maxRecDepth 100000 in
theorem lifted (os : Os) (started : os.Started) (H : Type) (enc : TypeId × Value → H) :
    ReturnsInHanded {} Try.checked os 3 .any (Rows.optsFormsSpec.pre6 enc Try.prog Try.f3 Rows.optsFormsRow.domain false) (Rows.optsFormsSpec.post enc Try.prog Try.f3 false true false false) := by
  refine returnsInHanded_of_change_sized (C := Try.checked) own started (by kernel_rfl) Try.func3
    (ChangeSpec.witness6 (enc := enc) (C := Try.checked) false ⟨#[], #[.int .i64 0, .int .i64 0], []⟩ 8 (by kernel_rfl) (by kernel_rfl) (by kernel_rfl) (by kernel_rfl)) ?_
  intro W base args ds gs before hval0 hW _ hsz0 _
  have hval : ∀ (j : Nat) t v, Try.f3.params[j]? = some t → args[j]? = some v → Value.okWide Try.prog W .any base t v := hval0
  have hsz : (DataW.weightsEach Try.prog (Try.f3.params.toList ++ Rows.optsFormsSpec.plain.varTypes Try.prog) (ds ++ gs)).all (· ≤ reachBytes) = true := hsz0
  have hW' := hW
  obtain ⟨p, q, hA0, hV, rfl, _, _⟩ := hW
  have hA : DataW.TrodAll enc Try.prog W 0 (fun _ => true) true Try.f3.params.toList args.toList ds p := hA0
  rw [Try.params3] at hA hval hsz
  obtain ⟨v0, vs0, d0, ds0, p0, q0, hargs, rfl, rfl, h0, r0⟩ := trodAll_cons hA
  obtain ⟨v1, vs1, d1, ds1, p1, q1, rfl, rfl, rfl, h1, r1⟩ := trodAll_cons r0
  obtain ⟨rfl, rfl, rfl⟩ := trodAll_nil r1
  obtain rfl : args = #[v0, v1] := by cases args; simp_all
  obtain ⟨rfl, rfl⟩ := trodVars_none hV
  obtain ⟨a0, rfl, rfl, rfl, w0⟩ := open_int Try.underlying3 (hval 0 3 v0 rfl rfl) h0
  obtain ⟨a1, rfl, rfl, rfl, w1⟩ := open_int Try.underlying3 (hval 1 3 v1 rfl rfl) h1
  clear hA0 hval0 hsz0
  refine (walk a0 a1 W w0 w1).mono fun e W' ⟨he, bel⟩ => ?_
  subst he
  exact ⟨_, rfl, _, _, _, [], [], [], hW', trodAll_mk1 (shut_bool Try.underlying4 _), (trodAll_cons_mk (shut_int Try.underlying3 w0) (trodAll_cons_mk (shut_int Try.underlying3 w1) trodAll_mk0)), rfl, bel.frame _, fun h => by cases h⟩

theorem over : Rows.optsFormsRow.holds Try.pinned (OpenSpec.ofChange Rows.optsFormsSpec) :=
  OpenClaim.holds_of_wide 3 Try.f3 rfl rfl rfl rfl rfl rfl rfl ⟨rfl, rfl, rfl, rfl, rfl⟩ rfl rfl rfl rfl rfl (by kernel_rfl) Try.func3 (by kernel_rfl)
    (of_decide_eq_true (by kernel_rfl)) (by unfold Func.isWrapper; first | (rw [if_pos (by decide +kernel)]; kernel_rfl) | (rw [if_neg (by decide +kernel)]; exact ⟨rfl, rfl⟩))
    (fun os started H enc _ => lifted os started H enc)

/-- The given statement. -/
theorem proved : Rows.OptsFormsSaid := over

end optsForms
theorem optsForms_proved : Rows.OptsFormsSaid := optsForms.proved
end Go.Proofs.Ytegoaaamlfehpaa
