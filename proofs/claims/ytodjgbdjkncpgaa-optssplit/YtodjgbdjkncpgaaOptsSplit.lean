/-
  pinfoldlaw6.OptsSplit, at every list of texts and list of numbers: it returns true; what came in reads as it did. No condition.
-/
import Derived.Test.YtodjgbdjkncpgaaAwake6
import Derived.Test.YtodjgbdjkncpgaaOptSplitPure
import Derived.WalkKit
import Derived.ProofKit
import Derived.OpenShut
import Derived.ShutString
import Derived.ChangeOld
import Derived.SizedLaws
import Derived.Carry
import Derived.Deep.Strs
import Derived.Deep.AppendLies
namespace Go.Proofs.Ytodjgbdjkncpgaa
namespace optsSplit
open Go.ChangeShapes Go.WideShapes Go.ChangeAt Go.RowKit Go.Pin Go.PlainAid Go.ChangeMaps
/-- What the walk is told of a slice of integers that came in: it is nil; or it leads to a row of 'cap' cells, the numbers 'zs' (the first 'len' are its elements), each fitting its kind; it takes at most the row's own reach. -/
def IsRow (k : IntKind) (w : World) (a : Option Addr) (len cap : Nat) (zs : List Int) : Prop :=
  (a = none ∧ len = 0 ∧ cap = 0 ∧ zs = []) ∨
  ∃ x, a = some x ∧ len ≤ cap ∧ cap ≤ maxLen ∧ zs.length = cap ∧ (∀ i, i < zs.length → w.cell? (x.add i) = some (.int k (zs.getD i 0))) ∧ ∀ n ∈ zs, (Lit.int k n).wf = true


/-- What the walk is told of a slice of texts that came in: it is nil; or its first 'len' cells hold the texts S. -/
def IsTexts (w : World) (a : Option Addr) (len : Nat) (S : Nat → ByteArray) : Prop := (a = none ∧ len = 0) ∨ ∃ x, a = some x ∧ len ≤ maxLen ∧ ∀ i, i < len → w.cell? (x.add i) = some (.string (S i)) ∧ (S i).size ≤ maxLen


theorem Try.zeroS4 (w : World) : (zeroValue 48).run Try.prog w = .ok (.agg #[.string ⟨#[]⟩, .string ⟨#[]⟩, .string ⟨#[]⟩, .string ⟨#[]⟩]) w := by kernel_rfl
theorem Try.zeroB4 (w : World) : (zeroValue 49).run Try.prog w = .ok (.agg #[.bool false, .bool false, .bool false, .bool false]) w := by kernel_rfl

theorem Try.infoInt : (Try.prog.info? 3).map (fun i => (i.zero, i.size, i.bytes)) = some (some (.int .i64 0), 1, 8) := by kernel_rfl
/-- A row of codes that the law made. -/
def RowS (w : World) (base : Nat) (v : Value) (row : List Nat) : Prop := w.ownsRow base 3 1 v row.length (row.map fun k : Nat => Value.int .i64 (k : Int))
theorem RowS.form {w : World} {base : Nat} {v : Value} {row : List Nat} (h : RowS w base v row) : ∃ a c, v = .slice a row.length c := by
  rcases h.2 with ⟨h1, h2⟩ | ⟨g, c, cur, hv, _⟩
  · exact ⟨none, 0, by rw [h1, h2]⟩
  · exact ⟨_, c, hv⟩
theorem conv_two (w : World) (x y : Int) : (convert 40 9 (.slice (some ⟨w.heap.size, 0, none⟩) 2 2)).run Try.prog (w.alloc (.cells #[.int .u8 x, .int .u8 y] 5)) = .ok (.string (mk [byteO x, byteO y])) (w.alloc (.cells #[.int .u8 x, .int .u8 y] 5)) :=
  conv_new (P := Try.prog) w 40 9 5 5 2 [x, y] 2 #[.int .u8 x, .int .u8 y] rfl rfl Try.underlying40 Try.underlying5 Try.underlying9
/-- What the law holds in memory: want, seen, row. -/
structure Mem (w0 w : World) (B : Nat) (v : Value) (st : Nat → List UInt8) (sn : Nat → Bool) (row : List Nat) : Prop where
  wc : ∀ k, k < 4 → w.cell? ⟨B, k, none⟩ = some (.string (mk (st k)))
  wf : ∀ k, w.frozen? ⟨B, k, none⟩ = false
  sc : ∀ k, k < 4 → w.cell? ⟨B + 1, k, none⟩ = some (.bool (sn k))
  sf : ∀ k, w.frozen? ⟨B + 1, k, none⟩ = false
  ro : RowS w (B + 2) v row
  bl : Below w0.heap.size w0 w
  lt : B + 1 < w.heap.size
  b0 : w0.heap.size ≤ B
theorem Mem.of {w0 w w' : World} {B : Nat} {v v' : Value} {st : Nat → List UInt8} {sn : Nat → Bool} {row row' : List Nat} (h : Mem w0 w B v st sn row) (h0 : w'.heap[B]? = w.heap[B]?) (h1 : w'.heap[B + 1]? = w.heap[B + 1]?) (hr : RowS w' (B + 2) v' row') (hb : Below w0.heap.size w0 w') (hs : w.heap.size ≤ w'.heap.size) : Mem w0 w' B v' st sn row' :=
  ⟨fun k hk => (World.cell?_of_block (a := ⟨B, k, none⟩) h0).trans (h.wc k hk), fun k => (World.frozen?_of_block (a := ⟨B, k, none⟩) h0).trans (h.wf k), fun k hk => (World.cell?_of_block (a := ⟨B + 1, k, none⟩) h1).trans (h.sc k hk), fun k => (World.frozen?_of_block (a := ⟨B + 1, k, none⟩) h1).trans (h.sf k), hr, hb, Nat.lt_of_lt_of_le h.lt hs, h.b0⟩
theorem RowS.below {w w' : World} {base : Nat} {v : Value} {row : List Nat} (h : RowS w base v row) (hb : Below w.heap.size w w') : RowS w' base v row := by
  obtain ⟨h1, h2⟩ := h
  refine ⟨h1, ?_⟩
  rcases h2 with h2 | ⟨g, cap, cur, hv, hg, hh, r⟩
  · exact .inl h2
  · exact .inr ⟨g, cap, cur, hv, hg, (hb.block g (Array.getElem?_eq_some_iff.1 hh).1).trans hh, r⟩
theorem RowS.other {w : World} {base : Nat} {v : Value} {row : List Nat} (h : RowS w base v row) {b j : Nat} (hb : b < base) (u : Value) : RowS (w.setCell ⟨b, j, none⟩ u) base v row := by
  obtain ⟨h1, h2⟩ := h
  refine ⟨h1, ?_⟩
  rcases h2 with h2 | ⟨g, cap, cur, hv, hg, hh, r⟩
  · exact .inl h2
  · exact .inr ⟨g, cap, cur, hv, hg, (Below.heap_setCell _ _ _ _ (by simp only; omega)).trans hh, r⟩
theorem Mem.below {w0 w w' : World} {B : Nat} {v : Value} {st : Nat → List UInt8} {sn : Nat → Bool} {row : List Nat} (h : Mem w0 w B v st sn row) (hb : Below w.heap.size w w') : Mem w0 w' B v st sn row :=
  h.of (hb.block _ (Nat.lt_of_succ_lt h.lt)) (hb.block _ h.lt) (h.ro.below hb) (bel_trans h.bl hb) hb.size
theorem Mem.grown {w0 w w' : World} {B : Nat} {v v' : Value} {st : Nat → List UInt8} {sn : Nat → Bool} {row : List Nat} {k : Nat} (h : Mem w0 w B v st sn row) (o : Obj) (hr : w'.ownsRow (B + 2) 3 1 v' (row.length + 1) ((row.map fun k : Nat => Value.int .i64 (k : Int)) ++ [Value.int .i64 (k : Int)])) (hg : (w.alloc o).grownBy w' v.ownBlock) : Mem w0 w' B v' st sn (row ++ [k]) := by
  have hR : RowS w' (B + 2) v' (row ++ [k]) := by unfold RowS; simpa using hr
  have hB : Below (B + 2) w w' := ((Below.refl _ w).alloc (by have := h.lt; omega) o).grown hg (by simp; have := h.lt; omega) (fun k hk => (World.ownsRow.lt h.ro k hk).1)
  exact h.of (hB.block _ (by omega)) (hB.block _ (by omega)) hR (h.bl.trans (hB.mono (by have := h.b0; omega))) hB.size
theorem Mem.seen {w0 w : World} {B : Nat} {v : Value} {st : Nat → List UInt8} {sn : Nat → Bool} {row : List Nat} {k : Nat} (h : Mem w0 w B v st sn row) (hk : k < 4) : Mem w0 (w.setCell ⟨B + 1, k, none⟩ (.bool true)) B v st (fun x => if x = k then true else sn x) row := by
  have h0 : (w.setCell ⟨B + 1, k, none⟩ (.bool true)).heap[B]? = w.heap[B]? := Below.heap_setCell _ _ _ _ (by simp only; omega)
  refine ⟨fun x hx => (World.cell?_of_block (a := ⟨B, x, none⟩) h0).trans (h.wc x hx), fun x => (World.frozen?_of_block (a := ⟨B, x, none⟩) h0).trans (h.wf x), fun x hx => ?_, fun x => ?_, h.ro.other (by omega) _, h.bl.setCell (show _ ≤ B + 1 by have := h.b0; omega) _, by rw [setCell_size]; exact h.lt, h.b0⟩
  · refine (way_cell (h.sc x hx) (h.sc k hk)).trans ?_
    by_cases e : x = k
    · subst e; simp
    · simp [e]
  · rw [World.frozen?_setCell]; exact h.sf x
theorem Mem.want {w0 w : World} {B : Nat} {v : Value} {st : Nat → List UInt8} {sn : Nat → Bool} {row : List Nat} {k : Nat} {t : List UInt8} (h : Mem w0 w B v st sn row) (hk : k < 4) : Mem w0 (w.setCell ⟨B, k, none⟩ (.string (Pin.mk (st k) ++ Pin.mk t))) B v (stS st k t) sn row := by
  have h0 : (w.setCell ⟨B, k, none⟩ (.string (Pin.mk (st k) ++ Pin.mk t))).heap[B + 1]? = w.heap[B + 1]? := Below.heap_setCell _ _ _ _ (by simp only; omega)
  refine ⟨fun x hx => ?_, fun x => ?_, fun x hx => (World.cell?_of_block (a := ⟨B + 1, x, none⟩) h0).trans (h.sc x hx), fun x => (World.frozen?_of_block (a := ⟨B + 1, x, none⟩) h0).trans (h.sf x), h.ro.other (by omega) _, h.bl.setCell h.b0 _, by rw [setCell_size]; exact h.lt, h.b0⟩
  · refine (way_cell (h.wc x hx) (h.wc k hk)).trans ?_
    unfold stS
    by_cases e : x = k
    · subst e; simp [mk_append]
    · simp [e]
  · rw [World.frozen?_setCell]; exact h.wf x

theorem RowS.at_ {w : World} {base : Nat} {v : Value} {row : List Nat} (h : RowS w base v row) : ∃ a c, v = .slice a row.length c ∧ ∀ i, i < row.length → ∃ g, a = some ⟨g, 0, none⟩ ∧ w.cell? ⟨g, i, none⟩ = some (.int .i64 ((row.getD i 0 : Nat) : Int)) := by
  rcases h.2 with ⟨h1, h2⟩ | ⟨g, c, cur, hv, _⟩
  · exact ⟨none, 0, by rw [h1, h2], fun i hi => by omega⟩
  · refine ⟨_, c, hv, fun i hi => ⟨g, rfl, ?_⟩⟩
    subst hv
    rw [World.ownsRow.cellAt h _ (by omega), List.getElem?_map, List.getD_eq_getElem?_getD, List.getElem?_eq_getElem hi]
    rfl
theorem ops_take {st : Nat → List UInt8} {row : List Nat} {i : Nat} (h : i < row.length) : opsS st (row.take (i + 1)) = opsS st (row.take i) ++ [((20 : Int) + (row.getD i 0 : Nat), st (row.getD i 0))] := by
  rw [List.take_add_one, List.getD_eq_getElem?_getD, List.getElem?_eq_getElem h]
  unfold opsS
  rw [List.map_append]
  rfl
theorem own_drew {w : World} {b : Nat} {t : TypeId} {s : Nat} {v : Value} {n : Nat} {xs : List Value} (h : w.ownsRow b t s v n xs) : w.drew.ownsRow b t s v n xs := h
theorem in_row {row : List Nat} {k : Nat} (x : Nat) : (if x = k then true else decide (x ∈ row)) = decide (x ∈ rowS row k) := by
  unfold rowS
  by_cases e : x = k
  · subst e; rw [if_pos rfl]; symm; apply decide_eq_true; split
    · assumption
    · simp
  · rw [if_neg e]; apply decide_eq_decide.2; split
    · exact Iff.rfl
    · simp [e]
theorem next_bytes {bytes T : List UInt8} {kk : Nat} (h : T.length ≤ 40) : mk bytes ++ mk [byteO (20 + (kk : Int)), byteO (((mk T).size : Int) % 256)] ++ mk T = mk (bytes ++ byteO ((20 : Int) + kk) :: UInt8.ofNat T.length :: T) := by
  rw [mk_append, mk_append]
  congr 1
  have : byteO (((mk T).size : Int) % 256) = UInt8.ofNat T.length := by
    rw [size_mk]
    unfold byteO
    congr 1
    omega
  rw [this]
  simp
theorem get_end {j : Nat} {st : Nat → List UInt8} {row : List Nat} {bytes : List UInt8} (h : SplitInv j st row bytes) : getO (bs (mk bytes)) [] = some (opsS st row) := by
  have := h.get []
  rw [List.append_nil, getO_nil] at this
  exact this
theorem get_end2 {j : Nat} {st : Nat → List UInt8} {row : List Nat} {bytes : List UInt8} (h : SplitInv j st row bytes) : getO (bs (mk bytes ++ ⟨#[255, 32]⟩)) [] = some (opsS st row) := by
  have := h.get [255, 32]
  rw [getO_end] at this
  exact this
set_option maxRecDepth 100000 in
set_option maxHeartbeats 20000000 in
theorem walk (a : Option Addr) (len cap : Nat) (S : Nat → ByteArray) (b : Option Addr) (len2 cap2 : Nat) (zs : List Int) (w : World) (h : IsTexts w a len S) (h2 : IsRow .i64 w b len2 cap2 zs) : Calls Try.prog 7 #[.slice a len cap, .slice b len2 cap2] w fun e w' => e = .returned (.bool true) ∧ Below w.heap.size w w' := by
  have hz1 := Try.zeroS4
  have hz2 := Try.zeroB4
  obtain ⟨i0, hi, hy0, hy1, hy2⟩ := info_parts Try.infoInt
  have HT : Hid (∀ i, i < len → ∃ x, a = some x ∧ w.cell? (x.add i) = some (.string (S i))) := fun i hi => by
    rcases h with ⟨_, rfl⟩ | ⟨x, rfl, _, hc⟩
    · omega
    · exact ⟨x, rfl, (hc i hi).1⟩
  have HC : Hid (∀ i, i < len2 → ∃ y z, b = some y ∧ w.cell? (y.add i) = some (.int .i64 z)) := fun i hi => by
    rcases h2 with ⟨_, rfl, _⟩ | ⟨y, rfl, h1, _, h3, hc, _⟩
    · omega
    · exact ⟨y, _, rfl, hc i (by omega)⟩
  have hlen : len ≤ maxLen := by
    rcases h with ⟨_, rfl⟩ | ⟨x, rfl, hl, _⟩
    · unfold maxLen; omega
    · exact hl
  have hlen2 : len2 ≤ maxLen := by
    rcases h2 with ⟨_, rfl, _⟩ | ⟨y, rfl, h1, h2, _⟩
    · unfold maxLen; omega
    · omega
  unfold maxLen at hlen hlen2
  clear h h2
  go_enter Try.func7, Try.ntmps7
  go_wp2_with fail
  refine (awake6_yes _).mono ?_; rintro e w1 ⟨rfl, hb1⟩
  have B1 : Hid (Below w.heap.size w w1) := hb1
  have hle := hb1.size
  clear hb1
  go_wp2_with fail
  go_loopg [5, 8, 9] 13 (fun n (sv rv iv : Value) wr => ∃ (j : Nat) (st : Nat → List UInt8) (row : List Nat) (bytes : List UInt8), iv = .int .i64 j ∧ sv = .string (mk bytes) ∧ Hid (SplitInv j st row bytes) ∧ Hid (Mem w wr w1.heap.size rv st (fun k => decide (k ∈ row)) row) ∧ n = 12 - j + 1)
  case atStart =>
    refine ⟨0, fun _ => [], [], [], rfl, rfl, split_nil, ?_, rfl⟩
    refine ⟨fun k hk => ?_, fun k => ?_, fun k hk => ?_, fun k => ?_, World.ownsRow_nil _ _ _ _, (B1.out.alloc hle _).alloc (by simp; omega) _, by simp, hle⟩
    · refine (World.cell?_of_block (a := ⟨w1.heap.size, k, none⟩) (Below.heap_alloc _ _ _ (by simp))).trans (new_cell _ _ _ k _ ?_)
      match k, hk with
      | 0, _ => rfl
      | 1, _ => rfl
      | 2, _ => rfl
      | 3, _ => rfl
    · exact (World.frozen?_of_block (a := ⟨w1.heap.size, k, none⟩) (Below.heap_alloc _ _ _ (by simp))).trans (new_frozen _ _ _ k)
    · refine new_at _ _ _ k _ _ (World.size_alloc _ _) ?_
      match k, hk with
      | 0, _ => rfl
      | 1, _ => rfl
      | 2, _ => rfl
      | 3, _ => rfl
    · have := new_frozen (w1.alloc (.cells #[.string ⟨#[]⟩, .string ⟨#[]⟩, .string ⟨#[]⟩, .string ⟨#[]⟩] 48)) #[.bool false, .bool false, .bool false, .bool false] 49 k
      rw [World.size_alloc] at this
      exact this
  case round =>
    obtain ⟨j, st, row, bytes, rfl, rfl, hI, hH, hn⟩ := hrel
    have Hn : Hid (_) := hn
    clear hn
    by_cases hlt : j < len ∧ j < 12
    · obtain ⟨hl1, hl2⟩ := hlt
      obtain ⟨x, rfl, hx0⟩ := HT.out j hl1
      have hx : wr.cell? (x.add j) = some (.string (S j)) := (hH.out.bl.cell (World.block_lt_of_cell? _ _ hx0)).trans hx0
      obtain ⟨kk, hk4, hkk⟩ : ∃ kk : Nat, kk < 4 ∧ ((j < len2 ∧ ∃ y z, b = some y ∧ wr.cell? (y.add j) = some (.int .i64 z) ∧ bits .and .i64 z 3 = (kk : Int)) ∨ (¬ j < len2 ∧ kk = 0)) := by
        by_cases hc : j < len2
        · obtain ⟨y, z, hy, hz⟩ := HC.out j hc
          have hm : bits .and .i64 z 3 = z % 4 := i64_mask 2 z (by omega)
          refine ⟨(z % 4).toNat, by omega, .inl ⟨hc, y, z, hy, (hH.out.bl.cell (World.block_lt_of_cell? _ _ hz)).trans hz, ?_⟩⟩
          rw [hm]; omega
        · exact ⟨0, by omega, .inr ⟨hc, rfl⟩⟩
      obtain ⟨tn, htn, htl, htx⟩ : ∃ tn : Nat, (∀ (w : World) (ts : Array TypeId) (t : TypeId), (Builtin.min_ ts t #[.int .i64 ((S j).size : Int), .int .i64 40]).run Try.prog w = .ok (.int .i64 (tn : Int)) w) ∧ tn ≤ 40 ∧ tn ≤ (S j).size := by
        by_cases hs : 40 < (S j).size
        · exact ⟨40, fun w ts t => by rw [run_min_int2, if_pos (by omega)]; rfl, by omega, by omega⟩
        · exact ⟨(S j).size, fun w ts t => by rw [run_min_int2, if_neg (by omega)], by omega, by omega⟩
      obtain ⟨T, hT⟩ : ∃ T : List UInt8, (S j).extract 0 tn = mk T := ⟨bs ((S j).extract 0 tn), (mk_bs _).symm⟩
      have hTl : T.length = tn := by
        have := congrArg ByteArray.size hT
        rw [size_mk] at this
        simp at this
        omega
      rcases hkk with ⟨hc, y, z, rfl, hz, hzk⟩ | ⟨hc, rfl⟩
      · have hci : (j : Int) < (len2 : Int) := by omega
        have hji : (j : Int) < (len : Int) := by omega
        have hj12 : (j : Int) < 12 := by omega
        have ht0 : (0 : Int) ≤ (tn : Int) := by omega
        have ht1 : (tn : Int) ≤ ((S j).size : Int) := by omega
        go_wp2_with fail
        go_quiet (fail)
        go_wp2_with fail
        have hcv := conv_two (wr.drewN nq) (20 + (kk : Int)) (((mk T).size : Int) % 256)
        have hdz : (wr.drewN nq).heap.size = wr.heap.size := rfl
        rw [hdz] at hcv
        rw [hcv]
        clear hcv hdz
        have hbw : Below wr.heap.size wr ((wr.drewN nq).alloc (.cells #[.int .u8 (20 + (kk : Int)), .int .u8 (((mk T).size : Int) % 256)] 5)) := (below_drewN (Below.refl _ _) nq).alloc (Nat.le_refl _) _
        have M2 : Hid (_) := hH.out.below hbw
        clear hbw hx hz
        generalize (wr.drewN nq).alloc (.cells #[.int .u8 (20 + (kk : Int)), .int .u8 (((mk T).size : Int) % 256)] 5) = w2 at *
        have hby := hI.out.by_
        have hcat : ¬ 9223372036854775807 < (mk bytes).size + (mk [byteO (20 + (kk : Int)), byteO (((mk T).size : Int) % 256)]).size := by rw [size_mk, size_mk]; simp only [List.length_cons, List.length_nil]; omega
        have hcat2 : ¬ 9223372036854775807 < (mk bytes).size + (mk [byteO (20 + (kk : Int)), byteO (((mk T).size : Int) % 256)]).size + (mk T).size := by rw [size_mk, size_mk, size_mk]; simp only [List.length_cons, List.length_nil]; omega
        have hcat3 : ¬ 9223372036854775807 < (mk (st kk)).size + (mk T).size := by have := hI.out.sl kk; rw [size_mk, size_mk]; omega
        by_cases hkr : kk ∈ row
        · have s0 := M2.out.sc kk hk4
          have f0 := M2.out.sf kk
          rw [decide_eq_true hkr] at s0
          have s1 := M2.out.seen hk4 |>.wc kk hk4
          have f1 := M2.out.seen hk4 |>.wf kk
          go_wp2_with fail
          go_roundg (12 - (j + 1) + 1)
          case rel =>
            refine ⟨j + 1, stS st kk T, rowS row kk, _, ?_, congrArg Value.string (next_bytes (by omega)), split_next hI.out hk4 (by omega) hl2, ?_, rfl⟩
            · simp
            · have h3 := (M2.out.seen hk4).want (t := T) hk4
              rw [show (fun x => if x = kk then true else decide (x ∈ row)) = fun x => decide (x ∈ rowS row kk) from funext in_row] at h3
              have e : rowS row kk = row := if_pos hkr
              rw [e] at h3 ⊢
              exact h3
          case measure => have := Hn.out; omega
        · have s0 := M2.out.sc kk hk4
          have f0 := M2.out.sf kk
          rw [decide_eq_false hkr] at s0
          have hr4 := nodup_lt 4 row hI.out.nd hI.out.lt
          have hlt2 := M2.out.lt
          go_wp2_with (first
            | (at_builtin; refine wpList_append_own _ rfl _ _ 47 rfl (w1.heap.size + 2) 3 i0 (.int .i64 0) 1 8 Try.underlying47 hi hy0 hy1 hy2 rfl (by decide) _ row.length (row.map fun k : Nat => Value.int .i64 (k : Int)) rfl (World.ownsRow.alloc M2.out.ro _) ⟨w2.heap.size, 0, none⟩ 1 1 [.int .i64 (kk : Int)] rfl rfl (cell_one_new _ _ _) ?c2 ?c3 ?c4 ?c5 ?_)
            | fail)
          case c2 => intro u hu; simp only [List.mem_singleton] at hu; subst hu; rfl
          case c3 => unfold maxLen; omega
          case c4 => omega
          case c5 => simp; omega
          intro v' w3 hown' hgrow _
          have M3 : Hid (Mem w w3 w1.heap.size v' st (fun k => decide (k ∈ row)) (row ++ [kk])) := M2.out.grown _ hown' hgrow
          clear hown' hgrow s0 f0 M2
          have s0 := M3.out.sc kk hk4
          have f0 := M3.out.sf kk
          have s1 := M3.out.seen hk4 |>.wc kk hk4
          have f1 := M3.out.seen hk4 |>.wf kk
          go_wp2_with fail
          go_roundg (12 - (j + 1) + 1)
          case rel =>
            refine ⟨j + 1, stS st kk T, rowS row kk, _, ?_, congrArg Value.string (next_bytes (by omega)), split_next hI.out hk4 (by omega) hl2, ?_, rfl⟩
            · simp
            · have h3 := (M3.out.seen hk4).want (t := T) hk4
              rw [show (fun x => if x = kk then true else decide (x ∈ row)) = fun x => decide (x ∈ rowS row kk) from funext in_row] at h3
              have e : rowS row kk = row ++ [kk] := if_neg hkr
              rw [e] at h3 ⊢
              exact h3
          case measure => have := Hn.out; omega
      · have hci : ¬ (j : Int) < (len2 : Int) := by omega
        have hji : (j : Int) < (len : Int) := by omega
        have hj12 : (j : Int) < 12 := by omega
        have ht0 : (0 : Int) ≤ (tn : Int) := by omega
        have ht1 : (tn : Int) ≤ ((S j).size : Int) := by omega
        go_wp2_with fail
        go_quiet (fail)
        go_wp2_with fail
        have hcv := conv_two (wr.drewN nq) 20 (((mk T).size : Int) % 256)
        have hdz : (wr.drewN nq).heap.size = wr.heap.size := rfl
        rw [hdz] at hcv
        rw [hcv]
        clear hcv hdz
        have hbw : Below wr.heap.size wr ((wr.drewN nq).alloc (.cells #[.int .u8 20, .int .u8 (((mk T).size : Int) % 256)] 5)) := (below_drewN (Below.refl _ _) nq).alloc (Nat.le_refl _) _
        have M2 : Hid (_) := hH.out.below hbw
        clear hbw hx
        generalize (wr.drewN nq).alloc (.cells #[.int .u8 20, .int .u8 (((mk T).size : Int) % 256)] 5) = w2 at *
        have hby := hI.out.by_
        have hcat : ¬ 9223372036854775807 < (mk bytes).size + (mk [byteO 20, byteO (((mk T).size : Int) % 256)]).size := by rw [size_mk, size_mk]; simp only [List.length_cons, List.length_nil]; omega
        have hcat2 : ¬ 9223372036854775807 < (mk bytes).size + (mk [byteO 20, byteO (((mk T).size : Int) % 256)]).size + (mk T).size := by rw [size_mk, size_mk, size_mk]; simp only [List.length_cons, List.length_nil]; omega
        have hcat3 : ¬ 9223372036854775807 < (mk (st 0)).size + (mk T).size := by have := hI.out.sl 0; rw [size_mk, size_mk]; omega
        by_cases hkr : 0 ∈ row
        · have s0 := M2.out.sc 0 (by omega)
          have f0 := M2.out.sf 0
          rw [decide_eq_true hkr] at s0
          have s1 := M2.out.seen hk4 |>.wc 0 hk4
          have f1 := M2.out.seen hk4 |>.wf 0
          go_wp2_with fail
          go_roundg (12 - (j + 1) + 1)
          case rel =>
            refine ⟨j + 1, stS st 0 T, rowS row 0, _, ?_, congrArg Value.string (next_bytes (kk := 0) (by omega)), split_next (k := 0) hI.out hk4 (by omega) hl2, ?_, rfl⟩
            · simp
            · have h3 := (M2.out.seen hk4).want (t := T) hk4
              rw [show (fun x => if x = 0 then true else decide (x ∈ row)) = fun x => decide (x ∈ rowS row 0) from funext in_row] at h3
              have e : rowS row 0 = row := if_pos hkr
              rw [e] at h3 ⊢
              exact h3
          case measure => have := Hn.out; omega
        · have s0 := M2.out.sc 0 (by omega)
          have f0 := M2.out.sf 0
          rw [decide_eq_false hkr] at s0
          have hr4 := nodup_lt 4 row hI.out.nd hI.out.lt
          have hlt2 := M2.out.lt
          go_wp2_with (first
            | (at_builtin; refine wpList_append_own _ rfl _ _ 47 rfl (w1.heap.size + 2) 3 i0 (.int .i64 0) 1 8 Try.underlying47 hi hy0 hy1 hy2 rfl (by decide) _ row.length (row.map fun k : Nat => Value.int .i64 (k : Int)) rfl (World.ownsRow.alloc M2.out.ro _) ⟨w2.heap.size, 0, none⟩ 1 1 [.int .i64 0] rfl rfl (cell_one_new _ _ _) ?c2 ?c3 ?c4 ?c5 ?_)
            | fail)
          case c2 => intro u hu; simp only [List.mem_singleton] at hu; subst hu; rfl
          case c3 => unfold maxLen; omega
          case c4 => omega
          case c5 => simp; omega
          intro v' w3 hown' hgrow _
          have M3 : Hid (Mem w w3 w1.heap.size v' st (fun k => decide (k ∈ row)) (row ++ [0])) := M2.out.grown (k := 0) _ hown' hgrow
          clear hown' hgrow s0 f0 M2
          have s0 := M3.out.sc 0 hk4
          have f0 := M3.out.sf 0
          have s1 := M3.out.seen hk4 |>.wc 0 hk4
          have f1 := M3.out.seen hk4 |>.wf 0
          go_wp2_with fail
          go_roundg (12 - (j + 1) + 1)
          case rel =>
            refine ⟨j + 1, stS st 0 T, rowS row 0, _, ?_, congrArg Value.string (next_bytes (kk := 0) (by omega)), split_next (k := 0) hI.out hk4 (by omega) hl2, ?_, rfl⟩
            · simp
            · have h3 := (M3.out.seen hk4).want (t := T) hk4
              rw [show (fun x => if x = 0 then true else decide (x ∈ row)) = fun x => decide (x ∈ rowS row 0) from funext in_row] at h3
              have e : rowS row 0 = row ++ [0] := if_neg hkr
              rw [e] at h3 ⊢
              exact h3
          case measure => have := Hn.out; omega
    · have HB : Hid (w1.heap.size + 1 < wr.heap.size) := hH.out.lt
      obtain ⟨ra, rc, rfl, hro⟩ := hH.out.ro.at_
      have HR : Hid (_) := hro
      clear hro
      have hr4 := nodup_lt 4 row hI.out.nd hI.out.lt
      rcases (show (¬ (j : Int) < (len : Int)) ∨ ((j : Int) < (len : Int) ∧ ¬ (j : Int) < 12) by omega) with hout | ⟨hout, hout2⟩
      · go_wp2_with fail
        rename World => v0
        go_loopg [12, 13] (row.length + 1) (fun n (ov iv : Value) wr => ∃ (i : Nat) (o : Value), o = ov ∧ iv = .int .i64 i ∧ Hid (i ≤ row.length ∧ Opts wr v0.heap.size o (opsS st (row.take i)) ∧ Below v0.heap.size v0 wr ∧ n = row.length - i + 1))
        case atStart => exact ⟨0, _, rfl, rfl, by omega, by simp [opsS]; exact World.ownsRow_nil _ _ _ _, Below.refl _ _, rfl⟩
        case round =>
          obtain ⟨i, ov, rfl, rfl, hL⟩ := hrel
          by_cases hir : i < row.length
          · have hiri : (i : Int) < (row.length : Int) := by omega
            obtain ⟨g, rfl, hg⟩ := HR.out i hir
            have hx := hI.out.lt (row.getD i 0) (by rw [List.getD_eq_getElem?_getD, List.getElem?_eq_getElem hir]; exact List.getElem_mem hir)
            have hg2 : wr.cell? ⟨g, i, none⟩ = some (.int .i64 ((row.getD i 0 : Nat) : Int)) := (hL.out.2.2.1.cell (World.block_lt_of_cell? _ _ hg)).trans hg
            have hw := hH.out.wc _ hx
            have hw2 : wr.cell? ⟨w1.heap.size, row.getD i 0, none⟩ = some (.string (mk (st (row.getD i 0)))) := (hL.out.2.2.1.cell (World.block_lt_of_cell? _ _ hw)).trans hw
            have HT : Hid (opsS st (row.take (i + 1)) = _) := ops_take (st := st) hir
            clear hg hw
            generalize row.getD i 0 = rk at *
            have hxi : (rk : Int) < 4 := by omega
            have hwk : IntKind.i64.wrap (20 + (rk : Int)) = 20 + (rk : Int) := by rw [IntKind.wrap_i64]; omega
            have HO : Hid (_) := hL.out.2.1
            have hsz := hL.out.2.2.1.size
            obtain ⟨j0, hj0, hq0, hq1, hq2⟩ := info_parts Try.infoOp
            have hon : (opsS st (row.take i)).length = i := by simp [opsS]; omega
            have hown : Hid (wr.ownsRow v0.heap.size 42 2 ov i (opCells (opsS st (row.take i)))) := by
              have := HO.out
              unfold Opts at this
              rw [hon] at this
              exact this
            have hnm : i + 1 ≤ maxLen := by unfold maxLen; omega
            have hnb : (i + 1) * 24 ≤ 140737488355328 := by omega
            go_wp2_with fail
            go_region_law (have hQQ := hown.out; refine step_append_lies _ (by rfl) _ _ _ (by rfl) v0.heap.size 42 j0 _ 2 24 Try.underlying22 hj0 hq0 hq1 hq2 rfl (by omega) _ i (opCells (opsS st (row.take i))) (by rfl) (own_drew (World.ownsRow.alloc hQQ _)) ⟨wr.heap.size, 0, none⟩ 1 1 [.int .i64 (20 + (rk : Int)), .string (mk (st rk))] (by rfl) (by rfl) (World.news_of_block (cs := #[.int .i64 (20 + (rk : Int)), .string (mk (st rk))]) (t := 42) (fr := (0, 0)) (heap_alloc_new wr _)) (by simp [Value.oneCell']) (by omega) hnm hnb (by simp; omega) (wr.heap.size + 1) (by simp) ?_; intro g2 cap2 w3 hown2 hgrow hat hlt2; have B3 : Hid (Below v0.heap.size v0 w3) := by { have h1 : Below v0.heap.size v0 (wr.alloc (.cells #[.int .i64 (20 + (rk : Int)), .string (mk (st rk))] 42)).drew := below_drewN (hL.out.2.2.1.alloc hsz _) 1; exact h1.grown hgrow (by simp; omega) (fun k hk => (World.ownsRow.lt hQQ k hk).1) }; have O3 : Hid (_) := hown2; clear hown2 hgrow hat hlt2 hQQ)
            all_goals
              have hne : (opsS st (row.take (i + 1))).length = i + 1 := by simp [opsS]; omega
              have P3 : Hid (Opts w3 v0.heap.size (.slice (some ⟨g2, 0, none⟩) (i + 1) cap2) (opsS st (row.take (i + 1)))) := by
                show w3.ownsRow _ _ _ _ _ _
                rw [hne, HT.out, opCells_append]
                exact O3.out
              clear O3 hown HO hg2 hw2 HT
              go_wp2
              go_roundg (row.length - (i + 1) + 1)
              case measure => have := hL.out.2.2.2; omega
              case rel => exact ⟨i + 1, _, rfl, by simp, by omega, P3.out, B3.out, rfl⟩
          · have hiri : ¬ (i : Int) < (row.length : Int) := by omega
            have hO := hL.out.2.1
            rw [List.take_of_length_le (by omega)] at hO
            obtain ⟨oa, oc, rfl, hOl⟩ := hO.lies
            have HOn : Hid ((opsS st row).length ≤ 10000000000000) := by show _ ≤ _; simp [opsS]; omega
            have L0 : Hid (OpLies wr oa (opsS st row)) := hOl
            have B0 : Hid (Below w.heap.size w wr) := bel_trans hH.out.bl hL.out.2.2.1
            have G1 : Hid (_) := get_end hI.out
            have G2 : Hid (_) := get_end2 hI.out
            have hby := hI.out.by_
            have hle := hI.out.le
            have Z1 : Hid ((mk bytes).size ≤ 1125899906842624) := by show _ ≤ _; rw [size_mk]; omega
            have Z2 : Hid ((mk bytes ++ (⟨#[255, 32]⟩ : ByteArray)).size ≤ 1125899906842624) := by
              show _ ≤ _
              rw [ByteArray.size_append, size_mk]
              have : (⟨#[255, 32]⟩ : ByteArray).size = 2 := rfl
              omega
            have hcat : ¬ 9223372036854775807 < (mk bytes).size + 2 := by rw [size_mk]; omega
            have hcat2 : ¬ 9223372036854775807 < (mk bytes).size + (⟨#[255, 32]⟩ : ByteArray).size := hcat
            clear hOl hO hL HR HT HC hI hH
            generalize opsS st row = os at *
            generalize mk bytes = bb at *
            go_wp2_with fail
            refine (oGet_yes _ os _ Z1.out G1.out).mono ?_; rintro e w3 ⟨⟨v1, rfl, k1⟩, hb3⟩
            obtain ⟨a1, c1, rfl, l1⟩ := k1.lies
            have L1 : Hid (OpLies w3 a1 os) := l1
            have L0' : Hid (OpLies w3 oa os) := L0.out.below hb3
            have B3 : Hid (Below w.heap.size w w3) := bel_trans B0.out hb3
            clear k1 l1 hb3 B0 L0 G1 Z1
            go_wp2_with fail
            refine (oGet_yes _ os _ Z2.out G2.out).mono ?_; rintro e w4 ⟨⟨v2, rfl, k2⟩, hb4⟩
            obtain ⟨a2, c2, rfl, l2⟩ := k2.lies
            have L2 : Hid (OpLies w4 a2 os) := l2
            have L1' : Hid (OpLies w4 a1 os) := L1.out.below hb4
            have L0 : Hid (OpLies w4 oa os) := L0'.out.below hb4
            have B4 : Hid (Below w.heap.size w w4) := bel_trans B3.out hb4
            clear k2 l2 hb4 B3 L0' L1 G2 Z2
            go_wp2_with (go_at_call 15; refine (num_any _ _).mono ?_; rintro e w9 ⟨rfl, rfl⟩)
            refine (sameOp_c a1 oa os.length os.length c1 oc os _ rfl rfl HOn.out L1'.out L0.out).mono ?_; rintro e w5 ⟨rfl, hb5⟩
            have L2' : Hid (OpLies w5 a2 os) := L2.out.below hb5
            have L0' : Hid (OpLies w5 oa os) := L0.out.below hb5
            have B5 : Hid (Below w.heap.size w w5) := bel_trans B4.out hb5
            clear hb5 L2 L0 L1' B4
            go_wp2_with (go_at_call 15; refine (num_any _ _).mono ?_; rintro e w9 ⟨rfl, rfl⟩)
            refine (sameOp_c a2 oa os.length os.length c2 oc os _ rfl rfl HOn.out L2'.out L0'.out).mono ?_; rintro e w6 ⟨rfl, hb6⟩
            have B6 : Hid (Below w.heap.size w w6) := bel_trans B5.out hb6
            clear hb6 L2' L0' B5
            go_wp2
            go_ret
            exact ⟨rfl, B6.out⟩
      · go_wp2_with fail
        rename World => v0
        go_loopg [12, 13] (row.length + 1) (fun n (ov iv : Value) wr => ∃ (i : Nat) (o : Value), o = ov ∧ iv = .int .i64 i ∧ Hid (i ≤ row.length ∧ Opts wr v0.heap.size o (opsS st (row.take i)) ∧ Below v0.heap.size v0 wr ∧ n = row.length - i + 1))
        case atStart => exact ⟨0, _, rfl, rfl, by omega, by simp [opsS]; exact World.ownsRow_nil _ _ _ _, Below.refl _ _, rfl⟩
        case round =>
          obtain ⟨i, ov, rfl, rfl, hL⟩ := hrel
          by_cases hir : i < row.length
          · have hiri : (i : Int) < (row.length : Int) := by omega
            obtain ⟨g, rfl, hg⟩ := HR.out i hir
            have hx := hI.out.lt (row.getD i 0) (by rw [List.getD_eq_getElem?_getD, List.getElem?_eq_getElem hir]; exact List.getElem_mem hir)
            have hg2 : wr.cell? ⟨g, i, none⟩ = some (.int .i64 ((row.getD i 0 : Nat) : Int)) := (hL.out.2.2.1.cell (World.block_lt_of_cell? _ _ hg)).trans hg
            have hw := hH.out.wc _ hx
            have hw2 : wr.cell? ⟨w1.heap.size, row.getD i 0, none⟩ = some (.string (mk (st (row.getD i 0)))) := (hL.out.2.2.1.cell (World.block_lt_of_cell? _ _ hw)).trans hw
            have HT : Hid (opsS st (row.take (i + 1)) = _) := ops_take (st := st) hir
            clear hg hw
            generalize row.getD i 0 = rk at *
            have hxi : (rk : Int) < 4 := by omega
            have hwk : IntKind.i64.wrap (20 + (rk : Int)) = 20 + (rk : Int) := by rw [IntKind.wrap_i64]; omega
            have HO : Hid (_) := hL.out.2.1
            have hsz := hL.out.2.2.1.size
            obtain ⟨j0, hj0, hq0, hq1, hq2⟩ := info_parts Try.infoOp
            have hon : (opsS st (row.take i)).length = i := by simp [opsS]; omega
            have hown : Hid (wr.ownsRow v0.heap.size 42 2 ov i (opCells (opsS st (row.take i)))) := by
              have := HO.out
              unfold Opts at this
              rw [hon] at this
              exact this
            have hnm : i + 1 ≤ maxLen := by unfold maxLen; omega
            have hnb : (i + 1) * 24 ≤ 140737488355328 := by omega
            go_wp2_with fail
            go_region_law (have hQQ := hown.out; refine step_append_lies _ (by rfl) _ _ _ (by rfl) v0.heap.size 42 j0 _ 2 24 Try.underlying22 hj0 hq0 hq1 hq2 rfl (by omega) _ i (opCells (opsS st (row.take i))) (by rfl) (own_drew (World.ownsRow.alloc hQQ _)) ⟨wr.heap.size, 0, none⟩ 1 1 [.int .i64 (20 + (rk : Int)), .string (mk (st rk))] (by rfl) (by rfl) (World.news_of_block (cs := #[.int .i64 (20 + (rk : Int)), .string (mk (st rk))]) (t := 42) (fr := (0, 0)) (heap_alloc_new wr _)) (by simp [Value.oneCell']) (by omega) hnm hnb (by simp; omega) (wr.heap.size + 1) (by simp) ?_; intro g2 cap2 w3 hown2 hgrow hat hlt2; have B3 : Hid (Below v0.heap.size v0 w3) := by { have h1 : Below v0.heap.size v0 (wr.alloc (.cells #[.int .i64 (20 + (rk : Int)), .string (mk (st rk))] 42)).drew := below_drewN (hL.out.2.2.1.alloc hsz _) 1; exact h1.grown hgrow (by simp; omega) (fun k hk => (World.ownsRow.lt hQQ k hk).1) }; have O3 : Hid (_) := hown2; clear hown2 hgrow hat hlt2 hQQ)
            all_goals
              have hne : (opsS st (row.take (i + 1))).length = i + 1 := by simp [opsS]; omega
              have P3 : Hid (Opts w3 v0.heap.size (.slice (some ⟨g2, 0, none⟩) (i + 1) cap2) (opsS st (row.take (i + 1)))) := by
                show w3.ownsRow _ _ _ _ _ _
                rw [hne, HT.out, opCells_append]
                exact O3.out
              clear O3 hown HO hg2 hw2 HT
              go_wp2
              go_roundg (row.length - (i + 1) + 1)
              case measure => have := hL.out.2.2.2; omega
              case rel => exact ⟨i + 1, _, rfl, by simp, by omega, P3.out, B3.out, rfl⟩
          · have hiri : ¬ (i : Int) < (row.length : Int) := by omega
            have hO := hL.out.2.1
            rw [List.take_of_length_le (by omega)] at hO
            obtain ⟨oa, oc, rfl, hOl⟩ := hO.lies
            have HOn : Hid ((opsS st row).length ≤ 10000000000000) := by show _ ≤ _; simp [opsS]; omega
            have L0 : Hid (OpLies wr oa (opsS st row)) := hOl
            have B0 : Hid (Below w.heap.size w wr) := bel_trans hH.out.bl hL.out.2.2.1
            have G1 : Hid (_) := get_end hI.out
            have G2 : Hid (_) := get_end2 hI.out
            have hby := hI.out.by_
            have hle := hI.out.le
            have Z1 : Hid ((mk bytes).size ≤ 1125899906842624) := by show _ ≤ _; rw [size_mk]; omega
            have Z2 : Hid ((mk bytes ++ (⟨#[255, 32]⟩ : ByteArray)).size ≤ 1125899906842624) := by
              show _ ≤ _
              rw [ByteArray.size_append, size_mk]
              have : (⟨#[255, 32]⟩ : ByteArray).size = 2 := rfl
              omega
            have hcat : ¬ 9223372036854775807 < (mk bytes).size + 2 := by rw [size_mk]; omega
            have hcat2 : ¬ 9223372036854775807 < (mk bytes).size + (⟨#[255, 32]⟩ : ByteArray).size := hcat
            clear hOl hO hL HR HT HC hI hH
            generalize opsS st row = os at *
            generalize mk bytes = bb at *
            go_wp2_with fail
            refine (oGet_yes _ os _ Z1.out G1.out).mono ?_; rintro e w3 ⟨⟨v1, rfl, k1⟩, hb3⟩
            obtain ⟨a1, c1, rfl, l1⟩ := k1.lies
            have L1 : Hid (OpLies w3 a1 os) := l1
            have L0' : Hid (OpLies w3 oa os) := L0.out.below hb3
            have B3 : Hid (Below w.heap.size w w3) := bel_trans B0.out hb3
            clear k1 l1 hb3 B0 L0 G1 Z1
            go_wp2_with fail
            refine (oGet_yes _ os _ Z2.out G2.out).mono ?_; rintro e w4 ⟨⟨v2, rfl, k2⟩, hb4⟩
            obtain ⟨a2, c2, rfl, l2⟩ := k2.lies
            have L2 : Hid (OpLies w4 a2 os) := l2
            have L1' : Hid (OpLies w4 a1 os) := L1.out.below hb4
            have L0 : Hid (OpLies w4 oa os) := L0'.out.below hb4
            have B4 : Hid (Below w.heap.size w w4) := bel_trans B3.out hb4
            clear k2 l2 hb4 B3 L0' L1 G2 Z2
            go_wp2_with (go_at_call 15; refine (num_any _ _).mono ?_; rintro e w9 ⟨rfl, rfl⟩)
            refine (sameOp_c a1 oa os.length os.length c1 oc os _ rfl rfl HOn.out L1'.out L0.out).mono ?_; rintro e w5 ⟨rfl, hb5⟩
            have L2' : Hid (OpLies w5 a2 os) := L2.out.below hb5
            have L0' : Hid (OpLies w5 oa os) := L0.out.below hb5
            have B5 : Hid (Below w.heap.size w w5) := bel_trans B4.out hb5
            clear hb5 L2 L0 L1' B4
            go_wp2_with (go_at_call 15; refine (num_any _ _).mono ?_; rintro e w9 ⟨rfl, rfl⟩)
            refine (sameOp_c a2 oa os.length os.length c2 oc os _ rfl rfl HOn.out L2'.out L0'.out).mono ?_; rintro e w6 ⟨rfl, hb6⟩
            have B6 : Hid (Below w.heap.size w w6) := bel_trans B5.out hb6
            clear hb6 L2' L0' B5
            go_wp2
            go_ret
            exact ⟨rfl, B6.out⟩

theorem own : ownKnob Try.prog.godebug = none := by kernel_rfl
theorem laidOut : laidOutB Try.prog = true := by kernel_rfl

/-! ### The row's step -/
set_option maxRecDepth 100000 in
theorem lifted (os : Os) (started : os.Started) (H : Type) (enc : TypeId × Value → H) :
    ReturnsInHanded {} Try.checked os 7 .any (Rows.optsSplitSpec.pre6 enc Try.prog Try.f7 Rows.optsSplitRow.domain false) (Rows.optsSplitSpec.post enc Try.prog Try.f7 false true false false) := by
  refine returnsInHanded_of_change_sized (C := Try.checked) own started (by kernel_rfl) Try.func7
    (ChangeSpec.witness6 (enc := enc) (C := Try.checked) false ⟨#[], #[.slice none 0 0, .slice none 0 0], []⟩ 8 (by kernel_rfl) (by kernel_rfl) (by kernel_rfl) (by kernel_rfl)) ?_
  intro W base args ds gs before hval0 hW _ hsz0 _
  have hval : ∀ (j : Nat) t v, Try.f7.params[j]? = some t → args[j]? = some v → Value.okWide Try.prog W .any base t v := hval0
  have hsz : (DataW.weightsEach Try.prog (Try.f7.params.toList ++ Rows.optsSplitSpec.plain.varTypes Try.prog) (ds ++ gs)).all (· ≤ reachBytes) = true := hsz0
  have hW' := hW
  obtain ⟨p, q, hA0, hV, rfl, _, _⟩ := hW
  have hA : DataW.TrodAll enc Try.prog W 0 (fun _ => true) true Try.f7.params.toList args.toList ds p := hA0
  rw [Try.params7] at hA hval hsz
  obtain ⟨v0, vs0, d0, ds0, p0, q0, hargs, rfl, rfl, h0, r0⟩ := trodAll_cons hA
  obtain ⟨v1, vs1, d1, ds1, p1, q1, rfl, rfl, rfl, h1, r1⟩ := trodAll_cons r0
  obtain ⟨rfl, rfl, rfl⟩ := trodAll_nil r1
  obtain rfl : args = #[v0, v1] := by cases args; simp_all
  obtain ⟨rfl, rfl⟩ := trodVars_none hV
  obtain ⟨a0, len0, cap0, rfl⟩ := okWide_slice Try.underlying45 (hval 0 45 v0 rfl rfl)
  have k0 := h0
  have lt0 : ∀ x ∈ p0, x.block < W.heap.size := by obtain ⟨m, hm⟩ := k0; exact DataW.trod_lt m _ _ _ hm
  obtain ⟨z0, w0⟩ : ∃ S, IsTexts W a0 len0 S := by
    obtain ⟨fuel, hf⟩ := h0
    rcases Go.Deep.open_strs Try.underlying45 Try.underlying9 (by kernel_rfl) hf with ⟨hcs, _⟩ | ⟨x, l, c, m, S, hcs, _, hl, hm, hmm, _, hcell⟩
    · simp [Value.cells] at hcs
      obtain ⟨rfl, rfl, rfl⟩ := hcs
      exact ⟨fun _ => ⟨#[]⟩, .inl ⟨rfl, rfl⟩⟩
    · simp [Value.cells] at hcs
      obtain ⟨rfl, rfl, rfl⟩ := hcs
      have hlm : len0 ≤ m := by rw [hmm]; split <;> omega
      exact ⟨S, .inr ⟨_, rfl, Nat.le_trans hl hm, fun i hi => hcell i (by omega)⟩⟩
  obtain ⟨a1, len1, cap1, rfl⟩ := okWide_slice Try.underlying47 (hval 1 47 v1 rfl rfl)
  have k1 := h1
  have lt1 : ∀ x ∈ p1, x.block < W.heap.size := by obtain ⟨m, hm⟩ := k1; exact DataW.trod_lt m _ _ _ hm
  obtain ⟨z1, w1⟩ : ∃ zs, IsRow .i64 W a1 len1 cap1 zs := by
    obtain ⟨fuel, hf⟩ := h1
    rcases open_ints Try.underlying47 Try.underlying3 (by kernel_rfl) hf with ⟨hcs, _⟩ | ⟨x, l, c, zs, hcs, _, hl, hm, hz, _, hcell, hwz⟩
    · simp [Value.cells] at hcs
      obtain ⟨rfl, rfl, rfl⟩ := hcs
      exact ⟨[], .inl ⟨rfl, rfl, rfl, rfl⟩⟩
    · simp [Value.cells] at hcs
      obtain ⟨rfl, rfl, rfl⟩ := hcs
      exact ⟨zs, .inr ⟨_, rfl, hl, hm, by simpa using hz, hcell, hwz⟩⟩
  clear hA0 hval0 hsz0
  refine (walk a0 len0 cap0 z0 a1 len1 cap1 z1 W w0 w1).mono fun e W' ⟨he, bel⟩ => ?_
  subst he
  exact ⟨_, rfl, _, _, _, [], _, [], hW', trodAll_mk1 (shut_bool Try.underlying4 _), (trodAll_cons_mk (Below.trod laidOut (by kernel_rfl) (of_decide_eq_true (by kernel_rfl)) k0 bel lt0) (trodAll_cons_mk (Below.trod laidOut (by kernel_rfl) (of_decide_eq_true (by kernel_rfl)) k1 bel lt1) trodAll_mk0)), rfl, bel.frame _, fun h => by cases h⟩

theorem over : Rows.optsSplitRow.holds Try.pinned (OpenSpec.ofChange Rows.optsSplitSpec) :=
  OpenClaim.holds_of_wide 7 Try.f7 rfl rfl rfl rfl rfl rfl rfl ⟨rfl, rfl, rfl, rfl, rfl⟩ rfl rfl rfl rfl rfl (by kernel_rfl) Try.func7 (by kernel_rfl)
    (of_decide_eq_true (by kernel_rfl)) (by unfold Func.isWrapper; first | (rw [if_pos (by decide +kernel)]; kernel_rfl) | (rw [if_neg (by decide +kernel)]; exact ⟨rfl, rfl⟩))
    (fun os started H enc _ => lifted os started H enc)

/-- The given statement. -/
theorem proved : Rows.OptsSplitSaid := over

end optsSplit
theorem optsSplit_proved : Rows.OptsSplitSaid := optsSplit.proved
end Go.Proofs.Ytodjgbdjkncpgaa
