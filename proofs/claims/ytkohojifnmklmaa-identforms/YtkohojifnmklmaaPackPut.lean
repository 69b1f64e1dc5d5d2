/-
  Contracts of package packet: what puts numbers, what asks for room.
-/
import Derived.Test.YtkohojifnmklmaaPackPure
import Derived.Test.YtkohojifnmklmaaOptPut2
namespace Go.Proofs.Ytkohojifnmklmaa
open Go.ChangeShapes Go.WideShapes Go.ChangeAt Go.RowKit Go.Pin Go.PlainAid

/-- The numbers ns lie from x on. -/
def IntsFrom (w : World) (x : Addr) (ns : List Int) : Prop := ∀ j, j < ns.length → w.cell? (x.add j) = some (.int .i64 (ns.getD j 0))
theorem IntsFrom.below {w w' : World} {x : Addr} {ns : List Int} (h : IntsFrom w x ns) (hb : Below w.heap.size w w') : IntsFrom w' x ns := fun j hj => (hb.cell (World.block_lt_of_cell? w _ (h j hj))).trans (h j hj)
theorem add_blk (x : Addr) (n : Nat) : (x.add n).block = x.block := by unfold Addr.add; split <;> rfl
theorem IntsFrom.keep {w w' : World} {x : Addr} {ns : List Int} (h : IntsFrom w x ns) (hb : w'.heap[x.block]? = w.heap[x.block]?) : IntsFrom w' x ns := fun j hj => (World.cell?_of_block (by rw [add_blk]; exact hb)).trans (h j hj)
theorem nums_take {k : Nat} {ns : List Int} {j : Nat} (h : j < ns.length) : nums k (ns.take (j + 1)) = nums k (ns.take j) ++ bs (be (ns.getD j 0) k) := by
  rw [List.take_add_one, List.getElem?_eq_getElem h, List.getD_eq_getElem?_getD, List.getElem?_eq_getElem h]
  exact nums_snoc _ _ _
theorem numW_is (v : Int) (k : Nat) (P : List UInt8) (ks : List Kn) : numW v k ⟨P, ks, false⟩ = ⟨P ++ bs (be v k), ks, false⟩ := by simp [numW, textW]
/-! ### room -/
theorem bad_c (v : Int) (k : Nat) (p : Addr) (w : World) (hp : w.cell? p = some (.int .i64 k)) :
    Calls Try.prog 42 #[.int .i64 v, .pointer (some p)] w fun e w' => e = .returned (.bool (!decide (inB v k))) ∧ Below w.heap.size w w' := by
  by_cases h : inB v k
  · have H := put_ok v k w h
    rw [decide_eq_true h]
    simp only [Int.toNat_natCast] at H
    generalize be v k = B at *
    clear h
    go_enter Try.func42, Try.ntmps42
    go_wp2_with fail
    refine H.mono ?_; rintro e w1 ⟨rfl, hb⟩
    go_wp2
    go_ret
    exact ⟨rfl, hb⟩
  · have H := put_no v k w h
    rw [decide_eq_false h]
    clear h
    go_enter Try.func42, Try.ntmps42
    go_wp2_with fail
    refine H.mono ?_; rintro e w1 ⟨rfl, rfl⟩
    go_wp2
    go_ret
    exact ⟨rfl, Below.refl _ _⟩
theorem allB_no {k : Int} {ns : List Int} {j : Nat} (hj : j < ns.length) (h : decide (inB (ns.getD j 0) k) = false) : allB k ns = false := by
  rw [← Bool.not_eq_true, allB_iff]
  intro hh
  have hm : ns.getD j 0 ∈ ns := by rw [List.getD_eq_getElem?_getD, List.getElem?_eq_getElem hj]; exact List.getElem_mem hj
  simp only [decide_eq_false_iff_not] at h
  exact h (hh _ hm)
theorem allB_yes {k : Int} {ns : List Int} (h : ∀ j, j < ns.length → decide (inB (ns.getD j 0) k) = true) : allB k ns = true := by
  rw [allB_iff]
  intro v hv
  obtain ⟨j, hj, rfl⟩ := List.getElem_of_mem hv
  have := h j hj
  rw [List.getD_eq_getElem?_getD, List.getElem?_eq_getElem hj] at this
  simpa using this
set_option maxHeartbeats 1000000 in
theorem indexI (x : Addr) (cap : Nat) (ns : List Int) (k : Nat) (p : Addr) (w : World) (hl : ns.length ≤ 100) (h : IntsFrom w x ns) (hp : w.cell? p = some (.int .i64 k)) :
    Calls Try.prog 48 #[.slice (some x) ns.length cap, .func (.func 42) #[] #[.pointer (some p)]] w fun e w' => (∃ i : Int, e = .returned (.int .i64 i) ∧ decide (0 ≤ i) = !allB k ns) ∧ Below w.heap.size w w' := by
  have Hno : Hid (∀ j, j < ns.length → decide (inB (ns.getD j 0) k) = false → allB k ns = false) := fun j => allB_no
  have Hyes : Hid ((∀ j, j < ns.length → decide (inB (ns.getD j 0) k) = true) → allB k ns = true) := allB_yes
  generalize allB k ns = V at *
  have H : Hid (IntsFrom w x ns) := h
  have HB : Hid (∀ (v : Int) (w : World), w.cell? p = some (Value.int .i64 k) → _) := fun v w hp => bad_c v k p w hp
  have HP : Hid (∀ w', Below w.heap.size w w' → w'.cell? p = some (.int .i64 k)) := fun w' hb => (hb.cell (World.block_lt_of_cell? w _ hp)).trans hp
  clear h hp
  go_enter Try.func48, Try.ntmps48
  go_wp2
  go_loopw [8] (fun i wr => ∃ j : Nat, j ≤ ns.length ∧ i = .int .i64 j ∧ Hid (∀ i, i < j → decide (inB (ns.getD i 0) k) = true) ∧ Hid (Below w.heap.size w wr)) (fun i _ => ns.length - (intOf i).toNat)
  case atStart => exact ⟨0, Nat.zero_le _, rfl, fun i hi => by omega, Below.refl _ _⟩
  case round =>
    obtain ⟨j, hj, rfl, hall, B⟩ := hrel
    by_cases hlt : j < ns.length
    · have c := (H.out.below B.out) j hlt
      have hn : Hid (_) := Hno.out j hlt
      have hall' : Hid (decide (inB (ns.getD j 0) k) = true → ∀ i, i < j + 1 → decide (inB (ns.getD i 0) k) = true) := fun hk i hi => by by_cases e : i = j; (subst e; exact hk); exact hall.out i (by omega)
      generalize ns.getD j 0 = v at *
      have HB' := HB.out v _ (HP.out _ B.out)
      clear hall Hno
      cases hk : decide (inB v k) with
      | false =>
        rw [hk] at HB'
        have HV : Hid (V = false) := hn.out hk
        clear hk hall' hn
        go_wp2_with fail
        refine HB'.mono ?_; rintro e w1 ⟨rfl, hb1⟩
        have B1 := B.out.trans (hb1.mono B.out.size)
        clear c hb1 HB'
        go_wp2
        go_ret
        exact ⟨⟨j, rfl, by rw [HV.out]; simp⟩, B1⟩
      | true =>
        rw [hk] at HB'
        have Hall : Hid (∀ i, i < j + 1 → decide (inB (ns.getD i 0) k) = true) := hall'.out hk
        clear hk hall' hn
        go_wp2_with fail
        refine HB'.mono ?_; rintro e w1 ⟨rfl, hb1⟩
        have B1 : Hid (Below w.heap.size w w1) := B.out.trans (hb1.mono B.out.size)
        clear c hb1 HB' B
        go_wp2
        go_roundw
        case rel => exact ⟨j + 1, by omega, by go_num, Hall, B1⟩
        case measure => simp [intOf]; omega
    · obtain rfl : j = ns.length := by omega
      have HV : Hid (V = true) := Hyes.out hall.out
      go_wp2
      go_ret
      exact ⟨⟨-1, rfl, by rw [HV.out]; rfl⟩, B.out⟩
theorem containsI (x : Addr) (cap : Nat) (ns : List Int) (k : Nat) (p : Addr) (w : World) (hl : ns.length ≤ 100) (h : IntsFrom w x ns) (hp : w.cell? p = some (.int .i64 k)) :
    Calls Try.prog 41 #[.slice (some x) ns.length cap, .func (.func 42) #[] #[.pointer (some p)]] w fun e w' => e = .returned (.bool (!allB k ns)) ∧ Below w.heap.size w w' := by
  have HC := indexI x cap ns k p w hl h hp
  generalize (!allB k ns) = V at *
  clear h hp
  go_enter Try.func41, Try.ntmps41
  go_wp2_with fail
  refine HC.mono ?_; rintro e w1 ⟨⟨i, rfl, hi⟩, hb1⟩
  have Hi : Hid (decide (0 ≤ i) = V) := hi
  clear hi
  go_wp2
  go_ret
  exact ⟨ret_bool Hi.out, hb1⟩
theorem haveRoom_c (x : Addr) (cap : Nat) (ns : List Int) (k : Nat) (w : World) (hl : ns.length ≤ 100) (h : IntsFrom w x ns) :
    Calls Try.prog 32 #[.int .i64 k, .slice (some x) ns.length cap] w fun e w' => e = .returned (.bool (allB k ns)) ∧ Below w.heap.size w w' := by
  have hmf : ∀ (fn : Fn) (first cap : Array Value) (w : World), (Instr.makeFunc fn first cap).run Try.prog w = .ok (.func fn first cap) w := fun _ _ _ _ => rfl
  have hb : Below w.heap.size w (w.alloc (.cells #[.int .i64 k] 3)) := (Below.refl _ _).alloc (Nat.le_refl _) _
  have HC := containsI x cap ns k ⟨w.heap.size, 0, none⟩ (w.alloc (.cells #[.int .i64 k] 3)) hl (h.below hb) (new_cell w _ _ _ _ rfl)
  have HB : Hid (_) := hb
  generalize allB k ns = V at *
  clear h hb
  go_enter Try.func32, Try.ntmps32
  go_wp2_with fail
  refine HC.mono ?_; rintro e w1 ⟨rfl, hb1⟩
  go_wp2
  go_ret
  exact ⟨ret_bool (by simp), HB.out.trans (hb1.mono HB.out.size)⟩
end Go.Proofs.Ytkohojifnmklmaa
