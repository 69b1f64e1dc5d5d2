/-
  Contracts of what package wire's Put asks first: which known names may be, whether a name may be put; a name cut at its first point.
-/
import Derived.Test.YteaediobcjednaaNameMore
import Derived.Test.YteaediobcjednaaBe
import Derived.Test.YteaediobcjednaaWireKn
import Derived.Maps.OwnSet
import Derived.DeepKeys4
namespace Go.Proofs.Yteaediobcjednaa
open Go.ChangeShapes Go.WideShapes Go.ChangeAt Go.RowKit Go.Pin Go.PlainAid Go.Maps

theorem number_1 (x : Int) (w : World) (h0 : 0 ≤ x) (h1 : x < 256) : Calls Try.prog 46 #[.int .i64 x, .int .i64 1] w fun e w' => e = .returned (.string (be x 1)) ∧ Below w.heap.size w w' := by
  go_enter Try.func46, Try.ntmps46
  go_wp2_with fail
  refine (put_1 x _ h0 h1).mono ?_; rintro e w1 ⟨rfl, hb⟩
  go_wp2
  go_ret
  exact ⟨rfl, hb⟩
theorem number_2 (x : Int) (w : World) (h0 : 0 ≤ x) (h1 : x < 65536) : Calls Try.prog 46 #[.int .i64 x, .int .i64 2] w fun e w' => e = .returned (.string (be x 2)) ∧ Below w.heap.size w w' := by
  go_enter Try.func46, Try.ntmps46
  go_wp2_with fail
  refine (put_2 x _ h0 h1).mono ?_; rintro e w1 ⟨rfl, hb⟩
  go_wp2
  go_ret
  exact ⟨rfl, hb⟩

/-- The label that is first, and what is behind it. -/
def headL (l : List UInt8) : List UInt8 := l.takeWhile (· ≠ 46)
def tailL (l : List UInt8) : List UInt8 := (l.dropWhile (· ≠ 46)).drop 1
theorem head_hit (a b : List UInt8) (h : (46 : UInt8) ∉ a) : headL (a ++ 46 :: b) = a ∧ tailL (a ++ 46 :: b) = b := by
  induction a with
  | nil => simp [headL, tailL]
  | cons c a ih =>
    simp only [List.mem_cons, not_or] at h
    have hc : c ≠ 46 := fun e => h.1 e.symm
    obtain ⟨h1, h2⟩ := ih h.2
    unfold headL tailL at *
    simp only [List.cons_append, ne_eq, hc, not_false_eq_true, decide_true, List.takeWhile_cons_of_pos, List.dropWhile_cons_of_pos]
    exact ⟨by rw [h1], h2⟩
theorem head_miss (a : List UInt8) (h : (46 : UInt8) ∉ a) : headL a = a ∧ tailL a = [] := by
  induction a with
  | nil => simp [headL, tailL]
  | cons c a ih =>
    simp only [List.mem_cons, not_or] at h
    have hc : c ≠ 46 := fun e => h.1 e.symm
    obtain ⟨h1, h2⟩ := ih h.2
    unfold headL tailL at *
    simp only [ne_eq, hc, not_false_eq_true, decide_true, List.takeWhile_cons_of_pos, List.dropWhile_cons_of_pos]
    exact ⟨by rw [h1], h2⟩

theorem cutAt (l : List UInt8) (w : World) (hs : l.length ≤ maxLen) : Calls Try.prog 55 #[.string (mk l), .string ⟨#[46]⟩] w fun e w' => (∃ m, e = .returned (.tuple #[.string (mk (headL l)), .string (mk (tailL l)), .bool m])) ∧ Below w.heap.size w w' := by
  rcases cut_step l with ⟨x, b, rfl, hx⟩ | hx
  · obtain ⟨h1, h2⟩ := head_hit x b hx
    rw [h1, h2]
    exact (cut_hit _ x b w rfl hx (by rw [size_mk]; exact hs)).mono fun e w' ⟨h1, h2⟩ => ⟨⟨_, h1⟩, h2⟩
  · obtain ⟨h1, h2⟩ := head_miss l hx
    rw [h1, h2]
    exact (cut_miss (mk l) w hx).mono fun e w' ⟨h1, h2⟩ => ⟨⟨_, h1⟩, by rw [h2]; exact Below.refl _ _⟩

theorem tailOf_c (l : List UInt8) (w : World) (hs : l.length ≤ maxLen) : Calls Try.prog 45 #[.string (mk l)] w fun e w' => e = .returned (.agg #[.string (mk (headL l)), .string (mk (tailL l))]) ∧ Below w.heap.size w w' := by
  have HC : Hid (∀ w, _) := fun w => cutAt l w hs
  go_enter Try.func45, Try.ntmps45
  go_wp2_with fail
  refine (HC.out _).mono ?_; rintro e w1 ⟨⟨m, rfl⟩, hb⟩
  have hlt : w.heap.size < (w.alloc (Obj.cells #[Value.string { data := #[] }, Value.string { data := #[] }] 82)).heap.size := by simp
  have c0 := (hb.cell (p := ⟨w.heap.size, 0, none⟩) hlt).trans (new_cell w _ _ 0 _ rfl)
  have c1 := (hb.cell (p := ⟨w.heap.size, 1, none⟩) hlt).trans (new_cell w _ _ 1 _ rfl)
  have f0 := (hb.frozen (p := ⟨w.heap.size, 0, none⟩) hlt).trans (new_frozen w _ _ 0)
  have f1 := (hb.frozen (p := ⟨w.heap.size, 1, none⟩) hlt).trans (new_frozen w _ _ 1)
  have H : Hid (Below w.heap.size w w1) := bel_trans ((Below.refl _ _).alloc (Nat.le_refl _) _) hb
  clear hb
  go_wp2
  generalize hX : (w1.setCell ⟨w.heap.size, 0, none⟩ (.string (mk (headL l)))).setCell ⟨w.heap.size, 1, none⟩ (.string (mk (tailL l))) = w2
  have q0 : w2.cell? ⟨w.heap.size, 0, none⟩ = some (.string (mk (headL l))) := by
    rw [← hX, World.cell?_setCell_other _ _ _ _ (by intro e; injection e with _ e; omega)]
    exact World.cell?_setCell_same _ _ _ c0
  have q1 : w2.cell? ⟨w.heap.size, 1, none⟩ = some (.string (mk (tailL l))) := by
    have c1' : (w1.setCell ⟨w.heap.size, 0, none⟩ (.string (mk (headL l)))).cell? ⟨w.heap.size, 1, none⟩ = some (.string ⟨#[]⟩) := by
      rw [World.cell?_setCell_other _ _ _ _ (by intro e; injection e with _ e; omega)]
      exact c1
    rw [← hX]
    exact World.cell?_setCell_same _ _ _ c1'
  have B : Below w.heap.size w w2 := by rw [← hX]; exact (H.out.setCell (Nat.le_refl _) _).setCell (Nat.le_refl _) _
  clear hX c0 c1 f0 f1
  refine bodyPost_ret (v := .agg #[.string (mk (headL l)), .string (mk (tailL l))]) (by simp [results, Try.results45, go_sem, q0, q1]) rfl ⟨rfl, B⟩

theorem mayNot_c (n : List UInt8) (a : Int) (w : World) (hs : n.length ≤ maxLen) : Calls Try.prog 54 #[.agg #[.string (mk n), .int .i64 a]] w fun e w' => e = .returned (.bool (!knownL (n, a))) ∧ Below w.heap.size w w' := by
  have HM : Hid (∀ w b, mayL n = b → Calls Try.prog 52 #[.string (mk n)] w fun e w' => e = .returned (.bool b) ∧ Below w.heap.size w w') := by
    intro w b hb; rw [← hb]; exact may_c (mk n) w (by rw [size_mk]; exact hs)
  rcases known_cases (n, a) with ⟨hk, hc⟩ | ⟨hk, hc, hm⟩ | ⟨hk, hc, hm, ha⟩ | ⟨hk, hc, hm, ha⟩ | ⟨hk, hc, hm, ha, hb⟩ <;> rw [hk] <;> simp only at hc
  · have he := empty_mk_yes hc
    clear hc hk HM
    go_enter Try.func54, Try.ntmps54
    go_wp2
    go_ret
    exact ⟨rfl, (Below.refl _ _).alloc (Nat.le_refl _) _⟩
  · have he := empty_mk_no hc
    have HC : Hid (_) := fun w => HM.out w _ hm
    clear hc hk HM hm
    go_enter Try.func54, Try.ntmps54
    go_wp2_with fail
    refine (HC.out _).mono ?_; rintro e w1 ⟨rfl, hb1⟩
    go_wp2
    go_ret
    exact ⟨rfl, bel_trans ((Below.refl _ _).alloc (Nat.le_refl _) _) hb1⟩
  · have he := empty_mk_no hc
    have HC : Hid (_) := fun w => HM.out w _ hm
    clear hc hk HM hm
    go_enter Try.func54, Try.ntmps54
    go_wp2_with fail
    refine (HC.out _).mono ?_; rintro e w1 ⟨rfl, hb1⟩
    have c1 := (hb1.cell (p := ⟨w.heap.size, 1, none⟩) (by simp)).trans (new_cell w _ _ 1 _ rfl)
    have B := bel_trans ((Below.refl _ _).alloc (Nat.le_refl _) _) hb1
    clear hb1
    go_wp2
    go_ret
    exact ⟨rfl, B⟩
  · have he := empty_mk_no hc
    have HC : Hid (_) := fun w => HM.out w _ hm
    have ha0 : decide (a < 0) = false := by simp; omega
    clear hc hk HM hm
    go_enter Try.func54, Try.ntmps54
    go_wp2_with fail
    refine (HC.out _).mono ?_; rintro e w1 ⟨rfl, hb1⟩
    have c1 := (hb1.cell (p := ⟨w.heap.size, 1, none⟩) (by simp)).trans (new_cell w _ _ 1 _ rfl)
    have B := bel_trans ((Below.refl _ _).alloc (Nat.le_refl _) _) hb1
    clear hb1
    go_wp2
    go_ret
    exact ⟨rfl, B⟩
  · have he := empty_mk_no hc
    have HC : Hid (_) := fun w => HM.out w _ hm
    have ha0 : decide (a < 0) = false := by simp; omega
    have hb0 : decide (16384 ≤ a) = false := by simp; omega
    clear hc hk HM hm
    go_enter Try.func54, Try.ntmps54
    go_wp2_with fail
    refine (HC.out _).mono ?_; rintro e w1 ⟨rfl, hb1⟩
    have c1 := (hb1.cell (p := ⟨w.heap.size, 1, none⟩) (by simp)).trans (new_cell w _ _ 1 _ rfl)
    have B := bel_trans ((Below.refl _ _).alloc (Nat.le_refl _) _) hb1
    clear hb1
    go_wp2
    go_ret
    exact ⟨rfl, B⟩

theorem mayPut_no1 (at_ : Int) (v : Value) (name : ByteArray) (w : World) (h : at_ < 0) :
    Calls Try.prog 42 #[.int .i64 at_, v, .string name] w fun e w' => e = .returned (.bool false) ∧ Below w.heap.size w w' := by
  have h0 : decide (0 ≤ at_) = false := by simp; omega
  go_enter Try.func42, Try.ntmps42
  go_wp2
  go_ret
  exact ⟨rfl, Below.refl _ _⟩
theorem mayPut_no2 (at_ : Int) (v : Value) (name : ByteArray) (w : World) (h0 : 0 ≤ at_) (h : 65535 < at_) :
    Calls Try.prog 42 #[.int .i64 at_, v, .string name] w fun e w' => e = .returned (.bool false) ∧ Below w.heap.size w w' := by
  have h1 : decide (at_ ≤ 65535) = false := by simp; omega
  go_enter Try.func42, Try.ntmps42
  go_wp2
  go_ret
  exact ⟨rfl, Below.refl _ _⟩
theorem mayPut_no3 (at_ : Int) (v : Value) (name : ByteArray) (w : World) (h0 : 0 ≤ at_) (h : at_ ≤ 65535) (hs : name.size ≤ maxLen) (hm : mayL (bs name) = false) :
    Calls Try.prog 42 #[.int .i64 at_, v, .string name] w fun e w' => e = .returned (.bool false) ∧ Below w.heap.size w w' := by
  have HC : Hid (∀ w, _) := fun w => may_is name false w hs hm
  clear hm
  go_enter Try.func42, Try.ntmps42
  go_wp2_with fail
  refine (HC.out _).mono ?_; rintro e w1 ⟨rfl, hb1⟩
  go_wp2
  go_ret
  exact ⟨rfl, hb1⟩
theorem knAt_mem {ks : List Kn} {j : Nat} (hj : j < ks.length) : knAt ks j ∈ ks := by
  unfold knAt
  rw [List.getD_eq_getElem?_getD, List.getElem?_eq_getElem hj]
  exact List.getElem_mem hj

theorem indexFunc_none (a : Option Addr) (cap : Nat) (f : Value) (w : World) :
    Calls Try.prog 60 #[.slice a 0 cap, f] w fun e w' => e = .returned (.int .i64 (-1)) ∧ w' = w := by
  go_enter Try.func60, Try.ntmps60
  go_wp2
  go_rounds 1
  go_ret
  exact ⟨rfl, rfl⟩

theorem indexFunc_from (x : Addr) (cap : Nat) (ks : List Kn) (w : World) (hl : ks.length ≤ 1000000000) (hs : ∀ k ∈ ks, k.1.length ≤ maxLen) (h : KnFrom w x ks) :
    Calls Try.prog 60 #[.slice (some x) ks.length cap, .func (.func 54) #[] #[]] w fun e w' => (∃ i : Int, e = .returned (.int .i64 i) ∧ decide (0 ≤ i) = !ks.all knownL) ∧ Below w.heap.size w w' := by
  have Hno : Hid (∀ j, j < ks.length → knownL (knAt ks j) = false → ks.all knownL = false) := fun j => all_no
  have Hyes : Hid ((∀ j, j < ks.length → knownL (knAt ks j) = true) → ks.all knownL = true) := all_yes
  generalize ks.all knownL = V at *
  have H : Hid (KnFrom w x ks) := h
  have Hs : Hid (∀ j, j < ks.length → (knAt ks j).1.length ≤ maxLen) := fun j hj => hs _ (knAt_mem hj)
  clear h hs
  go_enter Try.func60, Try.ntmps60
  go_wp2
  go_loopw [8] (fun i wr => ∃ j : Nat, j ≤ ks.length ∧ i = .int .i64 j ∧ Hid (∀ i, i < j → knownL (knAt ks i) = true) ∧ Below w.heap.size w wr) (fun i _ => ks.length - (intOf i).toNat)
  case atStart => exact ⟨0, Nat.zero_le _, rfl, fun i hi => by omega, Below.refl _ _⟩
  case round =>
    obtain ⟨j, hj, rfl, hall, B⟩ := hrel
    by_cases hlt : j < ks.length
    · obtain ⟨h0, h1⟩ := (H.out j hlt).below B
      have hn : Hid (_) := Hno.out j hlt
      have hsz := Hs.out j hlt
      have hall' : Hid (knownL (knAt ks j) = true → ∀ i, i < j + 1 → knownL (knAt ks i) = true) := fun hk i hi => by by_cases e : i = j; (subst e; exact hk); exact hall.out i (by omega)
      generalize knAt ks j = k at *
      obtain ⟨n, a⟩ := k
      simp only at h0 h1 hsz
      have HM : Hid (∀ w, _) := fun w => mayNot_c n a w hsz
      clear hall Hno hsz
      cases hk : knownL (n, a) with
      | false =>
        rw [hk] at HM
        have HV : Hid (V = false) := hn.out hk
        clear hk hall' hn
        go_wp2_with fail
        refine (HM.out _).mono ?_; rintro e w1 ⟨rfl, hb1⟩
        replace B := B.trans (hb1.mono B.size)
        clear h0 h1 hb1
        go_wp2
        go_ret
        exact ⟨⟨j, rfl, by rw [HV.out]; simp⟩, B⟩
      | true =>
        rw [hk] at HM
        have Hall : Hid (∀ i, i < j + 1 → knownL (knAt ks i) = true) := hall'.out hk
        clear hk hall' hn
        go_wp2_with fail
        refine (HM.out _).mono ?_; rintro e w1 ⟨rfl, hb1⟩
        replace B := B.trans (hb1.mono B.size)
        clear h0 h1 hb1
        go_wp2
        go_roundw
        case rel => exact ⟨j + 1, by omega, by go_num, Hall, B⟩
        case measure => simp [intOf]; omega
    · obtain rfl : j = ks.length := by omega
      have HV : Hid (V = true) := Hyes.out hall.out
      go_wp2
      go_ret
      exact ⟨⟨-1, rfl, by rw [HV.out]; rfl⟩, B⟩

theorem contains_c (a : Option Addr) (cap : Nat) (ks : List Kn) (w : World) (hl : ks.length ≤ 1000000000) (hs : ∀ k ∈ ks, k.1.length ≤ maxLen) (h : KnLies w a ks) :
    Calls Try.prog 53 #[.slice a ks.length cap, .func (.func 54) #[] #[]] w fun e w' => e = .returned (.bool (!ks.all knownL)) ∧ Below w.heap.size w w' := by
  have HC : Hid (Calls Try.prog 60 #[.slice a ks.length cap, .func (.func 54) #[] #[]] w fun e w' => (∃ i : Int, e = .returned (.int .i64 i) ∧ decide (0 ≤ i) = !ks.all knownL) ∧ Below w.heap.size w w') := by
    rcases h with rfl | ⟨x, rfl, h⟩
    · exact (indexFunc_none a cap _ w).mono fun e w' ⟨h1, h2⟩ => ⟨⟨-1, h1, rfl⟩, by rw [h2]; exact Below.refl _ _⟩
    · exact indexFunc_from x cap ks w hl hs h
  generalize (!ks.all knownL) = V at *
  clear h hs
  go_enter Try.func53, Try.ntmps53
  go_wp2_with fail
  refine HC.out.mono ?_; rintro e w1 ⟨⟨i, rfl, hi⟩, hb1⟩
  have Hi : Hid (decide (0 ≤ i) = V) := hi
  clear hi
  go_wp2
  go_ret
  exact ⟨ret_bool Hi.out, hb1⟩

theorem mayPut_more (at_ : Int) (a : Option Addr) (cap : Nat) (ks : List Kn) (name : ByteArray) (w : World) (h0 : 0 ≤ at_) (h : at_ ≤ 65535) (hs : name.size ≤ maxLen) (hm : mayL (bs name) = true) (hl : ks.length ≤ 1000000000) (hks : ∀ k ∈ ks, k.1.length ≤ maxLen) (hk : KnLies w a ks) :
    Calls Try.prog 42 #[.int .i64 at_, .slice a ks.length cap, .string name] w fun e w' => e = .returned (.bool (ks.all knownL)) ∧ Below w.heap.size w w' := by
  have HC : Hid (∀ w, _) := fun w => may_is name true w hs hm
  have HD : Hid (∀ w', Below w.heap.size w w' → _) := fun w' hb => contains_c a cap ks w' hl hks (hk.below hb)
  generalize ks.all knownL = V at *
  clear hm hk hks
  go_enter Try.func42, Try.ntmps42
  go_wp2_with fail
  refine (HC.out _).mono ?_; rintro e w1 ⟨rfl, hb1⟩
  go_wp2_with fail
  refine (HD.out _ hb1).mono ?_; rintro e w2 ⟨rfl, hb2⟩
  go_wp2
  go_ret
  exact ⟨ret_bool (by simp), bel_trans hb1 hb2⟩

theorem mayPut_c (at_ : Int) (a : Option Addr) (cap : Nat) (ks : List Kn) (name : ByteArray) (w : World) (hs : name.size ≤ maxLen) (hl : ks.length ≤ 1000000000) (hks : ∀ k ∈ ks, k.1.length ≤ maxLen) (hk : KnLies w a ks) :
    Calls Try.prog 42 #[.int .i64 at_, .slice a ks.length cap, .string name] w fun e w' => e = .returned (.bool (mayPutL at_ ks (bs name))) ∧ Below w.heap.size w w' := by
  by_cases h0 : at_ < 0
  · rw [show mayPutL at_ ks (bs name) = false by simp [mayPutL]; omega]
    exact mayPut_no1 _ _ _ w h0
  · by_cases h1 : 65535 < at_
    · rw [show mayPutL at_ ks (bs name) = false by simp [mayPutL]; omega]
      exact mayPut_no2 _ _ _ w (by omega) h1
    · have e0 : (0 ≤ at_) = True := by simp; omega
      have e1 : (at_ ≤ 65535) = True := by simp; omega
      cases hm : mayL (bs name) with
      | false =>
        rw [show mayPutL at_ ks (bs name) = false by simp [mayPutL, hm]]
        exact mayPut_no3 _ _ _ w (by omega) (by omega) hs hm
      | true =>
        rw [show mayPutL at_ ks (bs name) = ks.all knownL by simp [mayPutL, hm, e0, e1]]
        exact mayPut_more at_ a cap ks name w (by omega) (by omega) hs hm hl hks hk

end Go.Proofs.Yteaediobcjednaa
