/-
  Contracts of package dns's May and what it asks, at every message.
-/
import Derived.Test.YtdmooggmoihggaaGreatDoorDnsMem
import Derived.Test.YtdmooggmoihggaaGreatDoorBRis
namespace Go.Proofs.YtdmooggmoihggaaGreatDoor
set_option maxRecDepth 100000
open Go.ChangeShapes Go.WideShapes Go.ChangeAt Go.RowKit Go.Pin Go.PlainAid

theorem all_not {α : Type} {p : α → Bool} {l : List α} {j : Nat} {r : α} (h : l[j]? = some r) (hp : p r = false) : l.all p = false := by
  rw [List.all_eq_false]
  exact ⟨r, List.mem_of_getElem? h, by simp [hp]⟩
theorem all_so {α : Type} {p : α → Bool} {l : List α} (h : ∀ (j : Nat) (r : α), l[j]? = some r → p r = true) : l.all p = true := by
  rw [List.all_eq_true]
  intro r hr
  obtain ⟨j, hj⟩ := List.mem_iff_getElem?.1 hr
  exact h j r hj

theorem dUpTo_c (x m : Int) (w : World) : Calls Tryz.prog 29 #[.int .i64 x, .int .i64 m] w fun e w' => e = .returned (.bool (upB x m)) ∧ w' = w := by
  by_cases h0 : 0 ≤ x
  · have h1 : decide (0 ≤ x) = true := by simpa using h0
    have h2 : upB x m = decide (x ≤ m) := by simp [upB, h0]
    rw [h2]
    go_enter Tryz.func29, Tryz.ntmps29
    go_wp2
    go_ret
    exact ⟨rfl, rfl⟩
  · have h1 : decide (0 ≤ x) = false := by simpa using h0
    have h2 : upB x m = false := by simp [upB, h0]
    rw [h2]
    go_enter Tryz.func29, Tryz.ntmps29
    go_wp2
    go_ret
    exact ⟨rfl, rfl⟩

theorem asked_c (q : Qn) (w : World) (hs : q.n.size ≤ maxLen) : Calls Tryz.prog 31 #[.agg #[.string q.n, .int .i64 q.ty]] w fun e w' => e = .returned (.bool (!mayQ q)) ∧ Below w.heap.size w w' := by
  have HM : Hid (∀ w, _) := fun w => may_c q.n w hs
  have HU : Hid (∀ w, _) := fun w => dUpTo_c q.ty 65535 w
  have hv : mayQ q = (mayL (bs q.n) && upB q.ty 65535) := rfl
  generalize mayQ q = V at *
  generalize mayL (bs q.n) = m1 at *
  generalize upB q.ty 65535 = u1 at *
  obtain ⟨n, ty⟩ := q
  simp only at *
  clear hs
  go_enter Tryz.func31, Tryz.ntmps31
  go_wp2_with fail
  refine (HM.out _).mono ?_; rintro e w1 ⟨rfl, hb1⟩
  have c1 := (hb1.cell (p := ⟨w.heap.size, 1, none⟩) (by simp)).trans (new_cell w _ _ 1 _ rfl)
  have B : Hid (Below w.heap.size w w1) := bel_trans ((Below.refl _ _).alloc (Nat.le_refl _) _) hb1
  clear hb1
  cases m1
  · go_wp2
    go_ret
    exact ⟨ret_bool (by simp [hv]), B.out⟩
  · go_wp2_with fail
    refine (HU.out _).mono ?_; rintro e w2 ⟨rfl, rfl⟩
    go_wp2
    go_ret
    exact ⟨ret_bool (by simp [hv]), B.out⟩
theorem row1_c (r : Rec) (w : World) (hr : IsRec r) : Calls Tryz.prog 66 #[rv r] w fun e w' => e = .returned (.bool (!mayR r)) ∧ Below w.heap.size w w' := by
  have HM : Hid (∀ w, _) := fun w => rrMay_c r w hr.1 hr.2.1
  generalize mayR r = V at *
  obtain ⟨n, ty, ttl, ad, tg, tx, se⟩ := r
  simp only [rv] at *
  clear hr
  go_enter Tryz.func66, Tryz.ntmps66
  go_wp2_with fail
  refine (HM.out _).mono ?_; rintro e w1 ⟨rfl, hb1⟩
  have B : Hid (Below w.heap.size w w1) := bel_trans ((Below.refl _ _).alloc (Nat.le_refl _) _) hb1
  clear hb1
  go_wp2
  go_ret
  exact ⟨rfl, B.out⟩

theorem indexQ_none (a : Option Addr) (cap : Nat) (f : Value) (w : World) :
    Calls Tryz.prog 63 #[.slice a 0 cap, f] w fun e w' => e = .returned (.int .i64 (-1)) ∧ w' = w := by
  go_enter Tryz.func63, Tryz.ntmps63
  go_wp2
  go_rounds 1
  go_ret
  exact ⟨rfl, rfl⟩
theorem indexQ_from (x : Addr) (cap : Nat) (ks : List Qn) (w : World) (hl : ks.length ≤ maxLen) (hs : ∀ k ∈ ks, k.n.size ≤ maxLen) (h : ∀ j r, ks[j]? = some r → QnFrom w (x.add (j * 2)) r) :
    Calls Tryz.prog 63 #[.slice (some x) ks.length cap, .func (.func 31) #[] #[]] w fun e w' => (∃ i : Int, e = .returned (.int .i64 i) ∧ decide (0 ≤ i) = !ks.all mayQ) ∧ Below w.heap.size w w' := by
  have Hno : Hid (∀ (j : Nat) (r : Qn), ks[j]? = some r → mayQ r = false → ks.all mayQ = false) := fun j r => all_not
  have Hyes : Hid ((∀ (j : Nat) (r : Qn), ks[j]? = some r → mayQ r = true) → ks.all mayQ = true) := all_so
  generalize ks.all mayQ = V at *
  have H : Hid (∀ (j : Nat) (r : Qn), ks[j]? = some r → QnFrom w (x.add (j * 2)) r) := h
  have Hs : Hid (∀ (j : Nat) (k : Qn), ks[j]? = some k → k.n.size ≤ maxLen) := fun j k hj => hs k (List.mem_of_getElem? hj)
  have hl2 : ks.length ≤ 9223372036854775807 := by unfold maxLen at hl; exact hl
  clear h hs hl
  go_enter Tryz.func63, Tryz.ntmps63
  go_wp2
  go_loopw [8] (fun i wr => ∃ j : Nat, j ≤ ks.length ∧ i = .int .i64 j ∧ Hid (∀ (i : Nat) (r : Qn), i < j → ks[i]? = some r → mayQ r = true) ∧ Below w.heap.size w wr) (fun i _ => ks.length - (intOf i).toNat)
  case atStart => exact ⟨0, Nat.zero_le _, rfl, fun i r hi => by omega, Below.refl _ _⟩
  case round =>
    obtain ⟨j, hj, rfl, hall, B⟩ := hrel
    by_cases hlt : j < ks.length
    · obtain ⟨r, hr⟩ : ∃ r, ks[j]? = some r := ⟨ks[j], List.getElem?_eq_getElem hlt⟩
      have hrec := H.out j r hr
      have hrec2 : Hid (QnFrom wr (x.add (j * 2)) r) := hrec.keep (B.block _ hrec.lt)
      have hn : Hid (mayQ r = false → V = false) := Hno.out j r hr
      have hsz := Hs.out j r hr
      have hall' : Hid (mayQ r = true → ∀ (i : Nat) (q : Qn), i < j + 1 → ks[i]? = some q → mayQ q = true) := fun hk i q hi hq => by
        by_cases e : i = j
        · subst e; rw [hr] at hq; cases hq; exact hk
        · exact hall.out i q (by omega) hq
      have HM : Hid (∀ w, Calls Tryz.prog 31 #[.agg #[.string r.n, .int .i64 r.ty]] w fun e w' => e = .returned (.bool (!mayQ r)) ∧ Below w.heap.size w w') := fun w => asked_c r w hsz
      obtain ⟨n, ty⟩ := r
      obtain ⟨h0, h1⟩ := hrec2.out
      simp only at h0 h1 HM
      clear hall Hno hsz hrec hr hrec2
      cases hk : mayQ ⟨n, ty⟩ with
      | false =>
        rw [hk] at HM
        have HV : Hid (V = false) := hn.out hk
        clear hk hall' hn
        go_wp2_with fail
        refine (HM.out _).mono ?_; rintro e w1 ⟨rfl, hb1⟩
        replace B := B.trans (hb1.mono B.size)
        clear h0 h1 hb1
        go_wp2
        go_ret
        exact ⟨⟨j, rfl, by rw [HV.out]; simp⟩, B⟩
      | true =>
        rw [hk] at HM
        have Hall : Hid (∀ (i : Nat) (q : Qn), i < j + 1 → ks[i]? = some q → mayQ q = true) := hall'.out hk
        clear hk hall' hn
        go_wp2_with fail
        refine (HM.out _).mono ?_; rintro e w1 ⟨rfl, hb1⟩
        replace B := B.trans (hb1.mono B.size)
        clear h0 h1 hb1
        go_wp2
        go_roundw
        case rel => exact ⟨j + 1, by omega, by go_num, Hall, B⟩
        case measure => simp [intOf]; omega
    · obtain rfl : j = ks.length := by omega
      have HV : Hid (V = true) := Hyes.out (fun i r hi => hall.out i r ((List.getElem?_eq_some_iff.1 hi).1) hi)
      go_wp2
      go_ret
      exact ⟨⟨-1, rfl, by rw [HV.out]; rfl⟩, B⟩
theorem containsQ_c (a : Option Addr) (cap : Nat) (ks : List Qn) (w : World) (hl : ks.length ≤ maxLen) (hs : ∀ k ∈ ks, k.n.size ≤ maxLen) (h : QuesLie w a ks) :
    Calls Tryz.prog 30 #[.slice a ks.length cap, .func (.func 31) #[] #[]] w fun e w' => e = .returned (.bool (!ks.all mayQ)) ∧ Below w.heap.size w w' := by
  have HC : Hid (Calls Tryz.prog 63 #[.slice a ks.length cap, .func (.func 31) #[] #[]] w fun e w' => (∃ i : Int, e = .returned (.int .i64 i) ∧ decide (0 ≤ i) = !ks.all mayQ) ∧ Below w.heap.size w w') := by
    rcases h with rfl | ⟨x, rfl, h⟩
    · exact (indexQ_none a cap _ w).mono fun e w' ⟨h1, h2⟩ => ⟨⟨-1, h1, rfl⟩, by rw [h2]; exact Below.refl _ _⟩
    · exact indexQ_from x cap ks w hl hs h
  generalize (!ks.all mayQ) = V at *
  clear h hs hl
  go_enter Tryz.func30, Tryz.ntmps30
  go_wp2_with fail
  refine HC.out.mono ?_; rintro e w1 ⟨⟨i, rfl, hi⟩, hb1⟩
  have Hi : Hid (decide (0 ≤ i) = V) := hi
  clear hi
  go_wp2
  go_ret
  exact ⟨ret_bool Hi.out, hb1⟩

theorem indexR_none (a : Option Addr) (cap : Nat) (f : Value) (w : World) :
    Calls Tryz.prog 91 #[.slice a 0 cap, f] w fun e w' => e = .returned (.int .i64 (-1)) ∧ w' = w := by
  go_enter Tryz.func91, Tryz.ntmps91
  go_wp2
  go_rounds 1
  go_ret
  exact ⟨rfl, rfl⟩
theorem indexR_from (x : Addr) (cap : Nat) (ks : List Rec) (w : World) (hl : ks.length ≤ maxLen) (hs : ∀ k ∈ ks, IsRec k) (h : ∀ j r, ks[j]? = some r → RecFrom w (x.add (j * 7)) r) :
    Calls Tryz.prog 91 #[.slice (some x) ks.length cap, .func (.func 66) #[] #[]] w fun e w' => (∃ i : Int, e = .returned (.int .i64 i) ∧ decide (0 ≤ i) = !ks.all mayR) ∧ Below w.heap.size w w' := by
  have Hno : Hid (∀ (j : Nat) (r : Rec), ks[j]? = some r → mayR r = false → ks.all mayR = false) := fun j r => all_not
  have Hyes : Hid ((∀ (j : Nat) (r : Rec), ks[j]? = some r → mayR r = true) → ks.all mayR = true) := all_so
  generalize ks.all mayR = V at *
  have H : Hid (∀ (j : Nat) (r : Rec), ks[j]? = some r → RecFrom w (x.add (j * 7)) r) := h
  have Hs : Hid (∀ (j : Nat) (k : Rec), ks[j]? = some k → IsRec k) := fun j k hj => hs k (List.mem_of_getElem? hj)
  have hl2 : ks.length ≤ 9223372036854775807 := by unfold maxLen at hl; exact hl
  clear h hs hl
  go_enter Tryz.func91, Tryz.ntmps91
  go_wp2
  go_loopw [8] (fun i wr => ∃ j : Nat, j ≤ ks.length ∧ i = .int .i64 j ∧ Hid (∀ (i : Nat) (r : Rec), i < j → ks[i]? = some r → mayR r = true) ∧ Below w.heap.size w wr) (fun i _ => ks.length - (intOf i).toNat)
  case atStart => exact ⟨0, Nat.zero_le _, rfl, fun i r hi => by omega, Below.refl _ _⟩
  case round =>
    obtain ⟨j, hj, rfl, hall, B⟩ := hrel
    by_cases hlt : j < ks.length
    · obtain ⟨r, hr⟩ : ∃ r, ks[j]? = some r := ⟨ks[j], List.getElem?_eq_getElem hlt⟩
      have hrec := H.out j r hr
      have hrec2 : Hid (RecFrom wr (x.add (j * 7)) r) := hrec.keep (B.block _ hrec.lt)
      have hn : Hid (mayR r = false → V = false) := Hno.out j r hr
      have hsz := Hs.out j r hr
      have hall' : Hid (mayR r = true → ∀ (i : Nat) (q : Rec), i < j + 1 → ks[i]? = some q → mayR q = true) := fun hk i q hi hq => by
        by_cases e : i = j
        · subst e; rw [hr] at hq; cases hq; exact hk
        · exact hall.out i q (by omega) hq
      have HM : Hid (∀ w, Calls Tryz.prog 66 #[.agg #[.string r.n, .int .i64 r.ty, .int .i64 r.ttl, .int .i64 r.ad, .string r.tg, .string r.tx, .int .i64 r.se]] w fun e w' => e = .returned (.bool (!mayR r)) ∧ Below w.heap.size w w') := fun w => row1_c r w hsz
      obtain ⟨n, ty, ttl, ad, tg, tx, se⟩ := r
      obtain ⟨h0, h1, h2, h3, h4, h5, h6⟩ := hrec2.out
      simp only at h0 h1 h2 h3 h4 h5 h6 HM
      clear hall Hno hsz hrec hr hrec2
      cases hk : mayR ⟨n, ty, ttl, ad, tg, tx, se⟩ with
      | false =>
        rw [hk] at HM
        have HV : Hid (V = false) := hn.out hk
        clear hk hall' hn
        go_wp2_with fail
        refine (HM.out _).mono ?_; rintro e w1 ⟨rfl, hb1⟩
        replace B := B.trans (hb1.mono B.size)
        clear h0 h1 h2 h3 h4 h5 h6 hb1
        go_wp2
        go_ret
        exact ⟨⟨j, rfl, by rw [HV.out]; simp⟩, B⟩
      | true =>
        rw [hk] at HM
        have Hall : Hid (∀ (i : Nat) (q : Rec), i < j + 1 → ks[i]? = some q → mayR q = true) := hall'.out hk
        clear hk hall' hn
        go_wp2_with fail
        refine (HM.out _).mono ?_; rintro e w1 ⟨rfl, hb1⟩
        replace B := B.trans (hb1.mono B.size)
        clear h0 h1 h2 h3 h4 h5 h6 hb1
        go_wp2
        go_roundw
        case rel => exact ⟨j + 1, by omega, by go_num, Hall, B⟩
        case measure => simp [intOf]; omega
    · obtain rfl : j = ks.length := by omega
      have HV : Hid (V = true) := Hyes.out (fun i r hi => hall.out i r ((List.getElem?_eq_some_iff.1 hi).1) hi)
      go_wp2
      go_ret
      exact ⟨⟨-1, rfl, by rw [HV.out]; rfl⟩, B⟩
theorem containsR_c (a : Option Addr) (cap : Nat) (ks : List Rec) (w : World) (hl : ks.length ≤ maxLen) (hs : ∀ k ∈ ks, IsRec k) (h : RecsLie w a ks) :
    Calls Tryz.prog 65 #[.slice a ks.length cap, .func (.func 66) #[] #[]] w fun e w' => e = .returned (.bool (!ks.all mayR)) ∧ Below w.heap.size w w' := by
  have HC : Hid (Calls Tryz.prog 91 #[.slice a ks.length cap, .func (.func 66) #[] #[]] w fun e w' => (∃ i : Int, e = .returned (.int .i64 i) ∧ decide (0 ≤ i) = !ks.all mayR) ∧ Below w.heap.size w w') := by
    rcases h with rfl | ⟨x, rfl, h⟩
    · exact (indexR_none a cap _ w).mono fun e w' ⟨h1, h2⟩ => ⟨⟨-1, h1, rfl⟩, by rw [h2]; exact Below.refl _ _⟩
    · exact indexR_from x cap ks w hl hs h
  generalize (!ks.all mayR) = V at *
  clear h hs hl
  go_enter Tryz.func65, Tryz.ntmps65
  go_wp2_with fail
  refine HC.out.mono ?_; rintro e w1 ⟨⟨i, rfl, hi⟩, hb1⟩
  have Hi : Hid (decide (0 ≤ i) = V) := hi
  clear hi
  go_wp2
  go_ret
  exact ⟨ret_bool Hi.out, hb1⟩

theorem mayRow_c (a : Option Addr) (cap : Nat) (rs : List Rec) (w : World) (hl : rs.length ≤ maxLen) (hs : ∀ k ∈ rs, IsRec k) (h : RecsLie w a rs) :
    Calls Tryz.prog 32 #[.slice a rs.length cap] w fun e w' => e = .returned (.bool (mayRs rs)) ∧ Below w.heap.size w w' := by
  have hmf : ∀ (fn : Fn) (first cap : Array Value) (w : World), (Instr.makeFunc fn first cap).run Tryz.prog w = .ok (.func fn first cap) w := fun _ _ _ _ => rfl
  have HC : Hid (∀ w', w' = w → _) := fun w' e => by subst e; exact containsR_c a cap rs w' hl hs h
  have hv : mayRs rs = (rs.all mayR && decide (rs.length ≤ 32)) := rfl
  generalize mayRs rs = V at *
  generalize rs.all mayR = A at *
  have hl2 : rs.length ≤ 9223372036854775807 := by unfold maxLen at hl; exact hl
  clear hs h hl
  by_cases h32 : rs.length ≤ 32
  · have hd : decide (rs.length ≤ 32) = true := by simpa using h32
    rw [hd, Bool.and_true] at hv
    go_enter Tryz.func32, Tryz.ntmps32
    go_wp2_with fail
    refine (HC.out _ rfl).mono ?_; rintro e w1 ⟨rfl, hb1⟩
    go_wp2
    go_ret
    exact ⟨ret_bool (by simp [hv]), hb1⟩
  · have hd : decide (rs.length ≤ 32) = false := by simpa using h32
    rw [hd, Bool.and_false] at hv
    go_enter Tryz.func32, Tryz.ntmps32
    go_wp2
    go_ret
    exact ⟨ret_bool (by simp), Below.refl _ _⟩

set_option maxHeartbeats 2000000 in
/-- May, at every message. -/
theorem dMay_c (m : Msg) (p : Pl) (w : World) (hf : MsgFits m) (hl : MsgLies w m p) : Calls Tryz.prog 11 #[mv m p] w fun e w' => e = .returned (.bool (mayM m)) ∧ Below w.heap.size w w' := by
  have U1 : Hid (∀ w, _) := fun w => dUpTo_c m.id 65535 w
  have U2 : Hid (∀ w, _) := fun w => dUpTo_c m.op 15 w
  have U3 : Hid (∀ w, _) := fun w => dUpTo_c m.co 15 w
  have HQ : Hid (∀ w', Below w.heap.size w w' → _) := fun w' hb => containsQ_c p.qa p.qc m.qs w' hf.ql hf.q (hl.q.below hb)
  have HA : Hid (∀ w', Below w.heap.size w w' → _) := fun w' hb => mayRow_c p.aa p.ac m.an w' hf.al hf.a (hl.a.below hb)
  have HS : Hid (∀ w', Below w.heap.size w w' → _) := fun w' hb => mayRow_c p.sa p.sc m.sv w' hf.sl hf.s (hl.s.below hb)
  have HD : Hid (∀ w', Below w.heap.size w w' → _) := fun w' hb => mayRow_c p.da p.dc m.ad w' hf.dl hf.d (hl.d.below hb)
  have hv : mayM m = (m.qs.all mayQ && upB m.id 65535 && upB m.op 15 && upB m.co 15 && decide (m.qs.length ≤ 4) && mayRs m.an && mayRs m.sv && mayRs m.ad && (decide (m.sz = 0) || (decide (512 ≤ m.sz) && decide (m.sz ≤ 65535)))) := rfl
  have hql : m.qs.length ≤ 9223372036854775807 := by have := hf.ql; unfold maxLen at this; exact this
  have BX : Hid (BoxM (w.alloc (.cells (cellsM m p) 25)) w.heap.size m p) := BoxM.new w m p
  generalize mayM m = V at *
  generalize upB m.id 65535 = u1 at *
  generalize upB m.op 15 = u2 at *
  generalize upB m.co 15 = u3 at *
  generalize mayRs m.an = r1 at *
  generalize mayRs m.sv = r2 at *
  generalize mayRs m.ad = r3 at *
  generalize m.qs.all mayQ = q1 at *
  have hcell : Hid (∀ w', BoxM w' w.heap.size m p → _) := fun w' h => h.all
  have hbel : Hid (∀ w' w'', BoxM w' w.heap.size m p → Below w'.heap.size w' w'' → BoxM w'' w.heap.size m p) := fun w' w'' h1 h2 => h1.below h2
  clear hf hl
  simp only [mv, cellsM] at *
  go_enter Tryz.func11, Tryz.ntmps11
  go_wp2_with fail
  have B0 : Hid (Below w.heap.size w _) := (Below.refl w.heap.size w).alloc (Nat.le_refl _) (.cells #[.int .i64 m.id, .bool m.rsp, .int .i64 m.op, .bool m.au, .bool m.tr, .bool m.re, .int .i64 m.co, .slice p.qa m.qs.length p.qc, .slice p.aa m.an.length p.ac, .slice p.sa m.sv.length p.sc, .slice p.da m.ad.length p.dc, .int .i64 m.sz] 25)
  obtain ⟨c0, c1, c2, c3, c4, c5, c6, c7, c8, c9, c10, c11⟩ := hcell.out _ BX.out
  generalize w.alloc (.cells #[.int .i64 m.id, .bool m.rsp, .int .i64 m.op, .bool m.au, .bool m.tr, .bool m.re, .int .i64 m.co, .slice p.qa m.qs.length p.qc, .slice p.aa m.an.length p.ac, .slice p.sa m.sv.length p.sc, .slice p.da m.ad.length p.dc, .int .i64 m.sz] 25) = w0 at *
  refine (U1.out _).mono ?_; rintro e w' ⟨rfl, rfl⟩
  cases u1
  · go_wp2
    go_ret
    exact ⟨ret_bool (by simp [hv]), B0.out⟩
  go_wp2_with fail
  refine (U2.out _).mono ?_; rintro e w' ⟨rfl, rfl⟩
  cases u2
  · go_wp2
    go_ret
    exact ⟨ret_bool (by simp [hv]), B0.out⟩
  go_wp2_with fail
  refine (U3.out _).mono ?_; rintro e w' ⟨rfl, rfl⟩
  cases u3
  · go_wp2
    go_ret
    exact ⟨ret_bool (by simp [hv]), B0.out⟩
  by_cases h4 : m.qs.length ≤ 4
  case neg =>
    have hd : decide (m.qs.length ≤ 4) = false := by simpa using h4
    rw [hd] at hv
    go_wp2
    go_ret
    exact ⟨ret_bool (by simp), B0.out⟩
  have hd : decide (m.qs.length ≤ 4) = true := by simpa using h4
  rw [hd] at hv
  go_wp2_with fail
  refine (HQ.out _ B0.out).mono ?_; rintro e w1 ⟨rfl, hb⟩
  have B1 : Hid (Below w.heap.size w w1) := bel_trans B0.out hb
  have X1 : Hid (_) := hbel.out _ _ BX.out hb
  clear c0 c1 c2 c3 c4 c5 c6 c7 c8 c9 c10 c11 hb B0 BX HQ
  obtain ⟨c0, c1, c2, c3, c4, c5, c6, c7, c8, c9, c10, c11⟩ := hcell.out _ X1.out
  cases q1
  · go_wp2
    go_ret
    exact ⟨ret_bool (by simp [hv]), B1.out⟩
  go_wp2_with fail
  refine (HA.out _ B1.out).mono ?_; rintro e w2 ⟨rfl, hb⟩
  have B2 : Hid (Below w.heap.size w w2) := bel_trans B1.out hb
  have X2 : Hid (_) := hbel.out _ _ X1.out hb
  clear c0 c1 c2 c3 c4 c5 c6 c7 c8 c9 c10 c11 hb B1 X1 HA
  obtain ⟨c0, c1, c2, c3, c4, c5, c6, c7, c8, c9, c10, c11⟩ := hcell.out _ X2.out
  cases r1
  · go_wp2
    go_ret
    exact ⟨ret_bool (by simp [hv]), B2.out⟩
  go_wp2_with fail
  refine (HS.out _ B2.out).mono ?_; rintro e w3 ⟨rfl, hb⟩
  have B3 : Hid (Below w.heap.size w w3) := bel_trans B2.out hb
  have X3 : Hid (_) := hbel.out _ _ X2.out hb
  clear c0 c1 c2 c3 c4 c5 c6 c7 c8 c9 c10 c11 hb B2 X2 HS
  obtain ⟨c0, c1, c2, c3, c4, c5, c6, c7, c8, c9, c10, c11⟩ := hcell.out _ X3.out
  cases r2
  · go_wp2
    go_ret
    exact ⟨ret_bool (by simp [hv]), B3.out⟩
  go_wp2_with fail
  refine (HD.out _ B3.out).mono ?_; rintro e w4 ⟨rfl, hb⟩
  have B4 : Hid (Below w.heap.size w w4) := bel_trans B3.out hb
  have X4 : Hid (_) := hbel.out _ _ X3.out hb
  clear c0 c1 c2 c3 c4 c5 c6 c7 c8 c9 c10 c11 hb B3 X3 HD
  obtain ⟨c0, c1, c2, c3, c4, c5, c6, c7, c8, c9, c10, c11⟩ := hcell.out _ X4.out
  cases r3
  · go_wp2
    go_ret
    exact ⟨ret_bool (by simp [hv]), B4.out⟩
  by_cases hz : m.sz = 0
  · have hz' : (m.sz == 0) = true := by simpa using hz
    clear X4
    go_wp2
    go_ret
    exact ⟨ret_bool (by simp [hv, hz]), B4.out⟩
  have hz' : (m.sz == 0) = false := by simpa using hz
  by_cases hm : 512 ≤ m.sz
  · have hm' : decide (512 ≤ m.sz) = true := by simpa using hm
    clear X4
    go_wp2
    go_ret
    exact ⟨ret_bool (by simp [hv, hz, hm]), B4.out⟩
  · have hm' : decide (512 ≤ m.sz) = false := by simpa using hm
    clear X4
    go_wp2
    go_ret
    exact ⟨ret_bool (by simp [hv, hz]; omega), B4.out⟩

end Go.Proofs.YtdmooggmoihggaaGreatDoor
