/-
  Contracts of what package dns puts: a record by a giver, a question, the OPT, the bits, the head.
-/
import Derived.Test.YtdmooggmoihggaaGreatDoorBDns
import Derived.Test.YtdmooggmoihggaaGreatDoorDnsMem
import Derived.Test.YtdmooggmoihggaaGreatDoorBRis
namespace Go.Proofs.YtdmooggmoihggaaGreatDoor
set_option maxRecDepth 100000
open Go.ChangeShapes Go.WideShapes Go.ChangeAt Go.RowKit Go.Pin Go.PlainAid

/-! ### By, of a record -/
theorem byR_skip (b : Nat) (at_ : Int) (G : Bool) (x : Wt) (f : Value) (r : Rec) (w : World) (h : Wr w b at_ G x) (hf : x.rf = true) :
    Calls Tryz.prog 41 #[.pointer (some ⟨b, 0, none⟩), f, .agg #[.string r.n, .int .i64 r.ty, .int .i64 r.ttl, .int .i64 r.ad, .string r.tg, .string r.tx, .int .i64 r.se]] w fun e w' => e = .returned (.tuple #[]) ∧ Below w.heap.size w w' := by
  have HB : Hid (_) := (Below.refl w.heap.size w).alloc (Nat.le_refl _) (.cells #[.string r.n, .int .i64 r.ty, .int .i64 r.ttl, .int .i64 r.ad, .string r.tg, .string r.tx, .int .i64 r.se] 82)
  have c3 := (h.below HB.out).c3
  rw [hf] at c3
  clear h
  go_enter Tryz.func41, Tryz.ntmps41
  go_wp2
  exact bodyPost_ret (v := .tuple #[]) (by simp [results, Tryz.results41, go_sem]) rfl ⟨rfl, HB.out⟩

set_option maxHeartbeats 1000000 in
theorem byR_ok (b : Nat) (at_ : Int) (G : Bool) (x : Wt) (r : Rec) (B : ByteArray) (ks' : List Kn) (w : World) (h : Wr w b at_ G x) (hf : x.rf = false) (hP : x.P.length ≤ 100000) (hB : B.size ≤ 1000) (ha : -9223372036854775808 ≤ at_ + x.P.length ∧ at_ + x.P.length ≤ 9223372036854775807)
    (HC : ∀ ka kcap w', Below w.heap.size w w' → KnLies w' ka x.ks → Calls Tryz.prog 42 #[.int .i64 (at_ + x.P.length), .slice ka x.ks.length kcap, .agg #[.string r.n, .int .i64 r.ty, .int .i64 r.ttl, .int .i64 r.ad, .string r.tg, .string r.tx, .int .i64 r.se]] w' fun e w'' => (∃ v, e = .returned (.tuple #[.string B, v, .int .i64 0]) ∧ Knowns w'' w'.heap.size v ks') ∧ Below w'.heap.size w' w'') :
    Calls Tryz.prog 41 #[.pointer (some ⟨b, 0, none⟩), .func (.func 42) #[] #[], .agg #[.string r.n, .int .i64 r.ty, .int .i64 r.ttl, .int .i64 r.ad, .string r.tg, .string r.tx, .int .i64 r.se]] w fun e w' => e = .returned (.tuple #[]) ∧ Wr w' b at_ true ⟨x.P ++ bs B, ks', false⟩ ∧ Ink b w w' := by
  have HC' : Hid (_) := HC
  have HT : Hid (∀ w, Wr w b at_ G x → _) := fun w h => text_put b at_ G x B w h hf hP (by omega)
  clear HC hB
  generalize x.P ++ bs B = Q at *
  have HB : Hid (Below w.heap.size w (w.alloc (.cells #[.string r.n, .int .i64 r.ty, .int .i64 r.ttl, .int .i64 r.ad, .string r.tg, .string r.tx, .int .i64 r.se] 82))) := (Below.refl w.heap.size w).alloc (Nat.le_refl _) _
  have HX : Hid (Boxed (w.alloc (.cells #[.string r.n, .int .i64 r.ty, .int .i64 r.ttl, .int .i64 r.ad, .string r.tg, .string r.tx, .int .i64 r.se] 82)) w.heap.size r) := Boxed.new w r
  have ltw := h.lt
  have h' := h.below HB.out
  have H0 : Hid (Wr (w.alloc (.cells #[.string r.n, .int .i64 r.ty, .int .i64 r.ttl, .int .i64 r.ad, .string r.tg, .string r.tx, .int .i64 r.se] 82)) b at_ G x) := h'
  obtain ⟨c0, c3, ⟨a, cap, ka, kcap, c1, h2, c2, h4, h5, h6⟩, fz, lt⟩ := h'
  rw [hf] at c3
  have H4 : Hid (KnLies (w.alloc (.cells #[.string r.n, .int .i64 r.ty, .int .i64 r.ttl, .int .i64 r.ad, .string r.tg, .string r.tx, .int .i64 r.se] 82)) ka x.ks) := h4
  obtain ⟨ha1, ha2⟩ := ha
  have hsum : IntKind.i64.wrap (at_ + (x.P.length : Int)) = at_ + x.P.length := IntWalk.i64_in _ ⟨ha1, ha2⟩
  have hcell : Hid (∀ w', Boxed w' w.heap.size r → w'.cell? ⟨w.heap.size, 0, none⟩ = some (.string r.n) ∧ w'.cell? ⟨w.heap.size, 1, none⟩ = some (.int .i64 r.ty) ∧ w'.cell? ⟨w.heap.size, 2, none⟩ = some (.int .i64 r.ttl) ∧ w'.cell? ⟨w.heap.size, 3, none⟩ = some (.int .i64 r.ad) ∧ w'.cell? ⟨w.heap.size, 4, none⟩ = some (.string r.tg) ∧ w'.cell? ⟨w.heap.size, 5, none⟩ = some (.string r.tx) ∧ w'.cell? ⟨w.heap.size, 6, none⟩ = some (.int .i64 r.se)) := fun w' h => ⟨h.cell 0, h.cell 1, h.cell 2, h.cell 3, h.cell 4, h.cell 5, h.cell 6⟩
  clear h4 fz h5 h6 h2 h
  go_enter Tryz.func41, Tryz.ntmps41
  go_wp2_with fail
  generalize w.alloc (.cells #[.string r.n, .int .i64 r.ty, .int .i64 r.ttl, .int .i64 r.ad, .string r.tg, .string r.tx, .int .i64 r.se] 82) = w0 at *
  have HS : Hid (∀ w', Below w0.heap.size w0 w' → w'.cell? ⟨b, 0, none⟩ = some (.int .i64 at_) ∧ w'.cell? ⟨b, 1, none⟩ = some (.slice a x.P.length cap) ∧ w'.cell? ⟨b, 2, none⟩ = some (.slice ka x.ks.length kcap) ∧ w'.cell? ⟨w.heap.size, 0, none⟩ = some (.string r.n) ∧ w'.cell? ⟨w.heap.size, 1, none⟩ = some (.int .i64 r.ty) ∧ w'.cell? ⟨w.heap.size, 2, none⟩ = some (.int .i64 r.ttl) ∧ w'.cell? ⟨w.heap.size, 3, none⟩ = some (.int .i64 r.ad) ∧ w'.cell? ⟨w.heap.size, 4, none⟩ = some (.string r.tg) ∧ w'.cell? ⟨w.heap.size, 5, none⟩ = some (.string r.tx) ∧ w'.cell? ⟨w.heap.size, 6, none⟩ = some (.int .i64 r.se)) := fun w' hb => ⟨(hb.cell (p := ⟨b, 0, none⟩) lt).trans c0, (hb.cell (p := ⟨b, 1, none⟩) lt).trans c1, (hb.cell (p := ⟨b, 2, none⟩) lt).trans c2, hcell.out _ (HX.out.below hb)⟩
  clear c0 c1 c2
  go_region_held3 (fun w' => w'.cell? ⟨b, 0, none⟩ = some (.int .i64 at_) ∧ w'.cell? ⟨b, 1, none⟩ = some (.slice a x.P.length cap) ∧ w'.cell? ⟨b, 2, none⟩ = some (.slice ka x.ks.length kcap) ∧ w'.cell? ⟨w.heap.size, 0, none⟩ = some (.string r.n) ∧ w'.cell? ⟨w.heap.size, 1, none⟩ = some (.int .i64 r.ty) ∧ w'.cell? ⟨w.heap.size, 2, none⟩ = some (.int .i64 r.ttl) ∧ w'.cell? ⟨w.heap.size, 3, none⟩ = some (.int .i64 r.ad) ∧ w'.cell? ⟨w.heap.size, 4, none⟩ = some (.string r.tg) ∧ w'.cell? ⟨w.heap.size, 5, none⟩ = some (.string r.tx) ∧ w'.cell? ⟨w.heap.size, 6, none⟩ = some (.int .i64 r.se)) (first | exact HS.out _ hb1' | exact HS.out w0 (Below.refl _ _))
    (first | (go_at_call 42; refine (HC'.out _ _ _ (bel_trans HB.out (below_drewN (Below.refl w0.heap.size _) 1)) ?_).mono ?_; (exact H4.out.below (below_drewN (Below.refl w0.heap.size _) 1)); rintro e w1 ⟨⟨v, rfl, hkn⟩, hb1⟩; have hb1' : Below w0.heap.size w0 w1 := bel_trans (below_drewN (Below.refl w0.heap.size _) 1) hb1))
  have B1 : Hid (Ink b w w1) := Ink.of_below (bel_trans HB.out hb1') ltw
  obtain ⟨ka2, kcap2, rfl, _⟩ := hkn.lies
  have HK6 : Hid (Knowns w1 (b + 1) (.slice ka2 ks'.length kcap2) ks') := hkn.base (show b + 1 ≤ w0.drew.heap.size from lt)
  have W1 : Hid (_) := H0.out.below hb1'
  clear hkn hb1 hb1' c3 H4 HC' lt H0 HS hcell HX HB
  go_wp2_with fail
  refine (HT.out _ W1.out).mono ?_; rintro e w2 ⟨rfl, hW2, hI2⟩
  have K2 := HK6.out.ink hI2
  have W3 : Hid (_) := hW2.knows (K2.lies') (fun y hy hn => K2.apart (show b < b + 1 by omega) _ _ y rfl hy hn) K2
  have B3 : Hid (Ink b w (w2.setCell ⟨b, 2, none⟩ (.slice ka2 ks'.length kcap2))) := B1.out.trans (hI2.trans (Ink.set _ _ _))
  obtain ⟨_, _, ⟨_, _, _, _, _, _, d2, _, _, _⟩, fq, _⟩ := hW2
  have f2 := fq 2
  simp only at d2
  clear fq K2 HK6 hI2 B1 W1 HT
  go_wp2
  go_end0
  exact ⟨rfl, W3.out, B3.out⟩

/-- A record that may be put, put. -/
theorem rec_w (b : Nat) (s : Sofar) (r : Rec) (w : World) (h : Wr w b 0 true ⟨s.1, s.2, false⟩) (ho : OkS s) (hm : mayR r = true) (hr : IsRec r) (hL : Laid w) :
    Calls Tryz.prog 41 #[.pointer (some ⟨b, 0, none⟩), .func (.func 42) #[] #[], .agg #[.string r.n, .int .i64 r.ty, .int .i64 r.ttl, .int .i64 r.ad, .string r.tg, .string r.tx, .int .i64 r.se]] w fun e w' => e = .returned (.tuple #[]) ∧ Wr w' b 0 true ⟨(putR1 s r).1, (putR1 s r).2, false⟩ ∧ Ink b w w' := by
  obtain ⟨P, ks', hp⟩ := putL_some ho.good (by have := ho.len; omega) hm
  have hl := putL_len hp
  have e1 : putR1 s r = (s.1 ++ P, ks') := by simp [putR1, hp]
  rw [e1]
  have h59 := ho.len
  have := byR_ok b 0 true ⟨s.1, s.2, false⟩ r (mk P) ks' w h rfl (by simp only; omega) (by rw [size_mk]; omega) (by simp only; omega) (fun ka kcap w' hb hk => by
    have := rrPut_yes (0 + (s.1.length : Int)) ka s.2.length kcap s.2 ks' r (mk P) w' rfl hr.1 hr.2.1 (by omega) (by have := ho.kl; omega) ho.each hk (hL.below hb) (by rw [Int.zero_add, bs_mk]; exact hp)
    exact this)
  rw [bs_mk] at this
  exact this

/-! ### a question -/
set_option maxHeartbeats 1000000 in
theorem ques_w (b : Nat) (s : Sofar) (q : Qn) (w : World) (h : Wr w b 0 true ⟨s.1, s.2, false⟩) (ho : OkS s) (hq : mayQ q = true) (hs : q.n.size ≤ maxLen) :
    Calls Tryz.prog 40 #[.pointer (some ⟨b, 0, none⟩), .agg #[.string q.n, .int .i64 q.ty]] w fun e w' => e = .returned (.tuple #[]) ∧ Wr w' b 0 true ⟨(putQ s q).1, (putQ s q).2, false⟩ ∧ Ink b w w' := by
  have hX := quesW_is ho hq
  have h59 := ho.len
  have F0 := ho.fine
  have hty : 0 ≤ q.ty ∧ q.ty < 65536 := by simp only [mayQ, upB, Bool.and_eq_true, decide_eq_true_eq] at hq; omega
  have e1 : quesW q ⟨s.1, s.2, false⟩ = numW 1 2 (numW q.ty 2 (nameW 0 (bs q.n) ⟨s.1, s.2, false⟩)) := rfl
  rw [← hX, e1]
  clear e1 hX
  have HN : Hid (∀ w, Wr w b 0 true ⟨s.1, s.2, false⟩ → _) := fun w h => name_w b 0 true ⟨s.1, s.2, false⟩ q.n w h ⟨by have := F0.p; omega, by have := F0.q; omega, F0.l⟩ hs (fun _ => by simp only; omega)
  have F1 := F0.name 0 (bs q.n)
  generalize nameW 0 (bs q.n) ⟨s.1, s.2, false⟩ = x1 at *
  have H1 : Hid (∀ w, Wr w b 0 true x1 → _) := fun w h => number_2w b 0 x1 q.ty w h hty (by have := F1.p; omega)
  have F2 := F1.num q.ty 2
  generalize numW q.ty 2 x1 = x2 at *
  have H2 : Hid (∀ w, Wr w b 0 true x2 → _) := fun w h => number_2w b 0 x2 1 w h ⟨by omega, by omega⟩ (by have := F2.p; omega)
  generalize numW 1 2 x2 = X at *
  have HB : Hid (Below w.heap.size w (w.alloc (.cells #[.string q.n, .int .i64 q.ty] 59))) := (Below.refl w.heap.size w).alloc (Nat.le_refl _) _
  have W0 : Hid (_) := h.below HB.out
  have I0 : Hid (Ink b w (w.alloc (.cells #[.string q.n, .int .i64 q.ty] 59))) := Ink.of_below HB.out h.lt
  have ltb := h.lt
  have hnb : ¬ isBytes (w.alloc (.cells #[.string q.n, .int .i64 q.ty] 59)) w.heap.size := fun ⟨cur, f, e⟩ => by
    rw [heap_alloc_new] at e
    simp only [Option.some.injEq, Obj.cells.injEq] at e
    exact absurd e.2.1 (by decide)
  have Hc : Hid (∀ w', Ink b (w.alloc (.cells #[.string q.n, .int .i64 q.ty] 59)) w' → w'.cell? ⟨w.heap.size, 0, none⟩ = some (.string q.n) ∧ w'.cell? ⟨w.heap.size, 1, none⟩ = some (.int .i64 q.ty)) := fun w' hi => by
    have hb : w'.heap[w.heap.size]? = _ := hi.oth w.heap.size (by simp) (by omega) hnb
    exact ⟨(World.cell?_of_block hb).trans (new_cell _ _ _ 0 _ rfl), (World.cell?_of_block hb).trans (new_cell _ _ _ 1 _ rfl)⟩
  obtain ⟨n, ty⟩ := q
  simp only at *
  clear h hq hs ho F0 F1 F2 hty h59 HB hnb
  go_enter Tryz.func40, Tryz.ntmps40
  go_wp2_with fail
  obtain ⟨c0, c1⟩ := Hc.out _ (Ink.refl _ _)
  generalize w.alloc (.cells #[.string n, .int .i64 ty] 59) = w0 at *
  go_region_held3 (fun w' => w'.cell? ⟨w.heap.size, 0, none⟩ = some (.string n)) (first | exact c0 | exact d0)
    (first | (go_at_call 72; refine (HN.out _ (W0.out.below (below_drewN (Below.refl w0.heap.size _) 1))).mono ?_; rintro e w1 ⟨rfl, hW1, hI1⟩; have I1 : Ink b w0 w1 := (Ink.of_below (below_drewN (Below.refl w0.heap.size _) 1) W0.out.lt).trans hI1; obtain ⟨d0, d1⟩ := Hc.out _ I1))
  have J1 : Hid (Ink b w0 w1) := I1
  clear c0 c1 d0 I1 hI1 HN
  have W1 : Hid (_) := hW1
  clear hW1
  go_wp2_with fail
  go_region_held3 (fun w' => w'.cell? ⟨w.heap.size, 1, none⟩ = some (.int .i64 ty)) (first | exact d1 | exact e1)
    (first | (go_at_call 70; refine (H1.out _ (W1.out.below (below_drewN (Below.refl w1.heap.size _) 1))).mono ?_; rintro e w2 ⟨rfl, hW2, hI2⟩; have I2 : Ink b w0 w2 := J1.out.trans ((Ink.of_below (below_drewN (Below.refl w1.heap.size _) 1) W1.out.lt).trans hI2); obtain ⟨e0, e1⟩ := Hc.out _ I2))
  have J2 : Hid (Ink b w0 w2) := I2
  clear d1 e0 e1 I2 hI2 H1 W1
  go_wp2_with fail
  refine (H2.out _ hW2).mono ?_; rintro e w3 ⟨rfl, hW3, hI3⟩
  go_wp2
  go_end0
  exact ⟨rfl, hW3, I0.out.trans (J2.out.trans hI3)⟩

/-! ### the OPT -/
theorem opt_w (b : Nat) (s : Sofar) (z : Int) (w : World) (h : Wr w b 0 true ⟨s.1, s.2, false⟩) (ho : OkS s) (hz : 0 < z ∧ z < 65536) :
    Calls Tryz.prog 43 #[.pointer (some ⟨b, 0, none⟩), .int .i64 z] w fun e w' => e = .returned (.tuple #[]) ∧ (∃ ks, Wr w' b 0 true ⟨s.1 ++ optL z, ks, false⟩) ∧ Ink b w w' := by
  obtain ⟨ks, hX⟩ := optW_is ho hz.1
  have h59 := ho.len
  have F0 := ho.fine
  have Hk : Hid (∀ w', Wr w' b 0 true (optW z ⟨s.1, s.2, false⟩) → ∃ ks, Wr w' b 0 true ⟨s.1 ++ optL z, ks, false⟩) := fun w' hw => ⟨ks, by rw [← hX]; exact hw⟩
  clear hX
  have HE : Hid (∀ w', Wr w' b 0 true (numW 0 2 (numW 0 4 (numW z 2 (numW 41 2 (nameW 0 (bs ⟨#[]⟩) ⟨s.1, s.2, false⟩))))) → ∃ ks, Wr w' b 0 true ⟨s.1 ++ optL z, ks, false⟩) := Hk.out
  clear Hk
  have HN : Hid (∀ w, Wr w b 0 true ⟨s.1, s.2, false⟩ → _) := fun w h => name_w b 0 true ⟨s.1, s.2, false⟩ ⟨#[]⟩ w h ⟨by have := F0.p; omega, by have := F0.q; omega, F0.l⟩ (by simp [ByteArray.size]) (fun _ => by simp only; omega)
  have F1 := F0.name 0 (bs ⟨#[]⟩)
  generalize nameW 0 (bs ⟨#[]⟩) ⟨s.1, s.2, false⟩ = x1 at *
  have H1 : Hid (∀ w, Wr w b 0 true x1 → _) := fun w h => number_2w b 0 x1 41 w h ⟨by omega, by omega⟩ (by have := F1.p; omega)
  have F2 := F1.num 41 2
  generalize numW 41 2 x1 = x2 at *
  have H2 : Hid (∀ w, Wr w b 0 true x2 → _) := fun w h => number_2w b 0 x2 z w h ⟨by omega, by omega⟩ (by have := F2.p; omega)
  have F3 := F2.num z 2
  generalize numW z 2 x2 = x3 at *
  have H3 : Hid (∀ w, Wr w b 0 true x3 → _) := fun w h => number_4w b 0 x3 0 w h ⟨by omega, by omega⟩ (by have := F3.p; omega)
  have F4 := F3.num 0 4
  generalize numW 0 4 x3 = x4 at *
  have H4 : Hid (∀ w, Wr w b 0 true x4 → _) := fun w h => number_2w b 0 x4 0 w h ⟨by omega, by omega⟩ (by have := F4.p; omega)
  generalize numW 0 2 x4 = X at *
  generalize s.1 ++ optL z = L at *
  clear ho hz F0 F1 F2 F3 F4 h59
  go_enter Tryz.func43, Tryz.ntmps43
  go_wp2_with fail
  refine (HN.out _ h).mono ?_; rintro e w1 ⟨rfl, hW1, hI1⟩
  go_wp2_with fail
  refine (H1.out _ hW1).mono ?_; rintro e w2 ⟨rfl, hW2, hI2⟩
  go_wp2_with fail
  refine (H2.out _ hW2).mono ?_; rintro e w3 ⟨rfl, hW3, hI3⟩
  go_wp2_with fail
  refine (H3.out _ hW3).mono ?_; rintro e w4 ⟨rfl, hW4, hI4⟩
  go_wp2_with fail
  refine (H4.out _ hW4).mono ?_; rintro e w5 ⟨rfl, hW5, hI5⟩
  go_wp2
  go_end0
  exact ⟨rfl, HE.out _ hW5, hI1.trans (hI2.trans (hI3.trans (hI4.trans hI5)))⟩

/-! ### the bits -/
theorem new_cell2 (w : World) (o : Obj) (cs : Array Value) (t : TypeId) (j : Nat) (v : Value) (h : cs[j]? = some v) : ((w.alloc o).alloc (.cells cs t)).cell? ⟨w.heap.size + 1, j, none⟩ = some v := by
  have := new_cell (w.alloc o) cs t j v h
  rwa [show (w.alloc o).heap.size = w.heap.size + 1 by simp] at this
theorem new_frozen2 (w : World) (o : Obj) (cs : Array Value) (t : TypeId) (j : Nat) : ((w.alloc o).alloc (.cells cs t)).frozen? ⟨w.heap.size + 1, j, none⟩ = false := by
  have := new_frozen (w.alloc o) cs t j
  rwa [show (w.alloc o).heap.size = w.heap.size + 1 by simp] at this
theorem add_c (x y : Int) (is : Bool) (p : Nat) (w : World) (hc : w.cell? ⟨p, 0, none⟩ = some (.int .i64 x)) (hf : w.frozen? ⟨p, 0, none⟩ = false) (h0 : -1000000 ≤ x ∧ x ≤ 1000000) (h1 : 0 ≤ y ∧ y ≤ 100000) :
    Calls Tryz.prog 95 #[.int .i64 y, .bool is, .pointer (some ⟨p, 0, none⟩)] w fun e w' => e = .returned (.tuple #[]) ∧ w'.cell? ⟨p, 0, none⟩ = some (.int .i64 (x + if is then y else 0)) ∧ w'.frozen? ⟨p, 0, none⟩ = false ∧ Turn p w w' := by
  cases is
  · go_enter Tryz.func95, Tryz.ntmps95
    go_wp2
    go_end0
    exact ⟨rfl, by simpa using hc, hf, Turn.refl _ _⟩
  · go_enter Tryz.func95, Tryz.ntmps95
    go_wp2
    go_end0
    refine ⟨rfl, ?_, by rw [World.frozen?_setCell]; exact hf, Turn.set _ _ _⟩
    simpa using World.cell?_setCell_same _ _ _ hc

set_option maxHeartbeats 1000000 in
theorem bits_c (m : Msg) (p : Pl) (w : World) (ho : 0 ≤ m.op ∧ m.op ≤ 15) (hc : 0 ≤ m.co ∧ m.co ≤ 15) : Calls Tryz.prog 71 #[mv m p] w fun e w' => e = .returned (.int .i64 (bitsM m)) ∧ Below w.heap.size w w' := by
  have hmf : ∀ (fn : Fn) (first cap : Array Value) (w : World), (Instr.makeFunc fn first cap).run Tryz.prog w = .ok (.func fn first cap) w := fun _ _ _ _ => rfl
  have hv : Hid (bitsM m = m.op * 2048 + m.co + (if m.rsp then 32768 else 0) + (if m.au then 1024 else 0) + (if m.tr then 512 else 0) + (if m.re then 256 else 0)) := by unfold bitsM; show _ = _; omega
  generalize bitsM m = V at *
  obtain ⟨a, ha⟩ : ∃ a : Int, m.op * 2048 + m.co = a := ⟨_, rfl⟩
  have ha1 : 0 ≤ a ∧ a ≤ 40000 := by omega
  have hw1 : IntKind.i64.wrap (m.op * 2048) = m.op * 2048 := IntWalk.i64_in _ ⟨by omega, by omega⟩
  have hw2 : IntKind.i64.wrap (m.op * 2048 + m.co) = m.op * 2048 + m.co := IntWalk.i64_in _ ⟨by omega, by omega⟩
  rw [show m.op * 2048 + m.co = a from ha] at hv
  generalize hr : (if m.rsp then (32768 : Int) else 0) = r1 at hv
  generalize hau : (if m.au then (1024 : Int) else 0) = r2 at hv
  generalize htr : (if m.tr then (512 : Int) else 0) = r3 at hv
  have hr1 : 0 ≤ r1 ∧ r1 ≤ 32768 := by rw [← hr]; split <;> omega
  have hr2 : 0 ≤ r2 ∧ r2 ≤ 1024 := by rw [← hau]; split <;> omega
  have hr3 : 0 ≤ r3 ∧ r3 ≤ 512 := by rw [← htr]; split <;> omega
  have HA1 : Hid (∀ (b : Nat) (w : World), w.cell? ⟨b, 0, none⟩ = some (.int .i64 a) → w.frozen? ⟨b, 0, none⟩ = false → _) := fun b w h1 h2 => add_c a 32768 m.rsp b w h1 h2 (by omega) (by omega)
  rw [hr] at HA1
  have HA2 : Hid (∀ (b : Nat) (w : World), w.cell? ⟨b, 0, none⟩ = some (.int .i64 (a + r1)) → w.frozen? ⟨b, 0, none⟩ = false → _) := fun b w h1 h2 => add_c (a + r1) 1024 m.au b w h1 h2 (by omega) (by omega)
  rw [hau] at HA2
  have HA3 : Hid (∀ (b : Nat) (w : World), w.cell? ⟨b, 0, none⟩ = some (.int .i64 (a + r1 + r2)) → w.frozen? ⟨b, 0, none⟩ = false → _) := fun b w h1 h2 => add_c (a + r1 + r2) 512 m.tr b w h1 h2 (by omega) (by omega)
  rw [htr] at HA3
  have HA4 : Hid (∀ (b : Nat) (w : World), w.cell? ⟨b, 0, none⟩ = some (.int .i64 (a + r1 + r2 + r3)) → w.frozen? ⟨b, 0, none⟩ = false → _) := fun b w h1 h2 => add_c (a + r1 + r2 + r3) 256 m.re b w h1 h2 (by omega) (by omega)
  rw [show a + r1 + r2 + r3 + (if m.re then 256 else 0) = V from hv.out.symm] at HA4
  have Ha : Hid (m.op * 2048 + m.co = a) := ha
  have BX : Hid (BoxM (w.alloc (.cells (cellsM m p) 25)) w.heap.size m p) := BoxM.new w m p
  have hcell : Hid (∀ w', BoxM w' w.heap.size m p → _) := fun w' h => h.all
  have hturn : Hid (∀ (w' w'' : World) (k : Nat), k ≠ w.heap.size → BoxM w' w.heap.size m p → Turn k w' w'' → BoxM w'' w.heap.size m p) := fun w' w'' k hk h1 h2 => (h2.oth _ hk.symm h1.lt).trans h1
  have hbel : Hid (∀ w' w'', BoxM w' w.heap.size m p → Below w'.heap.size w' w'' → BoxM w'' w.heap.size m p) := fun w' w'' h1 h2 => h1.below h2
  clear ho hc ha ha1 hr hau htr hr1 hr2 hr3 hv
  simp only [mv, cellsM] at *
  go_enter Tryz.func71, Tryz.ntmps71
  go_wp2_with fail
  have B0 : Hid (Below w.heap.size w (w.alloc (.cells #[.int .i64 m.id, .bool m.rsp, .int .i64 m.op, .bool m.au, .bool m.tr, .bool m.re, .int .i64 m.co, .slice p.qa m.qs.length p.qc, .slice p.aa m.an.length p.ac, .slice p.sa m.sv.length p.sc, .slice p.da m.ad.length p.dc, .int .i64 m.sz] 25))) := (Below.refl w.heap.size w).alloc (Nat.le_refl _) _
  have c1 : ((w.alloc (.cells #[.int .i64 m.id, .bool m.rsp, .int .i64 m.op, .bool m.au, .bool m.tr, .bool m.re, .int .i64 m.co, .slice p.qa m.qs.length p.qc, .slice p.aa m.an.length p.ac, .slice p.sa m.sv.length p.sc, .slice p.da m.ad.length p.dc, .int .i64 m.sz] 25)).alloc (.cells #[.int .i64 (m.op * 2048 + m.co)] 3)).cell? ⟨w.heap.size + 1, 0, none⟩ = some (.int .i64 a) := by
    rw [Ha.out]
    exact new_cell2 w _ _ _ 0 _ rfl
  have f1 : ((w.alloc (.cells #[.int .i64 m.id, .bool m.rsp, .int .i64 m.op, .bool m.au, .bool m.tr, .bool m.re, .int .i64 m.co, .slice p.qa m.qs.length p.qc, .slice p.aa m.an.length p.ac, .slice p.sa m.sv.length p.sc, .slice p.da m.ad.length p.dc, .int .i64 m.sz] 25)).alloc (.cells #[.int .i64 (m.op * 2048 + m.co)] 3)).frozen? ⟨w.heap.size + 1, 0, none⟩ = false := new_frozen2 w _ _ _ 0
  have B1 : Hid (Below w.heap.size w ((w.alloc (.cells #[.int .i64 m.id, .bool m.rsp, .int .i64 m.op, .bool m.au, .bool m.tr, .bool m.re, .int .i64 m.co, .slice p.qa m.qs.length p.qc, .slice p.aa m.an.length p.ac, .slice p.sa m.sv.length p.sc, .slice p.da m.ad.length p.dc, .int .i64 m.sz] 25)).alloc (.cells #[.int .i64 (m.op * 2048 + m.co)] 3))) := B0.out.alloc (by simp) _
  have X1 : Hid (_) := hbel.out _ _ BX.out ((Below.refl _ _).alloc (Nat.le_refl _) (.cells #[.int .i64 (m.op * 2048 + m.co)] 3))
  obtain ⟨_, e1, _, e3, e4, e5, _⟩ := hcell.out _ X1.out
  generalize (w.alloc (.cells #[.int .i64 m.id, .bool m.rsp, .int .i64 m.op, .bool m.au, .bool m.tr, .bool m.re, .int .i64 m.co, .slice p.qa m.qs.length p.qc, .slice p.aa m.an.length p.ac, .slice p.sa m.sv.length p.sc, .slice p.da m.ad.length p.dc, .int .i64 m.sz] 25)).alloc (.cells #[.int .i64 (m.op * 2048 + m.co)] 3) = w1 at *
  clear BX B0
  refine (HA1.out _ _ c1 f1).mono ?_; rintro e w2 ⟨rfl, c2, f2, T2⟩
  have X2 : Hid (_) := hturn.out _ _ _ (by omega) X1.out T2
  have B2 : Hid (Below w.heap.size w w2) := B1.out.trans (T2.bel.mono (by omega))
  clear e1 e3 e4 e5 c1 f1 X1 B1 T2 HA1
  obtain ⟨_, e1, _, e3, e4, e5, _⟩ := hcell.out _ X2.out
  go_wp2_with fail
  refine (HA2.out _ _ c2 f2).mono ?_; rintro e w3 ⟨rfl, c3, f3, T3⟩
  have X3 : Hid (_) := hturn.out _ _ _ (by omega) X2.out T3
  have B3 : Hid (Below w.heap.size w w3) := B2.out.trans (T3.bel.mono (by omega))
  clear e1 e3 e4 e5 c2 f2 X2 B2 T3 HA2
  obtain ⟨_, e1, _, e3, e4, e5, _⟩ := hcell.out _ X3.out
  go_wp2_with fail
  refine (HA3.out _ _ c3 f3).mono ?_; rintro e w4 ⟨rfl, c4, f4, T4⟩
  have X4 : Hid (_) := hturn.out _ _ _ (by omega) X3.out T4
  have B4 : Hid (Below w.heap.size w w4) := B3.out.trans (T4.bel.mono (by omega))
  clear e1 e3 e4 e5 c3 f3 X3 B3 T4 HA3
  obtain ⟨_, e1, _, e3, e4, e5, _⟩ := hcell.out _ X4.out
  go_wp2_with fail
  refine (HA4.out _ _ c4 f4).mono ?_; rintro e w5 ⟨rfl, c5, f5, T5⟩
  have B5 : Hid (Below w.heap.size w w5) := B4.out.trans (T5.bel.mono (by omega))
  clear e1 e3 e4 e5 c4 f4 X4 B4 T5 HA4
  go_wp2
  go_ret
  exact ⟨rfl, B5.out⟩

/-! ### the head -/
theorem four0 (w : World) (a b c d : Int) : (Instr.index 113 (.agg #[.int .i64 a, .int .i64 b, .int .i64 c, .int .i64 d]) (.int .i64 0)).run Tryz.prog w = .ok (.int .i64 a) w := by kernel_rfl
theorem four1 (w : World) (a b c d : Int) : (Instr.index 113 (.agg #[.int .i64 a, .int .i64 b, .int .i64 c, .int .i64 d]) (.int .i64 1)).run Tryz.prog w = .ok (.int .i64 b) w := by kernel_rfl
theorem four2 (w : World) (a b c d : Int) : (Instr.index 113 (.agg #[.int .i64 a, .int .i64 b, .int .i64 c, .int .i64 d]) (.int .i64 2)).run Tryz.prog w = .ok (.int .i64 c) w := by kernel_rfl
theorem four3 (w : World) (a b c d : Int) : (Instr.index 113 (.agg #[.int .i64 a, .int .i64 b, .int .i64 c, .int .i64 d]) (.int .i64 3)).run Tryz.prog w = .ok (.int .i64 d) w := by kernel_rfl
def headW (m : Msg) : Wt := numW ((m.ad.length + optN m.sz : Nat) : Int) 2 (numW m.sv.length 2 (numW m.an.length 2 (numW m.qs.length 2 (numW (bitsM m) 2 (numW m.id 2 ⟨[], [], false⟩)))))
theorem headW_is (m : Msg) : headW m = ⟨headM m, [], false⟩ := by simp [headW, numW, textW, headM]

set_option maxHeartbeats 2000000 in
theorem head_w (b : Nat) (m : Msg) (p : Pl) (w : World) (h : Wr w b 0 true ⟨[], [], false⟩) (hm : MayM m) :
    Calls Tryz.prog 39 #[.pointer (some ⟨b, 0, none⟩), mv m p] w fun e w' => e = .returned (.tuple #[]) ∧ Wr w' b 0 true ⟨headM m, [], false⟩ ∧ Ink b w w' := by
  have hbt := (bits_told hm.op hm.co).1
  have hid := hm.id
  have hql := hm.ql
  have hal := hm.anl
  have hsl := hm.svl
  have hdl := hm.adl
  have hon : optN m.sz ≤ 1 := by unfold optN; split <;> omega
  rw [← headW_is]
  have e1 : headW m = numW ((m.ad.length + optN m.sz : Nat) : Int) 2 (numW m.sv.length 2 (numW m.an.length 2 (numW m.qs.length 2 (numW (bitsM m) 2 (numW m.id 2 ⟨[], [], false⟩))))) := rfl
  rw [e1]
  clear e1
  have F0 : Fine ⟨[], [], false⟩ 0 0 := ⟨by simp, by simp, by simp⟩
  have H0 : Hid (∀ w, Wr w b 0 true ⟨[], [], false⟩ → _) := fun w h => number_2w b 0 ⟨[], [], false⟩ m.id w h ⟨by omega, by omega⟩ (by have := F0.p; omega)
  have F1 := F0.num m.id 2
  generalize numW m.id 2 ⟨[], [], false⟩ = x1 at *
  have H1 : Hid (∀ w, Wr w b 0 true x1 → _) := fun w h => number_2w b 0 x1 (bitsM m) w h ⟨by omega, by omega⟩ (by have := F1.p; omega)
  have HB : Hid (∀ w, _) := fun w => bits_c m p w hm.op hm.co
  have F2 := F1.num (bitsM m) 2
  generalize numW (bitsM m) 2 x1 = x2 at *
  generalize bitsM m = bb at *
  have H2 : Hid (∀ w, Wr w b 0 true x2 → _) := fun w h => number_2w b 0 x2 m.qs.length w h ⟨by omega, by omega⟩ (by have := F2.p; omega)
  have F3 := F2.num m.qs.length 2
  generalize numW m.qs.length 2 x2 = x3 at *
  have H3 : Hid (∀ w, Wr w b 0 true x3 → _) := fun w h => number_2w b 0 x3 m.an.length w h ⟨by omega, by omega⟩ (by have := F3.p; omega)
  have F4 := F3.num m.an.length 2
  generalize numW m.an.length 2 x3 = x4 at *
  have H4 : Hid (∀ w, Wr w b 0 true x4 → _) := fun w h => number_2w b 0 x4 m.sv.length w h ⟨by omega, by omega⟩ (by have := F4.p; omega)
  have F5 := F4.num m.sv.length 2
  generalize numW m.sv.length 2 x4 = x5 at *
  have H5 : Hid (∀ w, Wr w b 0 true x5 → _) := fun w h => number_2w b 0 x5 ((m.ad.length + optN m.sz : Nat) : Int) w h ⟨by omega, by omega⟩ (by have := F5.p; omega)
  generalize numW ((m.ad.length + optN m.sz : Nat) : Int) 2 x5 = X at *
  have hz : Hid (m.sz ≠ 0 → ((m.ad.length + optN m.sz : Nat) : Int) = m.ad.length + 1) := fun hne => by
    have : 0 < m.sz := by have := hm.sz; omega
    simp [optN, this]
  have hz0 : Hid (m.sz = 0 → ((m.ad.length + optN m.sz : Nat) : Int) = m.ad.length) := fun he => by simp [optN, he]
  generalize ((m.ad.length + optN m.sz : Nat) : Int) = ex at *
  have BX : Hid (BoxM (w.alloc (.cells (cellsM m p) 25)) w.heap.size m p) := BoxM.new w m p
  have HA : Hid (Below w.heap.size w (w.alloc (.cells (cellsM m p) 25))) := (Below.refl w.heap.size w).alloc (Nat.le_refl _) _
  have W0 : Hid (Wr (w.alloc (.cells (cellsM m p) 25)) b 0 true ⟨[], [], false⟩) := h.below HA.out
  have I0 : Hid (Ink b w (w.alloc (.cells (cellsM m p) 25))) := Ink.of_below HA.out h.lt
  have ltb := h.lt
  have Hc : Hid (∀ w', Ink b (w.alloc (.cells (cellsM m p) 25)) w' → _) := fun w' hi => (BX.out.ink hi (by omega)).all
  have hmv : Hid (mv m p = .agg #[.int .i64 m.id, .bool m.rsp, .int .i64 m.op, .bool m.au, .bool m.tr, .bool m.re, .int .i64 m.co, .slice p.qa m.qs.length p.qc, .slice p.aa m.an.length p.ac, .slice p.sa m.sv.length p.sc, .slice p.da m.ad.length p.dc, .int .i64 m.sz]) := rfl
  have hlq : (m.qs.length : Int) ≤ 4 := by omega
  have hla : (m.an.length : Int) ≤ 32 := by omega
  have hls : (m.sv.length : Int) ≤ 32 := by omega
  have hld : (m.ad.length : Int) ≤ 32 := by omega
  clear h hm F0 F1 F2 F3 F4 F5 hbt hid hql hal hsl hdl hon HA BX
  simp only [mv, cellsM] at HB W0 I0 Hc ⊢
  have y0 := four0
  have y1 := four1
  have y2 := four2
  have y3 := four3
  go_enter Tryz.func39, Tryz.ntmps39
  go_wp2_with fail
  obtain ⟨c0, c1, c2, c3, c4, c5, c6, c7, c8, c9, c10, c11⟩ := Hc.out _ (Ink.refl _ _)
  generalize w.alloc (.cells #[.int .i64 m.id, .bool m.rsp, .int .i64 m.op, .bool m.au, .bool m.tr, .bool m.re, .int .i64 m.co, .slice p.qa m.qs.length p.qc, .slice p.aa m.an.length p.ac, .slice p.sa m.sv.length p.sc, .slice p.da m.ad.length p.dc, .int .i64 m.sz] 25) = w0 at *
  go_region_held3 (fun w' => w'.cell? ⟨w.heap.size, 0, none⟩ = some (.int .i64 m.id)) (first | exact c0 | exact d0)
    (first | (go_at_call 70; refine (H0.out _ (W0.out.below (below_drewN (Below.refl w0.heap.size _) 1))).mono ?_; rintro e w1 ⟨rfl, hW1, hI1⟩; have I1 : Ink b w0 w1 := (Ink.of_below (below_drewN (Below.refl w0.heap.size _) 1) W0.out.lt).trans hI1; obtain ⟨d0, d1, d2, d3, d4, d5, d6, d7, d8, d9, d10, d11⟩ := Hc.out _ I1))
  have J1 : Hid (Ink b w0 w1) := I1
  have W1 : Hid (_) := hW1
  clear c0 c1 c2 c3 c4 c5 c6 c7 c8 c9 c10 c11 I1 hI1 hW1 H0 W0
  clear d0 d1 d2 d3 d4 d5 d6 d7 d8 d9 d10 d11
  go_wp2_with fail
  go_region_held3 (fun w' => w'.cell? ⟨w.heap.size, 0, none⟩ = some (.int .i64 m.id) ∧ w'.cell? ⟨w.heap.size, 1, none⟩ = some (.bool m.rsp) ∧ w'.cell? ⟨w.heap.size, 2, none⟩ = some (.int .i64 m.op) ∧ w'.cell? ⟨w.heap.size, 3, none⟩ = some (.bool m.au) ∧ w'.cell? ⟨w.heap.size, 4, none⟩ = some (.bool m.tr) ∧ w'.cell? ⟨w.heap.size, 5, none⟩ = some (.bool m.re) ∧ w'.cell? ⟨w.heap.size, 6, none⟩ = some (.int .i64 m.co) ∧ w'.cell? ⟨w.heap.size, 7, none⟩ = some (.slice p.qa m.qs.length p.qc) ∧ w'.cell? ⟨w.heap.size, 8, none⟩ = some (.slice p.aa m.an.length p.ac) ∧ w'.cell? ⟨w.heap.size, 9, none⟩ = some (.slice p.sa m.sv.length p.sc) ∧ w'.cell? ⟨w.heap.size, 10, none⟩ = some (.slice p.da m.ad.length p.dc) ∧ w'.cell? ⟨w.heap.size, 11, none⟩ = some (.int .i64 m.sz)) (first | exact Hc.out w3 I3 | exact Hc.out w2 I2 | exact Hc.out w1 J1.out)
    (first
      | (go_at_call 71; refine (HB.out _).mono ?_; rintro e w2 ⟨rfl, hb2⟩; have hb2' : Below w1.heap.size w1 w2 := bel_trans (below_drewN (Below.refl w1.heap.size _) 1) hb2; have I2 : Ink b w0 w2 := J1.out.trans (Ink.of_below hb2' W1.out.lt); have W2 : Wr w2 b 0 true x1 := W1.out.below hb2')
      | (go_at_call 70; refine (H1.out _ W2).mono ?_; rintro e w3 ⟨rfl, hW3, hI3⟩; have I3 : Ink b w0 w3 := I2.trans hI3))
  have W3 : Hid (_) := hW3
  have J3 : Hid (Ink b w0 w3) := I3
  obtain ⟨d0, d1, d2, d3, d4, d5, d6, d7, d8, d9, d10, d11⟩ := Hc.out _ J3.out
  clear I2 I3 hI3 hW3 W2 hb2 hb2' HB H1 W1 J1
  by_cases hne : m.sz = 0
  case' pos =>
    have hbz : (m.sz != 0) = false := by simp [hne]
    have e := hz0.out hne
    subst e
  case' neg =>
    have hbz : (m.sz != 0) = true := by simpa using hne
    have e := hz.out hne
    subst e
  all_goals
    clear hz hz0 hne
    go_wp2_with fail
    clear d0 d1 d2 d3 d4 d5 d6 d7 d8 d9 d10 d11 hbz
    refine wp_loop_rounds 5 ?_
    rw [rounds_succ]
    go_wp2_with fail
    refine (H2.out _ W3.out).mono ?_; rintro e w4 ⟨rfl, hW4, hI4⟩
    have W4 : Hid (_) := hW4
    have J4 : Hid (Ink b w0 w4) := J3.out.trans hI4
    clear hW4 hI4 W3 J3 H2
    go_wp2_with fail
    rw [rounds_succ]
    go_wp2_with fail
    refine (H3.out _ W4.out).mono ?_; rintro e w5 ⟨rfl, hW5, hI5⟩
    have W5 : Hid (_) := hW5
    have J5 : Hid (Ink b w0 w5) := J4.out.trans hI5
    clear hW5 hI5 W4 J4 H3
    go_wp2_with fail
    rw [rounds_succ]
    go_wp2_with fail
    refine (H4.out _ W5.out).mono ?_; rintro e w6 ⟨rfl, hW6, hI6⟩
    have W6 : Hid (_) := hW6
    have J6 : Hid (Ink b w0 w6) := J5.out.trans hI6
    clear hW6 hI6 W5 J5 H4
    go_wp2_with fail
    rw [rounds_succ]
    go_wp2_with fail
    refine (H5.out _ W6.out).mono ?_; rintro e w7 ⟨rfl, hW7, hI7⟩
    have W7 : Hid (_) := hW7
    have J7 : Hid (Ink b w0 w7) := J6.out.trans hI7
    clear hW7 hI7 W6 J6 H5
    go_wp2_with fail
    rw [rounds_succ]
    go_wp2
    go_end0
    exact ⟨rfl, W7.out, I0.out.trans J7.out⟩

end Go.Proofs.YtdmooggmoihggaaGreatDoor
