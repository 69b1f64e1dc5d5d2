/-
  Proved here: pinfoldlaw3.Wires answers true for every place, list of known names, name and text (P3.1, P3.2, R4), in the second form: the arguments hold together at most 1048576 values and letters.
  Conditions: that bound, and the row's own.
-/
import Derived.Test.YtiohmjimlehnpaaAwake3
import Derived.Test.YtiohmjimlehnpaaWireRefPut
import Derived.Test.YtiohmjimlehnpaaWireLend
import Derived.OpenShut
import Derived.ShutString
import Derived.ChangeOld
import Derived.SizedLaws
import Derived.Deep.SlicePairs
namespace Go.Proofs.Ytiohmjimlehnpaa.wires
open Go.ChangeShapes Go.WideShapes Go.ChangeAt Go.RowKit Go.Pin Go.PlainAid
open Go.ChangeMaps (open_string shut_string)

/-- What the walk is told of a slice of known names that came in. -/
def IsKnown (w : World) (a : Option Addr) (len : Nat) (ks : List Kn) : Prop := len = ks.length ∧ KnLies w a ks ∧ ks.length ≤ 1048576 ∧ ∀ k ∈ ks, k.1.length ≤ 1048576

theorem bulk_mem {H : Type} : ∀ (l : List (DataW H)) (d : DataW H), d ∈ l → Rows.uptoBulk d ≤ Rows.uptoBulkAll l
  | [], _, h => by cases h
  | x :: r, d, h => by
    rw [Rows.uptoBulkAll]
    rcases List.mem_cons.1 h with rfl | h
    · omega
    · have := bulk_mem r d h; omega
theorem bulk_len {H : Type} (D : Nat → DataW H) (hD : ∀ i, 1 ≤ Rows.uptoBulk (D i)) : ∀ l : List Nat, l.length ≤ Rows.uptoBulkAll (l.map D)
  | [] => by simp [Rows.uptoBulkAll]
  | x :: r => by
    have := bulk_len D hD r
    have := hD x
    rw [List.map_cons, Rows.uptoBulkAll]; simp; omega

theorem known_of {H : Type} {enc : TypeId × Value → H} {W : World} {base : Nat} {spare : Nat → Bool} {held : Bool} {n len : Nat} {x : Addr} {V0 V1 : Nat → Value} {D0 D1 : Nat → DataW H} {P0 P1 : Nat → List MemPlace} {sp : List (DataW H)}
    (h : ∀ i, i < len → W.cell? (x.add (i * 2)) = some (V0 i) ∧ W.cell? (x.add (i * 2 + 1)) = some (V1 i) ∧ DataW.trod enc Try.prog W base spare held n 9 [V0 i] = some (D0 i, P0 i) ∧ DataW.trod enc Try.prog W base spare held n 3 [V1 i] = some (D1 i, P1 i))
    (hb : Rows.uptoBulk (.slice ((List.range len).map fun i => .agg [D0 i, D1 i]) sp) ≤ 1048576) : ∃ ks, IsKnown W (some x) len ks := by
  have each : ∀ i, i < len → ∃ q : ByteArray × Int, V0 i = .string q.1 ∧ V1 i = .int .i64 q.2 ∧ D0 i = .lit (.string q.1.data.toList) := by
    intro i hi
    obtain ⟨_, _, h1, h2⟩ := h i hi
    obtain ⟨s, e1, e2, _⟩ := DataW.trod_string Try.underlying9 h1
    obtain ⟨z, e3, _, _⟩ := DataW.trod_int Try.underlying3 h2
    simp only [Prod.mk.injEq] at e2
    exact ⟨(s, z), by simpa using e1, by simpa using e3, e2.1⟩
  obtain ⟨q, hq⟩ := Go.Deep.choose_lt each
  refine ⟨(List.range len).map fun i => (bs (q i).1, (q i).2), by simp, .inr ⟨x, rfl, fun j hj => ?_⟩, ?_, ?_⟩
  · simp only [List.length_map, List.length_range] at hj
    obtain ⟨h1, h2, _⟩ := h j hj
    obtain ⟨e1, e2, _⟩ := hq j hj
    have e : knAt ((List.range len).map fun i => (bs (q i).1, (q i).2)) j = (bs (q j).1, (q j).2) := by
      unfold knAt
      rw [List.getD_eq_getElem?_getD, List.getElem?_map, List.getElem?_range hj]; rfl
    rw [e]
    refine ⟨by rw [h1, e1, mk_bs], ?_⟩
    rw [e2] at h2
    rw [← h2]
    congr 1
    unfold Addr.add
    rw [if_neg (by omega : ¬ (j * 2 + 1 = 0))]
    by_cases hz : j * 2 = 0
    · rw [if_pos hz, hz]
    · rw [if_neg hz]; simp only [Addr.mk.injEq, and_true, true_and]; omega
  · rw [Rows.uptoBulk] at hb
    have := bulk_len (fun i => DataW.agg [D0 i, D1 i]) (fun i => by simp [Rows.uptoBulk]) (List.range len)
    simp only [List.length_range, List.length_map] at this ⊢
    omega
  · intro k hk
    simp only [List.mem_map, List.mem_range] at hk
    obtain ⟨i, hi, rfl⟩ := hk
    rw [Rows.uptoBulk] at hb
    have := bulk_mem _ _ (List.mem_map.2 ⟨i, List.mem_range.2 hi, rfl⟩ : DataW.agg [D0 i, D1 i] ∈ (List.range len).map fun i => DataW.agg [D0 i, D1 i])
    rw [(hq i hi).2.2] at this
    simp only [Rows.uptoBulk, Rows.uptoBulkAll] at this
    have e : (bs (q i).1).length = (q i).1.data.toList.length := rfl
    simp only
    omega

/-- What Put answers. -/
def putR (at_ : Int) (ks : List Kn) (n : List UInt8) : List UInt8 × List Kn × Int := if mayPutL at_ ks n then (putS ks (labsL n), ks ++ putN ks at_ (labsL n), 0) else ([], [], 300)
theorem wput_r (at_ : Int) (a : Option Addr) (cap : Nat) (ks : List Kn) (name : ByteArray) (w : World) (hs : name.size ≤ maxLen) (hl : ks.length ≤ 1048576) (hks : ∀ k ∈ ks, k.1.length ≤ maxLen) (hk : KnLies w a ks) :
    Calls Try.prog 11 #[.int .i64 at_, .slice a ks.length cap, .string name] w fun e w' => (∃ v, e = .returned (.tuple #[.string (mk (putR at_ ks (bs name)).1), v, .int .i64 (putR at_ ks (bs name)).2.2]) ∧ Knowns w' w.heap.size v (putR at_ ks (bs name)).2.1) ∧ Below w.heap.size w w' := by
  unfold putR
  cases hm : mayPutL at_ ks (bs name) with
  | true => simp only [if_true]; exact wput_ok at_ a cap ks name w hs hl hks hk hm
  | false =>
    simp only [Bool.false_eq_true, if_false]
    exact (wput_no at_ a cap ks name w hs (by omega) hks hk hm).mono fun e w' ⟨h1, h2⟩ => ⟨⟨_, h1, World.ownsRow_nil _ _ _ _⟩, h2⟩
theorem rput_r (at_ : Int) (a : Option Addr) (cap : Nat) (ks : List Kn) (name : ByteArray) (w : World) (hs : name.size ≤ 1048576) (hl : ks.length ≤ 1048576) (hks : ∀ k ∈ ks, k.1.length ≤ 1048576) (hk : KnLies w a ks) :
    Calls Try.prog 12 #[.int .i64 at_, .slice a ks.length cap, .string name] w fun e w' => (∃ v, e = .returned (.tuple #[.string (mk (putR at_ ks (bs name)).1), v, .int .i64 (putR at_ ks (bs name)).2.2]) ∧ Knowns w' w.heap.size v (putR at_ ks (bs name)).2.1) ∧ Below w.heap.size w w' := by
  unfold putR
  cases hm : mayPutL at_ ks (bs name) with
  | true => simp only [if_true]; exact rput_c at_ a cap ks name w hs hl hks hk hm
  | false =>
    simp only [Bool.false_eq_true, if_false]
    exact (rput_no at_ a cap ks name w hs hl hks hk hm).mono fun e w' ⟨h1, h2⟩ => ⟨⟨_, h1, World.ownsRow_nil _ _ _ _⟩, h2⟩
theorem putR_len (at_ : Int) (ks : List Kn) (n : List UInt8) (hl : ks.length ≤ 1048576) : (putR at_ ks n).2.1.length ≤ 1048584 := by
  unfold putR
  split
  · have h8 := labsL_len n
    have key : ∀ (ls : List (List UInt8)) (a : Int), (putN ks a ls).length ≤ ls.length := by
      intro ls
      induction ls with
      | nil => intro a; simp [putN]
      | cons p r ih =>
        intro a
        have := ih (a + 1 + p.length)
        rw [putN]
        split
        · simp
        · rw [List.length_append]; split <;> simp <;> omega
    have := key (labsL n) at_
    simp; omega
  · simp

set_option maxHeartbeats 1000000 in
set_option maxRecDepth 100000 in
theorem walk (at_ : Int) (a : Option Addr) (len cap : Nat) (ks : List Kn) (name s : ByteArray) (w : World) (_w0 : (Lit.int .i64 at_).wf = true) (w1 : IsKnown w a len ks) (w2 : name.size ≤ 1048576) (w3 : s.size ≤ 1048576) :
    Calls Try.prog 3 #[.int .i64 at_, .slice a len cap, .string name, .string s] w fun e w' => e = .returned (.bool true) ∧ Below w.heap.size w w' := by
  obtain ⟨rfl, hk, hl, hks⟩ := w1
  have HL := lendKn_c a cap ks w hl hk
  have HP : Hid (∀ w' g c, KnLies w' (some ⟨g, 0, none⟩) ks → _) := fun w' g c h => wput_r at_ (some ⟨g, 0, none⟩) c ks name w' (by unfold maxLen; omega) hl (fun k hk => by have := hks k hk; unfold maxLen; omega) h
  have HQ : Hid (∀ w', Below w.heap.size w w' → _) := fun w' hb => rput_r at_ a cap ks name w' w2 hl hks (hk.below hb)
  have hR := putR_len at_ ks (bs name) hl
  have HG : Hid (∀ w, _) := fun w => get_c s at_ w (by omega)
  have HH : Hid (∀ w, _) := fun w => rget_c s at_ w (by omega)
  have Hk : Hid (KnLies w a ks) := hk
  generalize putR at_ ks (bs name) = r at *
  obtain ⟨rs, rk, re⟩ := r
  generalize getI (bs s) at_ = q at *
  obtain ⟨q1, q2, q3⟩ := q
  simp only [told] at HG HH
  simp only at HP HQ hR
  clear hk hks
  go_enter Try.func3, Try.ntmps3
  go_wp2_with fail
  refine HL.mono ?_; rintro e x1 ⟨⟨g, c, rfl, hlent⟩, B⟩
  obtain ⟨hf1, hc1, hg1, hg2⟩ := kn_from hlent
  have Hf1 : Hid (KnFrom x1 ⟨g, 0, none⟩ (ks ++ marks)) := hf1
  have hpre : KnLies x1 (some ⟨g, 0, none⟩) ks := .inr ⟨_, rfl, fun j hj => by
    have := hf1 j (by simp; omega)
    have e : knAt (ks ++ marks) j = knAt ks j := by
      unfold knAt; rw [List.getD_eq_getElem?_getD, List.getElem?_append_left hj, ← List.getD_eq_getElem?_getD]
    rwa [e] at this⟩
  have HP1 := HP.out x1 g c hpre
  clear HL hlent hf1 hpre HP
  go_wp2_with fail
  refine HP1.mono ?_; rintro e x2 ⟨⟨v2, rfl, hk2⟩, hb⟩
  have K2 : Hid (Knowns x2 x1.heap.size v2 rk) := hk2
  have C2 : Hid (Below x1.heap.size x1 x2) := hb
  have B2 : Hid (Below w.heap.size w x2) := bel_trans B hb
  clear hk2 hb HP1
  go_wp2_with fail
  refine (HQ.out _ B2.out).mono ?_; rintro e x3 ⟨⟨v3, rfl, hk3⟩, hb⟩
  have K3 : Hid (Knowns x3 x2.heap.size v3 rk) := hk3
  replace K2 : Hid (Knowns x3 x1.heap.size v2 rk) := K2.out.below hb
  replace C2 : Hid (Below x1.heap.size x1 x3) := bel_trans C2.out hb
  replace B2 : Hid (Below w.heap.size w x3) := bel_trans B2.out hb
  clear hk3 hb HQ
  go_wp2_with fail
  refine (HG.out _).mono ?_; rintro e x4 ⟨rfl, hb⟩
  replace K3 : Hid (Knowns x4 x2.heap.size v3 rk) := K3.out.below hb
  replace K2 : Hid (Knowns x4 x1.heap.size v2 rk) := K2.out.below hb
  replace C2 : Hid (Below x1.heap.size x1 x4) := bel_trans C2.out hb
  replace B2 : Hid (Below w.heap.size w x4) := bel_trans B2.out hb
  clear hb
  go_wp2_with fail
  refine (HH.out _).mono ?_; rintro e x5 ⟨rfl, hb⟩
  replace K3 : Hid (Knowns x5 x2.heap.size v3 rk) := K3.out.below hb
  replace K2 : Hid (Knowns x5 x1.heap.size v2 rk) := K2.out.below hb
  replace C2 : Hid (Below x1.heap.size x1 x5) := bel_trans C2.out hb
  replace B2 : Hid (Below w.heap.size w x5) := bel_trans B2.out hb
  clear hb
  obtain ⟨a2, c2, rfl, l2⟩ := K2.out.lies
  obtain ⟨a3, c3, rfl, l3⟩ := K3.out.lies
  have HS := sameKn_c a2 a3 rk.length rk.length c2 c3 rk x5 rfl rfl (by omega) l2 l3
  clear l2 l3 K3
  go_wp2_with fail
  refine HS.mono ?_; rintro e x6 ⟨rfl, hb⟩
  replace K2 : Hid (Knowns x6 x1.heap.size (.slice a2 rk.length c2) rk) := K2.out.below hb
  replace C2 : Hid (Below x1.heap.size x1 x6) := bel_trans C2.out hb
  replace B2 : Hid (Below w.heap.size w x6) := bel_trans B2.out hb
  clear hb HS
  go_wp2_with (go_at_call 16; refine (num_any _ _).mono ?_; rintro e w4 ⟨rfl, rfl⟩)
  refine (spoilKn_c _ _ rk _ (by omega) K2.out).mono ?_; rintro e x7 ⟨rfl, hb⟩
  have C7 : Hid (Below x1.heap.size x1 x7) := C2.out.trans hb
  have B7 : Hid (Below w.heap.size w x7) := B2.out.trans (hb.mono B.size)
  clear hb C2 B2 K2
  have HK := keptKn_c g c cap a ks x7 hl hc1 (Hf1.out.below C7.out) (Hk.out.below B7.out)
  go_wp2_with fail
  refine HK.mono ?_; rintro e x8 ⟨rfl, hb⟩
  have B8 := bel_trans B7.out hb
  clear hb HK B7 C7
  go_wp2_with fail
  refine (awake_yes _).mono ?_; rintro e x9 ⟨rfl, hb⟩
  have B9 := bel_trans B8 hb
  clear hb B8
  go_wp2
  go_ret
  exact ⟨rfl, B9⟩

theorem own : ownKnob Try.prog.godebug = none := by kernel_rfl
theorem laidOut : laidOutB Try.prog = true := by kernel_rfl

/-! ### The row's step -/
set_option maxRecDepth 100000 in
theorem lifted (os : Os) (started : os.Started) (H : Type) (enc : TypeId × Value → H) (F : Stop.Interp) :
    ReturnsInHanded {} Try.checked os 3 .any ((Rows.OpenSpec.upto Rows.wiresSpec).pre6 enc Try.prog Try.f3 Rows.wiresUptoRow.domain false) (((Rows.OpenSpec.upto Rows.wiresSpec).at F).post enc Try.prog Try.f3 false true false false) := by
  refine returnsInHanded_of_cond (C := Try.checked) (s := Rows.OpenSpec.upto Rows.wiresSpec) (k := Rows.uptoSmall) rfl own started (by kernel_rfl) Try.func3
    (OpenSpec.witness (enc := enc) (C := Try.checked) (s := Rows.OpenSpec.upto Rows.wiresSpec) (k := Rows.uptoSmall) rfl false ⟨#[], #[.int .i64 0, .slice none 0 0, .string ByteArray.empty, .string ByteArray.empty], []⟩ 8 (by kernel_rfl) (by kernel_rfl) (by kernel_rfl)
      (x := ([.lit (.int .i64 0), .nil, .lit (.string []), .lit (.string [])], [], [])) (by kernel_rfl) rfl (by kernel_rfl)) ?_
  intro W base args ds gs before hval0 hW _ hk _
  have hval : ∀ (j : Nat) t v, Try.f3.params[j]? = some t → args[j]? = some v → Value.okWide Try.prog W .any base t v := hval0
  have hW' := hW
  obtain ⟨p, q, hA0, hV, rfl, _, _⟩ := hW
  have hA : DataW.TrodAll enc Try.prog W 0 (fun _ => true) true Try.f3.params.toList args.toList ds p := hA0
  rw [Try.params3] at hA hval
  obtain ⟨v0, vs0, d0, ds0, p0, q0, hargs, rfl, rfl, h0, r0⟩ := trodAll_cons hA
  obtain ⟨v1, vs1, d1, ds1, p1, q1, rfl, rfl, rfl, h1, r1⟩ := trodAll_cons r0
  obtain ⟨v2, vs2, d2, ds2, p2, q2, rfl, rfl, rfl, h2, r2⟩ := trodAll_cons r1
  obtain ⟨v3, vs3, d3, ds3, p3, q3, rfl, rfl, rfl, h3, r3⟩ := trodAll_cons r2
  obtain ⟨rfl, rfl, rfl⟩ := trodAll_nil r3
  obtain rfl : args = #[v0, v1, v2, v3] := by cases args; simp_all
  obtain ⟨rfl, rfl⟩ := trodVars_none hV
  have hb := of_decide_eq_true hk
  simp only [List.append_nil, Rows.uptoBulkAll] at hb
  have b1 : Rows.uptoBulk d1 ≤ 1048576 := by omega
  obtain ⟨a0, rfl, rfl, rfl, w0⟩ := open_int Try.underlying3 (hval 0 3 v0 rfl rfl) h0
  obtain ⟨a1, len1, cap1, rfl⟩ := okWide_slice Try.underlying22 (hval 1 22 v1 rfl rfl)
  have k1 := h1
  have lt1 : ∀ x ∈ p1, x.block < W.heap.size := by obtain ⟨m, hm⟩ := k1; exact DataW.trod_lt m _ _ _ hm
  obtain ⟨z1, w1⟩ : ∃ ks, IsKnown W a1 len1 ks := by
    obtain ⟨fuel, hf⟩ := h1
    rcases Go.Deep.open_slice_pairs Try.underlying22 Try.underlying43 (by kernel_rfl) rfl rfl (by kernel_rfl) (by kernel_rfl) hf with ⟨hcs, _⟩ | ⟨x, l, c, m, n, V0, V1, D0, D1, P0, P1, hcs, _, hl, hm, hmm, hx, hcell⟩
    · simp [Value.cells] at hcs
      obtain ⟨rfl, rfl, rfl⟩ := hcs
      exact ⟨[], rfl, .inl rfl, by simp, by simp⟩
    · simp [Value.cells] at hcs
      obtain ⟨rfl, rfl, rfl⟩ := hcs
      have hlm : len1 ≤ m := by rw [hmm]; split <;> omega
      simp only [Prod.mk.injEq] at hx
      rw [hx.1] at b1
      exact known_of (fun i hi => hcell i (by omega)) b1
  obtain ⟨a2, rfl, rfl, rfl, w2⟩ := open_string Try.underlying9 (hval 2 9 v2 rfl rfl) h2
  have l2 : a2.data.toList.length = a2.size := Array.length_toList
  obtain ⟨a3, rfl, rfl, rfl, w3⟩ := open_string Try.underlying9 (hval 3 9 v3 rfl rfl) h3
  have l3 : a3.data.toList.length = a3.size := Array.length_toList
  simp only [Rows.uptoBulk] at hb
  have s2 : a2.size ≤ 1048576 := by omega
  have s3 : a3.size ≤ 1048576 := by omega
  clear hA0 hval0 hb hk
  refine (walk a0 a1 len1 cap1 z1 a2 a3 W w0 w1 s2 s3).mono fun e W' ⟨he, bel⟩ => ?_
  subst he
  exact ⟨_, rfl, _, _, _, [], _, [], hW', trodAll_mk1 (shut_bool Try.underlying4 _), (trodAll_cons_mk (shut_int Try.underlying3 w0) (trodAll_cons_mk (Below.trod laidOut (by kernel_rfl) (of_decide_eq_true (by kernel_rfl)) k1 bel lt1) (trodAll_cons_mk (shut_string Try.underlying9 w2) (trodAll_cons_mk (shut_string Try.underlying9 w3) trodAll_mk0)))), rfl, bel.frame _, fun h => by cases h⟩

/-- The given statement. -/
theorem proved : Rows.WiresUptoSaid :=
  OpenClaim.holds_of_cond 3 Try.f3 rfl rfl rfl rfl rfl rfl rfl ⟨rfl, rfl, rfl, rfl, rfl⟩ rfl rfl rfl rfl rfl (by kernel_rfl) Try.func3 (by kernel_rfl)
    (of_decide_eq_true (by kernel_rfl)) (by unfold Func.isWrapper; first | (rw [if_pos (by decide +kernel)]; kernel_rfl) | (rw [if_neg (by decide +kernel)]; exact ⟨rfl, rfl⟩))
    (fun os started H enc _ F => lifted os started H enc F)

end Go.Proofs.Ytiohmjimlehnpaa.wires
namespace Go.Proofs.Ytiohmjimlehnpaa
theorem wires_proved : Rows.WiresUptoSaid := wires.proved
#print axioms wires_proved
end Go.Proofs.Ytiohmjimlehnpaa
