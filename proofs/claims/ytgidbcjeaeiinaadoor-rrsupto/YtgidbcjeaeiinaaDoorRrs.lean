/-
  Proved here: pinfoldlaw4.Rrs answers true for every place, list of known names, record and text (P4.1, P4.2, R4), in the second form: the arguments hold together at most 1048576 values and letters.
  Conditions: that bound, and the row's own; the row's listed variable (rr.soaTimes) is tied to the program's text by the given tie.
-/
import Derived.Test.YtgidbcjeaeiinaaDoorCards
import Derived.Test.YtgidbcjeaeiinaaDoorTie
import Derived.Test.YtgidbcjeaeiinaaDoorAwake4
import Derived.Test.YtgidbcjeaeiinaaDoorRrOpen
import Derived.Test.YtgidbcjeaeiinaaDoorWireLend
import Derived.Test.YtgidbcjeaeiinaaDoorRrRefPut2
import Derived.Test.YtgidbcjeaeiinaaDoorRrRefGet
import Derived.Deep.RegionHeld3
import Derived.WalkKit
import Derived.ProofKit
import Derived.OpenShut
import Derived.ShutString
import Derived.ChangeOld
import Derived.SizedLaws
import Derived.Carry
import Derived.Deep.SlicePairs
import Derived.Deep.DeepHandedRow
import Derived.Lib.LaidTab
namespace Go.Proofs.YtgidbcjeaeiinaaDoor
set_option maxRecDepth 100000
namespace rrs
open Go.ChangeShapes Go.WideShapes Go.ChangeAt Go.RowKit Go.Pin Go.PlainAid
open Go.ChangeMaps (open_string shut_string)

/-- What the walk is told of a slice of known names that came in. -/
def IsKnown (w : World) (a : Option Addr) (len : Nat) (ks : List Kn) : Prop := len = ks.length ∧ KnLies w a ks ∧ ks.length ≤ 524288 ∧ ∀ k ∈ ks, k.1.length ≤ 1048576

theorem bulk_mem {H : Type} : ∀ (l : List (DataW H)) (d : DataW H), d ∈ l → Rows.uptoBulk d ≤ Rows.uptoBulkAll l
  | [], _, h => by cases h
  | x :: r, d, h => by
    rw [Rows.uptoBulkAll]
    rcases List.mem_cons.1 h with rfl | h
    · omega
    · have := bulk_mem r d h; omega
theorem bulk_pos {H : Type} (d : DataW H) : 1 ≤ Rows.uptoBulk d := by
  cases d with
  | lit l => cases l <;> simp [Rows.uptoBulk]
  | _ => simp [Rows.uptoBulk]
theorem bulk_len {H : Type} (D : Nat → DataW H) (hD : ∀ i, 2 ≤ Rows.uptoBulk (D i)) : ∀ l : List Nat, 2 * l.length ≤ Rows.uptoBulkAll (l.map D)
  | [] => by simp [Rows.uptoBulkAll]
  | x :: r => by
    have := bulk_len D hD r
    have := hD x
    rw [List.map_cons, Rows.uptoBulkAll]; simp; omega

theorem known_of {H : Type} {enc : TypeId × Value → H} {W : World} {base : Nat} {spare : Nat → Bool} {held : Bool} {n len : Nat} {x : Addr} {V0 V1 : Nat → Value} {D0 D1 : Nat → DataW H} {P0 P1 : Nat → List MemPlace} {sp : List (DataW H)}
    (h : ∀ i, i < len → W.cell? (x.add (i * 2)) = some (V0 i) ∧ W.cell? (x.add (i * 2 + 1)) = some (V1 i) ∧ DataW.trod enc Tryd.prog W base spare held n 9 [V0 i] = some (D0 i, P0 i) ∧ DataW.trod enc Tryd.prog W base spare held n 3 [V1 i] = some (D1 i, P1 i))
    (hb : Rows.uptoBulk (.slice ((List.range len).map fun i => .agg [D0 i, D1 i]) sp) ≤ 1048576) : ∃ ks, IsKnown W (some x) len ks := by
  have each : ∀ i, i < len → ∃ q : ByteArray × Int, V0 i = .string q.1 ∧ V1 i = .int .i64 q.2 ∧ D0 i = .lit (.string q.1.data.toList) := by
    intro i hi
    obtain ⟨_, _, h1, h2⟩ := h i hi
    obtain ⟨s, e1, e2, _⟩ := DataW.trod_string Tryd.underlying9 h1
    obtain ⟨z, e3, _, _⟩ := DataW.trod_int Tryd.underlying3 h2
    simp only [Prod.mk.injEq] at e2
    exact ⟨(s, z), by simpa using e1, by simpa using e3, e2.1⟩
  obtain ⟨q, hq⟩ := Go.Deep.choose_lt each
  refine ⟨(List.range len).map fun i => (bs (q i).1, (q i).2), by simp, .inr ⟨x, rfl, fun j hj => ?_⟩, ?_, ?_⟩
  · simp only [List.length_map, List.length_range] at hj
    obtain ⟨h1, h2, _⟩ := h j hj
    obtain ⟨e1, e2, _⟩ := hq j hj
    have e : knAt ((List.range len).map fun i => (bs (q i).1, (q i).2)) j = (bs (q j).1, (q j).2) := by
      unfold knAt
      rw [List.getD_eq_getElem?_getD, List.getElem?_map, List.getElem?_range hj]; rfl
    rw [e]
    refine ⟨by rw [h1, e1, mk_bs], ?_⟩
    rw [e2] at h2
    rw [← h2]
    congr 1
    unfold Addr.add
    rw [if_neg (by omega : ¬ (j * 2 + 1 = 0))]
    by_cases hz : j * 2 = 0
    · rw [if_pos hz, hz]
    · rw [if_neg hz]; simp only [Addr.mk.injEq, and_true, true_and]; omega
  · rw [Rows.uptoBulk] at hb
    have := bulk_len (fun i => DataW.agg [D0 i, D1 i]) (fun i => by have := bulk_pos (D0 i); simp only [Rows.uptoBulk, Rows.uptoBulkAll]; omega) (List.range len)
    simp only [List.length_range, List.length_map] at this ⊢
    omega
  · intro k hk
    simp only [List.mem_map, List.mem_range] at hk
    obtain ⟨i, hi, rfl⟩ := hk
    rw [Rows.uptoBulk] at hb
    have := bulk_mem _ _ (List.mem_map.2 ⟨i, List.mem_range.2 hi, rfl⟩ : DataW.agg [D0 i, D1 i] ∈ (List.range len).map fun i => DataW.agg [D0 i, D1 i])
    rw [(hq i hi).2.2] at this
    simp only [Rows.uptoBulk, Rows.uptoBulkAll] at this
    have e : (bs (q i).1).length = (q i).1.data.toList.length := rfl
    simp only
    omega

/-- What Put answers. -/
def putR (at_ : Int) (ks : List Kn) (r : Rec) : ByteArray × List Kn × Int := match putL at_ ks r with
  | none => (⟨#[]⟩, [], 400)
  | some (P, k) => (mk P, k, 0)
theorem rrPut_r (at_ : Int) (a : Option Addr) (n cap : Nat) (ks : List Kn) (r : Rec) (w : World) (hn : n = ks.length) (h1 : r.n.size ≤ maxLen) (h2 : r.tg.size ≤ maxLen) (hat : -9223372036854775808 ≤ at_ ∧ at_ ≤ 9223372036854775807) (hq : ks.length ≤ 1048500) (hl : ∀ k ∈ ks, k.1.length ≤ maxLen) (hk : KnLies w a ks) (hL : Laid w) :
    Calls Tryd.prog 9 #[.int .i64 at_, .slice a n cap, rv r] w fun e w' => (∃ v, e = .returned (.tuple #[.string (putR at_ ks r).1, v, .int .i64 (putR at_ ks r).2.2]) ∧ Knowns w' w.heap.size v (putR at_ ks r).2.1) ∧ Below w.heap.size w w' := by
  have := rrPut_c at_ a n cap ks r w hn h1 h2 hat hq hl hk hL
  rw [putRec_is] at this
  unfold putR
  cases hp : putL at_ ks r with
  | none => rw [hp] at this; exact this.mono fun e w' ⟨h1, h2⟩ => ⟨⟨_, h1, World.ownsRow_nil _ _ _ _⟩, h2⟩
  | some q => rw [hp] at this; exact this
theorem refPut_r (at_ : Int) (a : Option Addr) (cap : Nat) (ks : List Kn) (r : Rec) (w : World) (hn : r.n.size ≤ 1048576) (hg : r.tg.size ≤ 1048576) (hl : ks.length ≤ 1048500) (hks : ∀ k ∈ ks, k.1.length ≤ 1048576) (hk : KnLies w a ks) :
    Calls Tryd.prog 10 #[.int .i64 at_, .slice a ks.length cap, rv r] w fun e w' => (∃ v, e = .returned (.tuple #[.string (putR at_ ks r).1, v, .int .i64 (putR at_ ks r).2.2]) ∧ Knowns w' w.heap.size v (putR at_ ks r).2.1) ∧ Below w.heap.size w w' := by
  have := refPut_c at_ a cap ks r w hn hg hl hks hk
  unfold putR
  cases hp : putL at_ ks r with
  | none => rw [hp] at this; exact this.mono fun e w' ⟨h1, h2⟩ => ⟨⟨_, h1, World.ownsRow_nil _ _ _ _⟩, h2⟩
  | some q => rw [hp] at this; exact this
theorem putR_len (at_ : Int) (ks : List Kn) (r : Rec) : (putR at_ ks r).2.1.length ≤ ks.length + 24 := by
  unfold putR
  cases hp : putL at_ ks r with
  | none => simp
  | some q => exact (putL_len (P := q.1) (ks' := q.2) hp).2.2.1
/-- What Get tells. -/
def getR (s : ByteArray) (a : Int) : Rec × Int × Int := match getRec s a with
  | none => (zeroR, 0, 400)
  | some (r, e) => (r, e, 0)
theorem gotR_is (s : ByteArray) (a : Int) : gotR (getRec s a) = .returned (.tuple #[rv (getR s a).1, .int .i64 (getR s a).2.1, .int .i64 (getR s a).2.2]) := by
  unfold getR
  cases getRec s a <;> rfl

theorem boxed_cells {w' : World} {c : Nat} {r : Rec} (h : Boxed w' c r) : w'.cell? ⟨c, 0, none⟩ = some (.string r.n) ∧ w'.cell? ⟨c, 1, none⟩ = some (.int .i64 r.ty) ∧ w'.cell? ⟨c, 2, none⟩ = some (.int .i64 r.ttl) ∧ w'.cell? ⟨c, 3, none⟩ = some (.int .i64 r.ad) ∧ w'.cell? ⟨c, 4, none⟩ = some (.string r.tg) ∧ w'.cell? ⟨c, 5, none⟩ = some (.string r.tx) ∧ w'.cell? ⟨c, 6, none⟩ = some (.int .i64 r.se) := ⟨h.cell 0, h.cell 1, h.cell 2, h.cell 3, h.cell 4, h.cell 5, h.cell 6⟩
theorem neq_rec (a b : Rec) (w : World) : (binOp .neq 24 (rv a) (rv b)).run Tryd.prog w = .ok (.bool (!sameR a b)) w := by
  have h := eql_rec a b w
  simp only [rv] at h ⊢
  rw [run_eql_struct] at h
  rw [run_neq_struct]
  revert h
  cases (Op.equalIn 10000 24 (.agg #[.string a.n, .int .i64 a.ty, .int .i64 a.ttl, .int .i64 a.ad, .string a.tg, .string a.tx, .int .i64 a.se]) (.agg #[.string b.n, .int .i64 b.ty, .int .i64 b.ttl, .int .i64 b.ad, .string b.tg, .string b.tx, .int .i64 b.se])).run Tryd.prog w <;> simp [Result.andThen]
set_option maxHeartbeats 4000000 in
set_option maxRecDepth 100000 in
theorem walk (at_ : Int) (a : Option Addr) (len cap : Nat) (ks : List Kn) (r : Rec) (s : ByteArray) (w : World) (w0 : (Lit.int .i64 at_).wf = true) (w1 : IsKnown w a len ks) (w2 : r.n.size ≤ 1048576 ∧ r.tg.size ≤ 1048576 ∧ r.tx.size ≤ 1048576) (w3 : s.size ≤ 1048576) (hL : Laid w) :
    Calls Tryd.prog 3 #[.int .i64 at_, .slice a len cap, rv r, .string s] w fun e w' => e = .returned (.bool true) ∧ Below w.heap.size w w' := by
  obtain ⟨rfl, hk, hl, hks⟩ := w1
  obtain ⟨u1, u2, _⟩ := w2
  have hat : -9223372036854775808 ≤ at_ ∧ at_ ≤ 9223372036854775807 := by simpa [Lit.wf, IntKind.min, IntKind.max, IntKind.signed, IntKind.bits] using w0
  have HL : Hid (∀ w', Below w.heap.size w w' → _) := fun w' hb => lendKn_c a cap ks w' (by omega) (hk.below hb)
  have BX : Hid (Boxed (w.alloc (.cells #[.string r.n, .int .i64 r.ty, .int .i64 r.ttl, .int .i64 r.ad, .string r.tg, .string r.tx, .int .i64 r.se] 24)) w.heap.size r) := Boxed.new w r
  have hcl : Hid (∀ (w' : World), Boxed w' w.heap.size r → (w'.cell? ⟨w.heap.size, 0, none⟩ = some (.string r.n) ∧ w'.cell? ⟨w.heap.size, 1, none⟩ = some (.int .i64 r.ty) ∧ w'.cell? ⟨w.heap.size, 2, none⟩ = some (.int .i64 r.ttl) ∧ w'.cell? ⟨w.heap.size, 3, none⟩ = some (.int .i64 r.ad) ∧ w'.cell? ⟨w.heap.size, 4, none⟩ = some (.string r.tg) ∧ w'.cell? ⟨w.heap.size, 5, none⟩ = some (.string r.tx) ∧ w'.cell? ⟨w.heap.size, 6, none⟩ = some (.int .i64 r.se))) := fun w' h => ⟨h.cell 0, h.cell 1, h.cell 2, h.cell 3, h.cell 4, h.cell 5, h.cell 6⟩
  have HP : Hid (∀ w' g c, KnLies w' (some ⟨g, 0, none⟩) ks → Laid w' → _) := fun w' g c h hL => rrPut_r at_ (some ⟨g, 0, none⟩) ks.length c ks r w' rfl (by unfold maxLen; omega) (by unfold maxLen; omega) hat (by omega) (fun k hk => by have := hks k hk; unfold maxLen; omega) h hL
  have HQ : Hid (∀ w', Below w.heap.size w w' → _) := fun w' hb => refPut_r at_ a cap ks r w' u1 u2 (by omega) hks (hk.below hb)
  have hR := putR_len at_ ks r
  have HG : Hid (∀ w, Laid w → _) := fun w hL => rrGet_c s at_ w (by omega) hat hL
  have HH : Hid (∀ w, _) := fun w => refGet_c s at_ w (by omega)
  rw [gotR_is] at HG HH
  have HM : Hid (∀ w, _) := fun w => rrMay_c r w (by unfold maxLen; omega) (by unfold maxLen; omega)
  have HF : Hid (∀ w, _) := fun w => refMay_c r w u1 u2
  have Hk : Hid (KnLies w a ks) := hk
  have HLd : Hid (Laid w) := hL
  generalize putR at_ ks r = p at *
  obtain ⟨rs, rk, re⟩ := p
  generalize getR s at_ = q at *
  obtain ⟨q1, q2, q3⟩ := q
  have hq := fun w => neq_rec q1 q1 w
  rw [(sameR_iff q1 q1).2 rfl] at hq
  simp only at HP HQ HG HH hR
  generalize mayR r = m at *
  simp only [rv] at *
  clear hk hks hat w0 hL u1 u2
  go_enter Tryd.func3, Tryd.ntmps3
  go_wp2_with fail
  have B0 : Below w.heap.size w (w.alloc (.cells #[.string r.n, .int .i64 r.ty, .int .i64 r.ttl, .int .i64 r.ad, .string r.tg, .string r.tx, .int .i64 r.se] 24)) := (Below.refl _ _).alloc (Nat.le_refl _) _
  refine (HL.out _ B0).mono ?_; rintro e x1 ⟨⟨g, c, rfl, hlent⟩, hb⟩
  have X : Hid (Boxed x1 w.heap.size r) := BX.out.below hb
  have B : Hid (Below w.heap.size w x1) := bel_trans B0 hb
  obtain ⟨hf1, hc1, hg1, hg2⟩ := kn_from hlent
  have Hf1 : Hid (KnFrom x1 ⟨g, 0, none⟩ (ks ++ marks)) := hf1
  have hpre : KnLies x1 (some ⟨g, 0, none⟩) ks := .inr ⟨_, rfl, fun j hj => by
    have := hf1 j (by simp; omega)
    have e : knAt (ks ++ marks) j = knAt ks j := by
      unfold knAt; rw [List.getD_eq_getElem?_getD, List.getElem?_append_left hj, ← List.getD_eq_getElem?_getD]
    rwa [e] at this⟩
  have HP1 := HP.out x1 g c hpre (HLd.out.below B.out)
  have hx1 := hb.size
  simp at hx1
  clear HL hlent hf1 hpre HP BX B0 hb
  obtain ⟨r0, r1, r2, r3, r4, r5, r6⟩ := hcl.out _ X.out
  go_wp2_with fail
  refine HP1.mono ?_; rintro e x2 ⟨⟨v2, rfl, hk2⟩, hb⟩
  have K2 : Hid (Knowns x2 x1.heap.size v2 rk) := hk2
  have C2 : Hid (Below x1.heap.size x1 x2) := hb
  have B2 : Hid (Below w.heap.size w x2) := bel_trans B.out hb
  replace X : Hid (Boxed x2 w.heap.size r) := X.out.below hb
  clear hk2 hb HP1 r0 r1 r2 r3 r4 r5 r6
  obtain ⟨r0, r1, r2, r3, r4, r5, r6⟩ := hcl.out _ X.out
  go_wp2_with fail
  refine (HQ.out _ B2.out).mono ?_; rintro e x3 ⟨⟨v3, rfl, hk3⟩, hb⟩
  have K3 : Hid (Knowns x3 x2.heap.size v3 rk) := hk3
  replace K2 : Hid (Knowns x3 x1.heap.size v2 rk) := K2.out.below hb
  replace C2 : Hid (Below x1.heap.size x1 x3) := bel_trans C2.out hb
  replace B2 : Hid (Below w.heap.size w x3) := bel_trans B2.out hb
  replace X : Hid (Boxed x3 w.heap.size r) := X.out.below hb
  clear hk3 hb HQ r0 r1 r2 r3 r4 r5 r6
  go_wp2_with fail
  refine (HG.out _ (HLd.out.below B2.out)).mono ?_; rintro e x4 ⟨rfl, hb⟩
  replace K3 : Hid (Knowns x4 x2.heap.size v3 rk) := K3.out.below hb
  replace K2 : Hid (Knowns x4 x1.heap.size v2 rk) := K2.out.below hb
  replace C2 : Hid (Below x1.heap.size x1 x4) := bel_trans C2.out hb
  replace B2 : Hid (Below w.heap.size w x4) := bel_trans B2.out hb
  replace X : Hid (Boxed x4 w.heap.size r) := X.out.below hb
  clear hb HG
  go_wp2_with fail
  have BA : Below x4.heap.size x4 (x4.alloc (.cells #[.string q1.n, .int .i64 q1.ty, .int .i64 q1.ttl, .int .i64 q1.ad, .string q1.tg, .string q1.tx, .int .i64 q1.se] 24)) := (Below.refl _ _).alloc (Nat.le_refl _) _
  have Y : Hid (Boxed (x4.alloc (.cells #[.string q1.n, .int .i64 q1.ty, .int .i64 q1.ttl, .int .i64 q1.ad, .string q1.tg, .string q1.tx, .int .i64 q1.se] 24)) x4.heap.size q1) := Boxed.new x4 q1
  refine (HH.out _).mono ?_; rintro e x5 ⟨rfl, hb0⟩
  have hb := bel_trans BA hb0
  replace K3 : Hid (Knowns x5 x2.heap.size v3 rk) := K3.out.below hb
  replace K2 : Hid (Knowns x5 x1.heap.size v2 rk) := K2.out.below hb
  replace C2 : Hid (Below x1.heap.size x1 x5) := bel_trans C2.out hb
  replace B2 : Hid (Below w.heap.size w x5) := bel_trans B2.out hb
  replace X : Hid (Boxed x5 w.heap.size r) := X.out.below hb
  replace Y : Hid (Boxed x5 x4.heap.size q1) := Y.out.below hb0
  clear hb hb0 HH BA
  go_wp2_with fail
  have hb : Below x5.heap.size x5 (x5.alloc (.cells #[.string q1.n, .int .i64 q1.ty, .int .i64 q1.ttl, .int .i64 q1.ad, .string q1.tg, .string q1.tx, .int .i64 q1.se] 24)) := (Below.refl _ _).alloc (Nat.le_refl _) _
  have Z : Hid (Boxed (x5.alloc (.cells #[.string q1.n, .int .i64 q1.ty, .int .i64 q1.ttl, .int .i64 q1.ad, .string q1.tg, .string q1.tx, .int .i64 q1.se] 24)) x5.heap.size q1) := Boxed.new x5 q1
  generalize x5.alloc (.cells #[.string q1.n, .int .i64 q1.ty, .int .i64 q1.ttl, .int .i64 q1.ad, .string q1.tg, .string q1.tx, .int .i64 q1.se] 24) = y5 at *
  replace K3 : Hid (Knowns y5 x2.heap.size v3 rk) := K3.out.below hb
  replace K2 : Hid (Knowns y5 x1.heap.size v2 rk) := K2.out.below hb
  replace C2 : Hid (Below x1.heap.size x1 y5) := bel_trans C2.out hb
  replace B2 : Hid (Below w.heap.size w y5) := bel_trans B2.out hb
  replace X : Hid (Boxed y5 w.heap.size r) := X.out.below hb
  replace Y : Hid (Boxed y5 x4.heap.size q1) := Y.out.below hb
  clear hb
  obtain ⟨a2, c2, rfl, l2⟩ := K2.out.lies
  obtain ⟨a3, c3, rfl, l3⟩ := K3.out.lies
  clear l2 l3
  have HSK : Hid (∀ w', Below y5.heap.size y5 w' → Calls Tryd.prog 13 #[.slice a2 rk.length c2, .slice a3 rk.length c3] w' fun e w'' => e = .returned (.bool true) ∧ Below w'.heap.size w' w'') := fun w' hb => by
    obtain ⟨_, _, e2, l2⟩ := (K2.out.below hb).lies
    obtain ⟨_, _, e3, l3⟩ := (K3.out.below hb).lies
    cases e2; cases e3
    exact sameKn_c a2 a3 rk.length rk.length c2 c3 rk w' rfl rfl (by omega) l2 l3
  have HS : Hid (∀ w', Below y5.heap.size y5 w' → (w'.cell? ⟨w.heap.size, 0, none⟩ = some (.string r.n) ∧ w'.cell? ⟨w.heap.size, 1, none⟩ = some (.int .i64 r.ty) ∧ w'.cell? ⟨w.heap.size, 2, none⟩ = some (.int .i64 r.ttl) ∧ w'.cell? ⟨w.heap.size, 3, none⟩ = some (.int .i64 r.ad) ∧ w'.cell? ⟨w.heap.size, 4, none⟩ = some (.string r.tg) ∧ w'.cell? ⟨w.heap.size, 5, none⟩ = some (.string r.tx) ∧ w'.cell? ⟨w.heap.size, 6, none⟩ = some (.int .i64 r.se)) ∧ (w'.cell? ⟨x4.heap.size, 0, none⟩ = some (.string q1.n) ∧ w'.cell? ⟨x4.heap.size, 1, none⟩ = some (.int .i64 q1.ty) ∧ w'.cell? ⟨x4.heap.size, 2, none⟩ = some (.int .i64 q1.ttl) ∧ w'.cell? ⟨x4.heap.size, 3, none⟩ = some (.int .i64 q1.ad) ∧ w'.cell? ⟨x4.heap.size, 4, none⟩ = some (.string q1.tg) ∧ w'.cell? ⟨x4.heap.size, 5, none⟩ = some (.string q1.tx) ∧ w'.cell? ⟨x4.heap.size, 6, none⟩ = some (.int .i64 q1.se)) ∧ (w'.cell? ⟨x5.heap.size, 0, none⟩ = some (.string q1.n) ∧ w'.cell? ⟨x5.heap.size, 1, none⟩ = some (.int .i64 q1.ty) ∧ w'.cell? ⟨x5.heap.size, 2, none⟩ = some (.int .i64 q1.ttl) ∧ w'.cell? ⟨x5.heap.size, 3, none⟩ = some (.int .i64 q1.ad) ∧ w'.cell? ⟨x5.heap.size, 4, none⟩ = some (.string q1.tg) ∧ w'.cell? ⟨x5.heap.size, 5, none⟩ = some (.string q1.tx) ∧ w'.cell? ⟨x5.heap.size, 6, none⟩ = some (.int .i64 q1.se)) ∧ Below y5.heap.size y5 w') := fun w' hb => ⟨boxed_cells (X.out.below hb), boxed_cells (Y.out.below hb), boxed_cells (Z.out.below hb), hb⟩
  have h0 := HS.out y5 (Below.refl _ _)
  go_region_held3 (fun w' => (w'.cell? ⟨w.heap.size, 0, none⟩ = some (.string r.n) ∧ w'.cell? ⟨w.heap.size, 1, none⟩ = some (.int .i64 r.ty) ∧ w'.cell? ⟨w.heap.size, 2, none⟩ = some (.int .i64 r.ttl) ∧ w'.cell? ⟨w.heap.size, 3, none⟩ = some (.int .i64 r.ad) ∧ w'.cell? ⟨w.heap.size, 4, none⟩ = some (.string r.tg) ∧ w'.cell? ⟨w.heap.size, 5, none⟩ = some (.string r.tx) ∧ w'.cell? ⟨w.heap.size, 6, none⟩ = some (.int .i64 r.se)) ∧ (w'.cell? ⟨x4.heap.size, 0, none⟩ = some (.string q1.n) ∧ w'.cell? ⟨x4.heap.size, 1, none⟩ = some (.int .i64 q1.ty) ∧ w'.cell? ⟨x4.heap.size, 2, none⟩ = some (.int .i64 q1.ttl) ∧ w'.cell? ⟨x4.heap.size, 3, none⟩ = some (.int .i64 q1.ad) ∧ w'.cell? ⟨x4.heap.size, 4, none⟩ = some (.string q1.tg) ∧ w'.cell? ⟨x4.heap.size, 5, none⟩ = some (.string q1.tx) ∧ w'.cell? ⟨x4.heap.size, 6, none⟩ = some (.int .i64 q1.se)) ∧ (w'.cell? ⟨x5.heap.size, 0, none⟩ = some (.string q1.n) ∧ w'.cell? ⟨x5.heap.size, 1, none⟩ = some (.int .i64 q1.ty) ∧ w'.cell? ⟨x5.heap.size, 2, none⟩ = some (.int .i64 q1.ttl) ∧ w'.cell? ⟨x5.heap.size, 3, none⟩ = some (.int .i64 q1.ad) ∧ w'.cell? ⟨x5.heap.size, 4, none⟩ = some (.string q1.tg) ∧ w'.cell? ⟨x5.heap.size, 5, none⟩ = some (.string q1.tx) ∧ w'.cell? ⟨x5.heap.size, 6, none⟩ = some (.int .i64 q1.se)) ∧ Below y5.heap.size y5 w')
    (first | exact HS.out _ (below_drewN (Below.refl y5.heap.size _) 1) | exact HS.out _ sB)
    (first
      | (go_at_call 13; have tB := (‹_ ∧ _ ∧ _ ∧ Below y5.heap.size y5 _›).2.2.2; refine (HSK.out _ tB).mono ?_; rintro e wN ⟨rfl, hbN⟩; have sB := bel_trans tB hbN; clear tB hbN)
      | (go_at_call 14; have sB := (‹_ ∧ _ ∧ _ ∧ Below y5.heap.size y5 _›).2.2.2; refine (num_any _ _).mono ?_; rintro e wN ⟨rfl, rfl⟩)
      | (go_at_call 15; have tB := (‹_ ∧ _ ∧ _ ∧ Below y5.heap.size y5 _›).2.2.2; refine (HM.out _).mono ?_; rintro e wN ⟨rfl, hbN⟩; have sB := bel_trans tB hbN; clear tB hbN)
      | (go_at_call 16; have tB := (‹_ ∧ _ ∧ _ ∧ Below y5.heap.size y5 _›).2.2.2; refine (HF.out _).mono ?_; rintro e wN ⟨rfl, hbN⟩; have sB := bel_trans tB hbN; clear tB hbN))
  have sF := (‹_ ∧ _ ∧ _ ∧ Below y5.heap.size y5 _›).2.2.2
  replace K2 : Hid (Knowns wN x1.heap.size (.slice a2 rk.length c2) rk) := K2.out.below sF
  replace C2 : Hid (Below x1.heap.size x1 wN) := bel_trans C2.out sF
  replace B2 : Hid (Below w.heap.size w wN) := bel_trans B2.out sF
  clear sF HS HSK HM HF h0 X Y Z K3
  go_wp2_with fail
  refine (spoilKn_c _ _ rk _ (by omega) K2.out).mono ?_; rintro e x7 ⟨rfl, hb⟩
  have C7 : Hid (Below x1.heap.size x1 x7) := C2.out.trans hb
  have B7 : Hid (Below w.heap.size w x7) := B2.out.trans (hb.mono B.out.size)
  clear hb C2 B2 K2
  have HK := keptKn_c g c cap a ks x7 (by omega) hc1 (Hf1.out.below C7.out) (Hk.out.below B7.out)
  go_wp2_with fail
  refine HK.mono ?_; rintro e x8 ⟨rfl, hb⟩
  have B8 := bel_trans B7.out hb
  clear hb HK B7 C7
  go_wp2_with fail
  refine (awake_yes _ (HLd.out.below B8)).mono ?_; rintro e x9 ⟨rfl, hb⟩
  have B9 := bel_trans B8 hb
  clear hb B8
  go_wp2
  go_ret
  exact ⟨rfl, B9⟩

theorem own : ownKnob Tryd.prog.godebug = none := by kernel_rfl
theorem laidOut : laidOutB Tryd.prog = true := by kernel_rfl
theorem gTab : Tryd.prog.globalNamed "pinfold/rr.soaTimes" = some 0 := by kernel_rfl
theorem gTabType : (Tryd.prog.globals[0]?).map (·.type) = some 84 := by kernel_rfl
theorem cellsTab : Tryd.prog.cellsOf 84 = 4 := by kernel_rfl
theorem cellsInt : Tryd.prog.cellsOf 3 = 1 := by kernel_rfl
/-- What the row's list gives. -/
theorem table {W : World} (h : laidMetH Tryd.prog Rows.rrsUptoRow.laid W) : Laid W := by
  have t : Lib.TabIs Tryd.prog W "pinfold/rr.soaTimes" .i64 [60, 60, 600, 60] := Lib.tabIs_of_head (rest := []) gTab gTabType Tryd.underlying84 Tryd.underlying3 cellsInt cellsTab h
  exact ⟨t.cell gTab 0 (by decide), t.cell gTab 1 (by decide), t.cell gTab 2 (by decide), t.cell gTab 3 (by decide)⟩
/-- A world for the witness: the table holds what its initialiser lays. -/
noncomputable def laidWorld (os : Os) : World :=
  { World.holding Tryd.prog os ⟨#[], #[], []⟩ with heap := (World.holding Tryd.prog os ⟨#[], #[], []⟩).heap.modify 0 fun
      | .cells _ t frozen => .cells #[.int .i64 60, .int .i64 60, .int .i64 600, .int .i64 60] t frozen
      | o => o }
theorem laid_met (os : Os) : laidMet Tryd.prog Rows.rrsUptoRow.laid ((laidWorld os).forCall (fun _ _ => 0) ⟨#[], #[.int .i64 0, .slice none 0 0, .agg #[.string ByteArray.empty, .int .i64 0, .int .i64 0, .int .i64 0, .string ByteArray.empty, .string ByteArray.empty, .int .i64 0], .string ByteArray.empty], []⟩).memory :=
  laidMet_of_run' 8 (by kernel_rfl) (by kernel_rfl)
theorem reads (os : Os) {H : Type} (enc : TypeId × Value → H) : ∃ places, DataW.whole enc Tryd.prog ((laidWorld os).forCall (fun _ _ => 0) ⟨#[], #[.int .i64 0, .slice none 0 0, .agg #[.string ByteArray.empty, .int .i64 0, .int .i64 0, .int .i64 0, .string ByteArray.empty, .string ByteArray.empty, .int .i64 0], .string ByteArray.empty], []⟩).memory Tryd.f3.params.toList Rows.rrsSpec.vars false (#[.int .i64 0, .slice none 0 0, .agg #[.string ByteArray.empty, .int .i64 0, .int .i64 0, .int .i64 0, .string ByteArray.empty, .string ByteArray.empty, .int .i64 0], .string ByteArray.empty] : Array Value).toList 8 = some ([.lit (.int .i64 0), .nil, .agg [.lit (.string []), .lit (.int .i64 0), .lit (.int .i64 0), .lit (.int .i64 0), .lit (.string []), .lit (.string []), .lit (.int .i64 0)], .lit (.string [])], [], places) :=
  ⟨[], by kernel_rfl⟩

/-! ### The row's step -/
set_option maxRecDepth 100000 in
theorem lifted (os : Os) (started : os.Started) (H : Type) (enc : TypeId × Value → H) (F : Stop.Interp) :
    ReturnsInHanded {} Tryd.checked os 3 .any ((Rows.OpenSpec.upto Rows.rrsSpec).preRow enc Tryd.prog Tryd.f3 Rows.rrsUptoRow.domain false Rows.rrsUptoRow.laid) (((Rows.OpenSpec.upto Rows.rrsSpec).at F).post enc Tryd.prog Tryd.f3 false true false false) := by
  obtain ⟨places, hx⟩ := reads os enc
  refine returnsInHanded_of_row (C := Tryd.checked) (s := Rows.OpenSpec.upto Rows.rrsSpec) own started (by kernel_rfl) Tryd.func3
    (witness_row_at (enc := enc) (C := Tryd.checked) false (laidWorld os) #[.int .i64 0, .slice none 0 0, .agg #[.string ByteArray.empty, .int .i64 0, .int .i64 0, .int .i64 0, .string ByteArray.empty, .string ByteArray.empty, .int .i64 0], .string ByteArray.empty] rfl (by kernel_rfl) (by kernel_rfl) (by kernel_rfl)
      (OpenSpec.preRow_of_cond 8 hx (by kernel_rfl) (fun k hk => by cases hk; kernel_rfl) (by kernel_rfl) (laid_met os))) ?_
  intro W base args ds gs before hval0 hW _ hcond hsz0 hL _ _
  have hLaid := table hL
  have hval : ∀ (j : Nat) t v, Tryd.f3.params[j]? = some t → args[j]? = some v → Value.okWide Tryd.prog W .any base t v := hval0
  have hsz : (DataW.weightsEach Tryd.prog (Tryd.f3.params.toList ++ Rows.rrsSpec.plain.varTypes Tryd.prog) (ds ++ gs)).all (· ≤ reachBytes) = true := hsz0
  have hW' := hW
  obtain ⟨p, q, hA0, hV, rfl, _, _⟩ := hW
  have hA : DataW.TrodAll enc Tryd.prog W 0 (fun _ => true) true Tryd.f3.params.toList args.toList ds p := hA0
  rw [Tryd.params3] at hA hval hsz
  obtain ⟨v0, vs0, d0, ds0, p0, q0, hargs, rfl, rfl, h0, r0⟩ := trodAll_cons hA
  obtain ⟨v1, vs1, d1, ds1, p1, q1, rfl, rfl, rfl, h1, r1⟩ := trodAll_cons r0
  obtain ⟨v2, vs2, d2, ds2, p2, q2, rfl, rfl, rfl, h2, r2⟩ := trodAll_cons r1
  obtain ⟨v3, vs3, d3, ds3, p3, q3, rfl, rfl, rfl, h3, r3⟩ := trodAll_cons r2
  obtain ⟨rfl, rfl, rfl⟩ := trodAll_nil r3
  obtain rfl : args = #[v0, v1, v2, v3] := by cases args; simp_all
  obtain ⟨rfl, rfl⟩ := trodVars_none hV
  have hb := of_decide_eq_true (hcond _ rfl)
  simp only [List.append_nil, Rows.uptoBulkAll] at hb
  have b1 : Rows.uptoBulk d1 ≤ 1048576 := by omega
  obtain ⟨a0, rfl, rfl, rfl, w0⟩ := open_int Tryd.underlying3 (hval 0 3 v0 rfl rfl) h0
  have k1 := h1
  have lt1 : ∀ x ∈ p1, x.block < W.heap.size := by obtain ⟨m, hm⟩ := k1; exact DataW.trod_lt m _ _ _ hm
  obtain ⟨a1, len1, cap1, rfl⟩ := okWide_slice Tryd.underlying22 (hval 1 22 v1 rfl rfl)
  obtain ⟨z1, w1⟩ : ∃ ks, IsKnown W a1 len1 ks := by
    obtain ⟨fuel, hf⟩ := h1
    rcases Go.Deep.open_slice_pairs Tryd.underlying22 Tryd.underlying47 (by kernel_rfl) rfl rfl (by kernel_rfl) (by kernel_rfl) hf with ⟨hcs, _⟩ | ⟨x, l, c, m, n, V0, V1, D0, D1, P0, P1, hcs, _, hl, hm, hmm, hx, hcell⟩
    · simp [Value.cells] at hcs
      obtain ⟨rfl, rfl, rfl⟩ := hcs
      exact ⟨[], rfl, .inl rfl, by simp, by simp⟩
    · simp [Value.cells] at hcs
      obtain ⟨rfl, rfl, rfl⟩ := hcs
      have hlm : len1 ≤ m := by rw [hmm]; split <;> omega
      simp only [Prod.mk.injEq] at hx
      rw [hx.1] at b1
      exact known_of (fun i hi => hcell i (by omega)) b1
  have k2 := h2
  have lt2 : ∀ x ∈ p2, x.block < W.heap.size := by obtain ⟨m, hm⟩ := k2; exact DataW.trod_lt m _ _ _ hm
  obtain ⟨a2, rfl, w2, e2⟩ := open_rec (hval 2 24 v2 rfl rfl) h2
  rw [e2] at hb
  have l2n := length_bs a2.n
  have l2g := length_bs a2.tg
  have l2x := length_bs a2.tx
  obtain ⟨a3, rfl, rfl, rfl, w3⟩ := open_string Tryd.underlying9 (hval 3 9 v3 rfl rfl) h3
  have l3 : a3.data.toList.length = a3.size := Array.length_toList
  simp only [Rows.uptoBulk, Rows.uptoBulkAll] at hb
  have s2 : a2.n.size ≤ 1048576 ∧ a2.tg.size ≤ 1048576 ∧ a2.tx.size ≤ 1048576 := ⟨by omega, by omega, by omega⟩
  have s3 : a3.size ≤ 1048576 := by omega
  clear hb
  clear hA0 hval0 hsz0 hcond
  refine (walk a0 a1 len1 cap1 z1 a2 a3 W w0 w1 s2 s3 hLaid).mono fun e W' ⟨he, bel⟩ => ?_
  subst he
  exact ⟨_, rfl, _, _, _, [], _, [], hW', trodAll_mk1 (shut_bool Tryd.underlying4 _), (trodAll_cons_mk (shut_int Tryd.underlying3 w0) (trodAll_cons_mk (Below.trod laidOut (by kernel_rfl) (of_decide_eq_true (by kernel_rfl)) k1 bel lt1) (trodAll_cons_mk (Below.trod laidOut (by kernel_rfl) (of_decide_eq_true (by kernel_rfl)) k2 bel lt2) (trodAll_cons_mk (shut_string Tryd.underlying9 w3) trodAll_mk0)))), rfl, bel.frame _, fun h => by cases h⟩

theorem said : Rows.RrsUptoSaid :=
  OpenClaim.holds_of_cond 3 Tryd.f3 rfl rfl rfl rfl rfl rfl rfl ⟨rfl, rfl, rfl, rfl, rfl⟩ rfl rfl rfl rfl rfl (by kernel_rfl) Tryd.func3 (by kernel_rfl)
    (of_decide_eq_true (by kernel_rfl)) (by unfold Func.isWrapper; first | (rw [if_pos (by decide +kernel)]; kernel_rfl) | (rw [if_neg (by decide +kernel)]; exact ⟨rfl, rfl⟩))
    (fun os started H enc _ F => by rw [OpenClaim.pre_eq_preRow]; exact lifted os started H enc F)
/-- No parameter wants a stand-in. -/
theorem plain (f : FuncId) (fn : Func) (hf : Tryd.pinned.checked.prog.funcNamed "pinfold/pinfoldlaw4.Rrs" = some f) (hfn : Tryd.pinned.checked.prog.funcs[f]? = some fn) :
    false = Tryd.pinned.checked.prog.looks [] ∧ ∀ (j : Nat) t, fn.params[j]? = some t → Tryd.pinned.checked.prog.wantsStandIn t = false := by
  obtain rfl : f = 3 := Option.some.inj ((show Tryd.prog.funcNamed "pinfold/pinfoldlaw4.Rrs" = some 3 by kernel_rfl).symm.trans hf) |>.symm
  obtain rfl : fn = Tryd.f3 := (Option.some.inj (Tryd.func3.symm.trans hfn)).symm
  refine ⟨by kernel_rfl, fun j t ht => ?_⟩
  rw [Tryd.params3] at ht
  have hm := Array.mem_of_getElem? ht
  simp at hm
  repeat' (refine Or.elim hm (fun hm => ?_) (fun hm => ?_))
  all_goals (subst hm; exact (show Tryd.prog.wantsStandIn _ = false by kernel_rfl))
/-- The given statement. -/
theorem card : Rows.RrsUptoCardSaid :=
  Claim7.holds_tied_plain_at .later [] _ _ _ _ said (fun _ h => by cases h) (by kernel_rfl) (fun _ h => by cases h) rrsUpto_row_tie rfl ⟨rfl, rfl⟩ (by kernel_rfl) rfl plain (by kernel_rfl)

end rrs
theorem rrs_proved : Rows.RrsUptoCardSaid := rrs.card
#print axioms rrs_proved
end Go.Proofs.YtgidbcjeaeiinaaDoor
