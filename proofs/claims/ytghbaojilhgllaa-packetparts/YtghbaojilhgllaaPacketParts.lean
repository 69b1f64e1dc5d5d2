/-
  pinfoldlaw7.PacketParts, at every three texts and number: it returns true; what came in reads as it did. No condition.
-/
import Derived.Test.YtghbaojilhgllaaAwake7
import Derived.Test.YtghbaojilhgllaaMade
import Derived.WalkKit
import Derived.ProofKit
import Derived.OpenShut
import Derived.ShutString
import Derived.ChangeOld
import Derived.SizedLaws
import Derived.Carry
namespace Go.Proofs.Ytghbaojilhgllaa
namespace packetParts
open Go.ChangeShapes Go.WideShapes Go.ChangeAt Go.RowKit Go.Pin Go.PlainAid Go.ChangeMaps

/-- One option of code 12, and the end. -/
def oneL (d : List UInt8) : List UInt8 := 12 :: UInt8.ofNat d.length :: (d ++ [255])
theorem one_put (d : List UInt8) (h : d.length ≤ 255) : putO [(12, d)] = oneL d := by
  have : partsL (byteO 12) d = 12 :: UInt8.ofNat d.length :: d := parts_short (by omega)
  simp [putO, bodyO, this, oneL]
theorem one_may (d : List UInt8) (h : d.length ≤ 512) : MayO [((12 : Int), d)] := ⟨by simp, by intro o ho; simp at ho; subst ho; exact (okO_iff _).2 ⟨by simp, by simp, h⟩, by simp⟩
theorem one_get (d j : List UInt8) (h : d.length ≤ 255) : getO (oneL d ++ j) [] = some [(12, d)] := by
  rw [← one_put d h]; exact get_put (one_may d (by omega)) j
theorem get_52 (k : UInt8) (d : List UInt8) (h : d.length ≤ 255) : getO (52 :: 1 :: k :: oneL d) [] = some [(52, [k]), (12, d)] := by
  rw [getO_part (by decide) (by decide) (by simp [oneL]), if_pos (by simp [roomO, joinO, findO])]
  show getO (oneL d) [(52, [k])] = _
  have e : oneL d = partsL (byteO 12) d ++ [255] := by
    have : partsL (byteO 12) d = 12 :: UInt8.ofNat d.length :: d := parts_short (by omega)
    rw [this]; rfl
  rw [e, get_parts d (by decide) (by decide) (by simp) (by simp [placeO]) [255] (by omega), getO_end]
  rfl
theorem join_two (k : UInt8) (x y : List UInt8) (hx : x.length ≤ 20) (hy : y.length ≤ 20) : joinP ([((52 : Int), [k]), (12, x)] ++ [(12, y)]) = some [(12, x ++ y)] := by
  have e : rowsJ ([((52 : Int), [k]), (12, x)] ++ [(12, y)]) = partsL (byteO 12) x ++ (partsL (byteO 12) y ++ []) := by simp [rowsJ, bodyO]
  unfold joinP
  rw [e, get_parts x (by decide) (by decide) (by simp) (by simp [placeO]) _ (by omega), List.nil_append]
  have := get_parts_on (c := 12) (os := []) y (by decide) (by decide) (by simp) (by simp [placeO]) x [] (by omega)
  rw [List.nil_append] at this
  rw [this, getO_nil]; rfl
theorem join_three (k : UInt8) (x y z : List UInt8) (hx : x.length ≤ 20) (hy : y.length ≤ 20) (hz : z.length ≤ 20) : joinP ([((52 : Int), [k]), (12, x)] ++ [(12, y)] ++ [(12, z)]) = some [(12, x ++ y ++ z)] := by
  have e : rowsJ ([((52 : Int), [k]), (12, x)] ++ [(12, y)] ++ [(12, z)]) = partsL (byteO 12) x ++ (partsL (byteO 12) y ++ (partsL (byteO 12) z ++ [])) := by simp [rowsJ, bodyO]
  unfold joinP
  rw [e, get_parts x (by decide) (by decide) (by simp) (by simp [placeO]) _ (by omega), List.nil_append]
  have h1 := get_parts_on (c := 12) (os := []) y (by decide) (by decide) (by simp) (by simp [placeO]) x (partsL (byteO 12) z ++ []) (by omega)
  rw [List.nil_append] at h1
  rw [h1]
  have h2 := get_parts_on (c := 12) (os := []) z (by decide) (by decide) (by simp) (by simp [placeO]) (x ++ y) [] (by rw [List.length_append]; omega)
  rw [List.nil_append] at h2
  rw [List.nil_append, h2, getO_nil]; rfl
/-- What the law wants. -/
def wantL (k : Int) (x y z : List UInt8) : List UInt8 := x ++ (if k ≠ 2 then y else []) ++ (if k ≠ 1 then z else [])
theorem parts_opts (k : Int) (hk : k = 1 ∨ k = 2 ∨ k = 3) (x y z j1 j2 : List UInt8) (hx : x.length ≤ 20) (hy : y.length ≤ 20) (hz : z.length ≤ 20) :
    optsP (52 :: 1 :: UInt8.ofNat k.toNat :: oneL x) (oneL z ++ j1) (oneL y ++ j2) = some [(12, wantL k x y z)] := by
  have o1 : ovr [((52 : Int), [(1 : UInt8)]), (12, x)] = [1] := rfl
  have o2 : ovr [((52 : Int), [(2 : UInt8)]), (12, x)] = [2] := rfl
  have o3 : ovr [((52 : Int), [(3 : UInt8)]), (12, x)] = [3] := rfl
  unfold optsP
  rw [get_52 _ x (by omega)]
  rcases hk with rfl | rfl | rfl
  · simp only [show UInt8.ofNat (1 : Int).toNat = 1 from rfl, o1, if_pos, one_get y j2 (by omega), join_two 1 x y hx hy]
    simp [wantL]
  · simp only [show UInt8.ofNat (2 : Int).toNat = 2 from rfl, o2, if_pos, one_get z j1 (by omega), join_two 2 x z hx hz]
    simp [wantL]
  · simp only [show UInt8.ofNat (3 : Int).toNat = 3 from rfl, o3, if_pos, one_get y j2 (by omega), one_get z j1 (by omega), join_three 3 x y z hx hy hz]
    simp [wantL]
def pkB : Pk := ⟨1, 0, 0, 0, 0, 0, 0, 0, 0, 0, ⟨#[]⟩, []⟩
theorem pkB_may : mayP pkB = true := by decide
def textB : ByteArray := mk (headP pkB ++ [255])
theorem pkB_put : putP pkB = (bs textB, 0) := by
  have e : putO pkB.os = [255] := rfl
  have h0 := (putA_cases pkB.os).2.1.2 ⟨((mayP_iff _).1 pkB_may).2.2.2.2 |> fun h => by simpa [mayO] using h, by rw [e]; decide⟩
  unfold putP
  rw [pkB_may, h0, e, textB, bs_mk]; rfl
theorem textB_size : textB.size = 241 := by rw [textB, size_mk, List.length_append, head_len _ (by decide)]; rfl
theorem textB_whole : bs textB = wholeP pkB (List.replicate 64 0) (List.replicate 128 0) [255] := by rw [textB, bs_mk, head_whole _ (by decide)]
/-- The whole text is told. -/
theorem parts_get (k : Int) (hk : k = 1 ∨ k = 2 ∨ k = 3) (x y z : ByteArray) (N F L : ByteArray) (hx : x.size ≤ 20) (hy : y.size ≤ 20) (hz : z.size ≤ 20) (hN : bs N = oneL (bs z)) (hF : bs F = oneL (bs y)) (hL : bs L = 52 :: 1 :: UInt8.ofNat k.toNat :: oneL (bs x)) :
    getP (textB.extract 0 44 ++ N ++ textB.extract (44 + N.size) 108 ++ F ++ textB.extract (108 + F.size) 240 ++ L) = some { pkB with os := [(12, wantL k (bs x) (bs y) (bs z))] } := by
  have lx := length_bs x
  have ly := length_bs y
  have lz := length_bs z
  have sN : N.size = z.size + 3 := by rw [← length_bs N, hN]; simp [oneL, length_bs]
  have sF : F.size = y.size + 3 := by rw [← length_bs F, hF]; simp [oneL, length_bs]
  obtain ⟨m1, m2, m4, h16, _⟩ := (mayP_iff pkB).1 pkB_may
  rw [replaced pkB (by decide) _ textB N F L textB_whole (by omega) (by omega), get_whole pkB _ _ _ ⟨m1, m2, m4, h16⟩ (by rw [List.length_append, length_bs, List.length_replicate]; omega) (by rw [List.length_append, length_bs, List.length_replicate]; omega), hN, hF, hL, parts_opts k hk _ _ _ _ _ (by omega) (by omega) (by omega)]
  rfl
theorem conv_one (v : Int) (w : World) : (convert 26 9 (.slice (some ⟨w.heap.size, 0, none⟩) 1 1)).run Try.prog (w.alloc (.cells #[.int .u8 v] 5)) = .ok (.string (str [v])) (w.alloc (.cells #[.int .u8 v] 5)) :=
  conv_new w 26 9 5 5 1 [v] 1 _ rfl rfl Try.underlying26 Try.underlying5 Try.underlying9
set_option maxRecDepth 100000 in
theorem one_c (s : ByteArray) (w : World) (h : s.size ≤ 20) : Calls Try.prog 24 #[.string s] w fun e w' => e = .returned (.string (mk (oneL (bs s)))) ∧ Below w.heap.size w w' := by
  have hs : (s.size : Int) ≤ 20 := by omega
  have hcv : ∀ w, _ := fun w => conv_one (s.size : Int) w
  have hR : mk (oneL (bs s)) = ⟨#[12]⟩ ++ str [(s.size : Int)] ++ s ++ ⟨#[255]⟩ := by
    apply bs_inj
    rw [bs_mk, bs_cat, bs_cat, bs_cat]
    have e : bs (str [(s.size : Int)]) = [UInt8.ofNat s.size] := by simp [str, bs]
    rw [e]
    simp only [oneL, length_bs]
    rfl
  have hk : (str [(s.size : Int)]).size = 1 := by rw [size_str]; rfl
  rw [hR]
  generalize str [(s.size : Int)] = K at *
  clear hR
  go_enter Try.func24, Try.ntmps24
  go_wp2
  go_ret
  exact ⟨rfl, (Below.refl _ _).alloc (Nat.le_refl _) _⟩
theorem min20 (n : Nat) : ∀ (w : World) ts t, (Builtin.min_ ts t #[.int .i64 (n : Int), .int .i64 20]).run Try.prog w = .ok (.int .i64 ((min n 20 : Nat) : Int)) w := by
  intro w ts t
  rw [run_min_int2]
  by_cases h : (20 : Int) < (n : Int)
  · rw [if_pos h, Nat.min_eq_right (by omega)]; rfl
  · rw [if_neg h, Nat.min_eq_left (by omega)]

set_option maxRecDepth 100000 in
set_option maxHeartbeats 4000000 in
theorem walk1 (a b c : ByteArray) (k0 : Int) (w : World) (ha : a.size ≤ 140737488351232) (hb : b.size ≤ 140737488351232) (hc : c.size ≤ 140737488351232) (hk : k0 % 4 % 3 = 0) : Calls Try.prog 7 #[.string a, .string b, .string c, .int .i64 k0] w fun e w' => e = .returned (.bool true) ∧ Below w.heap.size w w' := by
  have ma := min20 a.size
  have mb := min20 b.size
  have mc := min20 c.size
  obtain ⟨na, hna, la, la'⟩ : ∃ n, min a.size 20 = n ∧ n ≤ a.size ∧ n ≤ 20 := ⟨_, rfl, by omega, by omega⟩
  obtain ⟨nb, hnb, lb, lb'⟩ : ∃ n, min b.size 20 = n ∧ n ≤ b.size ∧ n ≤ 20 := ⟨_, rfl, by omega, by omega⟩
  obtain ⟨nc, hnc, lc, lc'⟩ : ∃ n, min c.size 20 = n ∧ n ≤ c.size ∧ n ≤ 20 := ⟨_, rfl, by omega, by omega⟩
  rw [hna] at ma
  rw [hnb] at mb
  rw [hnc] at mc
  have hx : (a.extract 0 na).size ≤ 20 := by rw [ByteArray.size_extract]; omega
  have hy : (b.extract 0 nb).size ≤ 20 := by rw [ByteArray.size_extract]; omega
  have hz : (c.extract 0 nc).size ≤ 20 := by rw [ByteArray.size_extract]; omega
  generalize hX : a.extract 0 na = X at *
  generalize hY : b.extract 0 nb = Y at *
  generalize hZ : c.extract 0 nc = Z at *
  have ja : (na : Int) ≤ (a.size : Int) := by omega
  have jb : (nb : Int) ≤ (b.size : Int) := by omega
  have jc : (nc : Int) ≤ (c.size : Int) := by omega
  have ia : (0 : Int) ≤ (na : Int) := by omega
  have ib : (0 : Int) ≤ (nb : Int) := by omega
  have ic : (0 : Int) ≤ (nc : Int) := by omega
  have hmask : bits .and .i64 k0 3 = k0 % 4 := i64_mask 2 k0 (by omega)
  have htm : (k0 % 4).tmod 3 = 0 := by rw [Int.tmod_eq_emod_of_nonneg (by omega)]; exact hk
  have HB : Hid (∀ w, _) := fun w => pPut_is pkB none 0 textB 0 w (.inl rfl) (by unfold maxLen; decide) pkB_put
  have O1 : Hid (∀ w, _) := fun w => one_c X w hx
  have O2 : Hid (∀ w, _) := fun w => one_c Y w hy
  have O3 : Hid (∀ w, _) := fun w => one_c Z w hz
  have sX : (mk (oneL (bs X))).size = X.size + 3 := by rw [size_mk]; simp [oneL, length_bs]
  have sY : (mk (oneL (bs Y))).size = Y.size + 3 := by rw [size_mk]; simp [oneL, length_bs]
  have sZ : (mk (oneL (bs Z))).size = Z.size + 3 := by rw [size_mk]; simp [oneL, length_bs]
  have hcv : ∀ w, _ := fun w => conv_one 1 w
  have HG := parts_get 1 (by omega) X Y Z (mk (oneL (bs Z))) (mk (oneL (bs Y))) (⟨#[52, 1]⟩ ++ str [1] ++ mk (oneL (bs X))) hx hy hz (bs_mk _) (bs_mk _) (by rw [bs_cat, bs_cat, bs_mk]; rfl)
  have hw : mk (wantL 1 (bs X) (bs Y) (bs Z)) = X ++ Y := by apply bs_inj; rw [bs_mk]; simp [wantL, bs_cat]
  have e52 : (⟨#[52, 1]⟩ : ByteArray).size = 2 := rfl
  have eK : (str [1]).size = 1 := by rw [size_str]; rfl
  have tB := textB_size
  generalize str [(1 : Int)] = K at *
  generalize mk (oneL (bs X)) = OX at *
  generalize mk (oneL (bs Y)) = OY at *
  generalize mk (oneL (bs Z)) = OZ at *
  generalize textB = T at *
  have q1 : (T.extract 0 44).size = 44 := by rw [ByteArray.size_extract]; omega
  have q2 : (T.extract (44 + OZ.size) 108).size ≤ 64 := by rw [ByteArray.size_extract]; omega
  have q3 : (T.extract (108 + OY.size) 240).size ≤ 132 := by rw [ByteArray.size_extract]; omega
  have r2 : (44 + (OZ.size : Int)).toNat = 44 + OZ.size := by omega
  have r3 : (108 + (OY.size : Int)).toNat = 108 + OY.size := by omega
  have t2 : T.extract (44 + (OZ.size : Int)).toNat 108 = T.extract (44 + OZ.size) 108 := by rw [r2]
  have t3 : T.extract (108 + (OY.size : Int)).toNat 240 = T.extract (108 + OY.size) 240 := by rw [r3]
  clear r2 r3
  generalize hE1 : T.extract 0 44 = E1 at *
  generalize hE2 : T.extract (44 + OZ.size) 108 = E2 at *
  generalize hE3 : T.extract (108 + OY.size) 240 = E3 at *
  have hassoc : E1 ++ OZ ++ E2 ++ OY ++ E3 ++ (⟨#[52, 1]⟩ ++ K ++ OX) = E1 ++ OZ ++ E2 ++ OY ++ E3 ++ ⟨#[52, 1]⟩ ++ K ++ OX := by simp only [ByteArray.append_assoc]
  rw [hassoc] at HG
  have HGET : Hid (∀ w, _) := fun w => pGet_yes _ _ w (by simp only [ByteArray.size_append]; omega) HG
  have p1 : ¬ 9223372036854775807 < E1.size + OZ.size := by omega
  have p2 : ¬ 9223372036854775807 < E1.size + OZ.size + E2.size := by omega
  have p3 : ¬ 9223372036854775807 < E1.size + OZ.size + E2.size + OY.size := by omega
  have p4 : ¬ 9223372036854775807 < E1.size + OZ.size + E2.size + OY.size + E3.size := by omega
  have p5 : ¬ 9223372036854775807 < E1.size + OZ.size + E2.size + OY.size + E3.size + 2 := by omega
  have p6 : ¬ 9223372036854775807 < E1.size + OZ.size + E2.size + OY.size + E3.size + 2 + K.size := by omega
  have p7 : ¬ 9223372036854775807 < E1.size + OZ.size + E2.size + OY.size + E3.size + 2 + K.size + OX.size := by omega
  have p8 : ¬ 9223372036854775807 < X.size + Y.size := by omega
  have p9 : ¬ 9223372036854775807 < X.size + Z.size := by omega
  have p10 : ¬ 9223372036854775807 < X.size + Y.size + Z.size := by omega
  have f1 : IntKind.i64.wrap (44 + (OZ.size : Int)) = 44 + (OZ.size : Int) := wrap_in _ (by omega) (by omega)
  have f2 : IntKind.i64.wrap (108 + (OY.size : Int)) = 108 + (OY.size : Int) := wrap_in _ (by omega) (by omega)
  have g1 : 44 + (OZ.size : Int) ≤ 108 := by omega
  have g2 : 108 + (OY.size : Int) ≤ 240 := by omega
  have g3 : (0 : Int) ≤ 44 + (OZ.size : Int) := by omega
  have g4 : (0 : Int) ≤ 108 + (OY.size : Int) := by omega
  have HQ : Hid (∀ (a a2 : Option Addr) (c c2 : Nat) (w : World), OpLies w a [(12, wantL 1 (bs X) (bs Y) (bs Z))] → OpLies w a2 [(12, wantL 1 (bs X) (bs Y) (bs Z))] → _) := fun a a2 c c2 w h1 h2 => sameOp_c a a2 1 1 c c2 [(12, wantL 1 (bs X) (bs Y) (bs Z))] w rfl rfl (by simp) h1 h2
  have ON : Hid (∀ w : World, OpLies (w.alloc (.cells #[.int .i64 12, .string (X ++ Y)] 25)) (some ⟨w.heap.size, 0, none⟩) [(12, wantL 1 (bs X) (bs Y) (bs Z))]) := fun w => by
    have := op_new w 12 (X ++ Y) 25
    rw [← hw, bs_mk] at this
    rw [← hw]; exact this
  generalize wantL 1 (bs X) (bs Y) (bs Z) = W at *
  have sOX : OX.size ≤ 23 := by omega
  have sOY : OY.size ≤ 23 := by omega
  have sOZ : OZ.size ≤ 23 := by omega
  have HH := And.intro p1 (And.intro p2 (And.intro p3 (And.intro p4 (And.intro p5 (And.intro p6 (And.intro p7 (And.intro p8 (And.intro p9 (And.intro p10 (And.intro f1 (And.intro f2 (And.intro g1 (And.intro g2 (And.intro g3 (And.intro g4 (And.intro t2 (And.intro t3 (And.intro q1 (And.intro q2 (And.intro q3 (And.intro sOX (And.intro sOY (And.intro sOZ eK)))))))))))))))))))))))
  have HI : Hid (_) := HH
  clear sOX sOY sOZ HH p1 p2 p3 p4 p5 p6 p7 p8 p9 p10 f1 f2 g1 g2 g3 g4 t2 t3 q1 q2 q3 sX sY sZ e52 eK hx hy hz la la' lb lb' lc lc'
  clear hna hnb hnc hassoc HG hw ha hb hc
  simp only [pv, cellsP, pkB, List.length_cons, List.length_nil] at HB HGET
  go_enter Try.func7, Try.ntmps7
  go_wp2_with fail
  refine (awake7_yes _).mono ?_; rintro e w1 ⟨rfl, hb1⟩
  have B1 : Hid (Below w.heap.size w w1) := hb1
  clear hb1
  go_wp2_with fail
  refine wp_region_quiet_lit (by kernel_rfl) (by kernel_rfl) ?_
  repeat (first | go_big_quiet_skip | (go_big_quiet_want; go_big_quiet_op; go_big_quiet_on))
  refine wpQuiet_nil ?_
  intro _ hw'
  obtain ⟨nq, hw''⟩ := hw'
  subst hw''
  have B2 : Hid (Below w.heap.size w (w1.drewN nq)) := bel_trans B1.out (below_drewN (Below.refl _ _) nq)
  clear B1
  go_wp2_with fail
  generalize w1.drewN nq = w2 at *
  refine (HB.out _).mono ?_; rintro e w3 ⟨rfl, hb⟩
  have B3 : Hid (Below w.heap.size w w3) := bel_trans B2.out hb
  clear hb B2 HB
  go_wp2_with (go_at_call 13; refine (num_any _ _).mono ?_; rintro e w4 ⟨rfl, rfl⟩)
  refine (O1.out _).mono ?_; rintro e w5 ⟨rfl, hb⟩
  have B5 : Hid (Below w.heap.size w w5) := bel_trans B3.out hb
  clear hb B3 O1
  go_wp2_with fail
  refine (O2.out _).mono ?_; rintro e w6 ⟨rfl, hb⟩
  have B6 : Hid (Below w.heap.size w w6) := bel_trans B5.out hb
  clear hb B5 O2
  go_wp2_with fail
  refine (O3.out _).mono ?_; rintro e w7 ⟨rfl, hb⟩
  have B7 : Hid (Below w.heap.size w w7) := bel_trans B6.out hb
  clear hb B6 O3
  go_wp2_with fail
  obtain ⟨p1, p2, p3, p4, p5, p6, p7, p8, p9, p10, f1, f2, g1, g2, g3, g4, t2, t3, q1, q2, q3, sOX, sOY, sOZ, eK⟩ := HI.out
  clear HI
  have hcv2 : ∀ w : World, (convert 26 9 (.slice (some ⟨w.heap.size, 0, none⟩) 1 1)).run Try.prog ((w.alloc (.cells #[.int .u8 1] 5)).drew) = .ok (.string K) ((w.alloc (.cells #[.int .u8 1] 5)).drew) := fun w => hcv w.drew
  refine wp_region_any (by kernel_rfl) ?_
  change wpAny _ _ _ _ _ _ _ (World.drew _)
  refine wpAny_take (i := 0) (v := .string T) rfl (by kernel_rfl) (by kernel_rfl) (by kernel_rfl) (fun _ _ _ h => h) (Or.inl ⟨by rfl, ?_⟩) ?_
  · intro w; go_simp; all_goals (first | rfl | omega)
  refine wpAny_take (i := 1) (v := .string E1) rfl (by kernel_rfl) (by kernel_rfl) (by kernel_rfl) (fun _ _ _ h => h) (Or.inl ⟨by rfl, ?_⟩) ?_
  · intro w; go_simp; all_goals (first | rfl | omega)
  refine wpAny_take (i := 2) (v := .string OZ) rfl (by kernel_rfl) (by kernel_rfl) (by kernel_rfl) (fun _ _ _ h => h) (Or.inl ⟨by rfl, ?_⟩) ?_
  · intro w; go_simp; all_goals (first | rfl | omega)
  refine wpAny_take (i := 3) (v := .string (E1 ++ OZ)) rfl (by kernel_rfl) (by kernel_rfl) (by kernel_rfl) (fun _ _ _ h => h) (Or.inl ⟨by rfl, ?_⟩) ?_
  · intro w; go_simp; all_goals (first | rfl | omega)
  refine wpAny_take (i := 4) (v := .string T) rfl (by kernel_rfl) (by kernel_rfl) (by kernel_rfl) (fun _ _ _ h => h) (Or.inl ⟨by rfl, ?_⟩) ?_
  · intro w; go_simp; all_goals (first | rfl | omega)
  refine wpAny_take (i := 5) (v := .string OZ) rfl (by kernel_rfl) (by kernel_rfl) (by kernel_rfl) (fun _ _ _ h => h) (Or.inl ⟨by rfl, ?_⟩) ?_
  · intro w; go_simp; all_goals (first | rfl | omega)
  refine wpAny_take (i := 6) (v := .int .i64 (OZ.size : Int)) rfl (by kernel_rfl) (by kernel_rfl) (by kernel_rfl) (fun _ _ _ h => h) (Or.inl ⟨by rfl, ?_⟩) ?_
  · intro w; go_simp; all_goals (first | rfl | omega)
  refine wpAny_take (i := 7) (v := .int .i64 (44 + (OZ.size : Int))) rfl (by kernel_rfl) (by kernel_rfl) (by kernel_rfl) (fun _ _ _ h => h) (Or.inl ⟨by rfl, ?_⟩) ?_
  · intro w; go_simp; all_goals (first | rfl | omega)
  refine wpAny_take (i := 8) (v := .string E2) rfl (by kernel_rfl) (by kernel_rfl) (by kernel_rfl) (fun _ _ _ h => h) (Or.inl ⟨by rfl, ?_⟩) ?_
  · intro w; go_simp; all_goals (first | rfl | omega)
  refine wpAny_take (i := 9) (v := .string (E1 ++ OZ ++ E2)) rfl (by kernel_rfl) (by kernel_rfl) (by kernel_rfl) (fun _ _ _ h => h) (Or.inl ⟨by rfl, ?_⟩) ?_
  · intro w; go_simp; all_goals (first | rfl | omega)
  refine wpAny_take (i := 10) (v := .string OY) rfl (by kernel_rfl) (by kernel_rfl) (by kernel_rfl) (fun _ _ _ h => h) (Or.inl ⟨by rfl, ?_⟩) ?_
  · intro w; go_simp; all_goals (first | rfl | omega)
  refine wpAny_take (i := 11) (v := .string (E1 ++ OZ ++ E2 ++ OY)) rfl (by kernel_rfl) (by kernel_rfl) (by kernel_rfl) (fun _ _ _ h => h) (Or.inl ⟨by rfl, ?_⟩) ?_
  · intro w; go_simp; all_goals (first | rfl | omega)
  refine wpAny_take (i := 12) (v := .string T) rfl (by kernel_rfl) (by kernel_rfl) (by kernel_rfl) (fun _ _ _ h => h) (Or.inl ⟨by rfl, ?_⟩) ?_
  · intro w; go_simp; all_goals (first | rfl | omega)
  refine wpAny_take (i := 13) (v := .string OY) rfl (by kernel_rfl) (by kernel_rfl) (by kernel_rfl) (fun _ _ _ h => h) (Or.inl ⟨by rfl, ?_⟩) ?_
  · intro w; go_simp; all_goals (first | rfl | omega)
  refine wpAny_take (i := 14) (v := .int .i64 (OY.size : Int)) rfl (by kernel_rfl) (by kernel_rfl) (by kernel_rfl) (fun _ _ _ h => h) (Or.inl ⟨by rfl, ?_⟩) ?_
  · intro w; go_simp; all_goals (first | rfl | omega)
  refine wpAny_take (i := 15) (v := .int .i64 (108 + (OY.size : Int))) rfl (by kernel_rfl) (by kernel_rfl) (by kernel_rfl) (fun _ _ _ h => h) (Or.inl ⟨by rfl, ?_⟩) ?_
  · intro w; go_simp; all_goals (first | rfl | omega)
  refine wpAny_take (i := 16) (v := .string E3) rfl (by kernel_rfl) (by kernel_rfl) (by kernel_rfl) (fun _ _ _ h => h) (Or.inl ⟨by rfl, ?_⟩) ?_
  · intro w; go_simp; all_goals (first | rfl | omega)
  refine wpAny_take (i := 17) (v := .string (E1 ++ OZ ++ E2 ++ OY ++ E3)) rfl (by kernel_rfl) (by kernel_rfl) (by kernel_rfl) (fun _ _ _ h => h) (Or.inl ⟨by rfl, ?_⟩) ?_
  · intro w; go_simp; all_goals (first | rfl | omega)
  refine wpAny_take (i := 18) (v := .string (E1 ++ OZ ++ E2 ++ OY ++ E3 ++ ⟨#[52, 1]⟩)) rfl (by kernel_rfl) (by kernel_rfl) (by kernel_rfl) (fun _ _ _ h => h) (Or.inl ⟨by rfl, ?_⟩) ?_
  · intro w; go_simp; all_goals (first | rfl | omega)
  refine wpAny_take (i := 19) (v := .int .i64 1) rfl (by kernel_rfl) (by kernel_rfl) (by kernel_rfl) (fun _ _ _ h => h) (Or.inl ⟨by rfl, ?_⟩) ?_
  · intro w; go_simp; all_goals (first | rfl | omega)
  refine wpAny_take (i := 20) (v := .int .u8 1) rfl (by kernel_rfl) (by kernel_rfl) (by kernel_rfl) (fun _ _ _ h => h) (Or.inl ⟨by rfl, ?_⟩) ?_
  · intro w; go_simp; all_goals (first | rfl | omega)
  refine wpAny_take (i := 24) (v := .string OX) rfl (by kernel_rfl) (by kernel_rfl) (by kernel_rfl) (fun _ _ _ h => h) (Or.inl ⟨by rfl, ?_⟩) ?_
  · intro w; go_simp; all_goals (first | rfl | omega)
  refine wpAny_ready (rs := [21]) (by kernel_rfl) (by simp) ?_
  refine AllReady.cons rfl (fun K hK => ?_) AllReady.nil
  go_simp
  refine hK _ _ ?_
  clear hK K
  refine wpAny_ready (rs := [22]) (by kernel_rfl) (by simp) ?_
  refine AllReady.cons rfl (fun K hK => ?_) AllReady.nil
  go_simp
  refine hK _ _ ?_
  clear hK K
  refine wpAny_take (i := 23) (v := .string (E1 ++ OZ ++ E2 ++ OY ++ E3 ++ ⟨#[52, 1]⟩ ++ K)) rfl (by kernel_rfl) (by kernel_rfl) (by kernel_rfl) (fun _ _ _ h => h) (Or.inl ⟨by rfl, ?_⟩) ?_
  · intro w; go_simp; all_goals (first | rfl | omega)
  refine wpAny_take (i := 25) (v := .string (E1 ++ OZ ++ E2 ++ OY ++ E3 ++ ⟨#[52, 1]⟩ ++ K ++ OX)) rfl (by kernel_rfl) (by kernel_rfl) (by kernel_rfl) (fun _ _ _ h => h) (Or.inl ⟨by rfl, ?_⟩) ?_
  · intro w; go_simp; all_goals (first | rfl | omega)
  refine wpAny_take (i := 26) (v := .string (E1 ++ OZ ++ E2 ++ OY ++ E3 ++ ⟨#[52, 1]⟩ ++ K ++ OX)) rfl (by kernel_rfl) (by kernel_rfl) (by kernel_rfl) (fun _ _ _ h => h) (Or.inl ⟨by rfl, ?_⟩) ?_
  · intro w; go_simp; all_goals (first | rfl | omega)
  refine wpAny_done (by kernel_rfl) ?_ _
  have B8 : Hid (Below w.heap.size w ((w7.drew).alloc (.cells #[.int .u8 1] 5))) := (bel_trans B7.out (below_drewN (Below.refl _ _) 1)).alloc B7.out.size _
  clear B7 p1 p2 p3 p4 p5 p6 p7 f1 f2 g1 g2 g3 g4 t2 t3 q1 q2 q3 hcv hcv2 eK sOX sOY sOZ
  go_wp2_with fail
  refine (HGET.out _).mono ?_; rintro e w8 ⟨⟨a8, c8, rfl, hO8⟩, hb⟩
  have hA : Below w8.heap.size w8 (w8.alloc (.cells #[.int .i64 1, .int .i64 0, .int .i64 0, .int .i64 0, .int .i64 0, .int .i64 0, .int .i64 0, .int .i64 0, .int .i64 0, .int .i64 0, .string ⟨#[]⟩, .slice a8 1 c8] 40)) := (Below.refl _ _).alloc (Nat.le_refl _) _
  have B9 : Hid (Below w.heap.size w (w8.alloc (.cells #[.int .i64 1, .int .i64 0, .int .i64 0, .int .i64 0, .int .i64 0, .int .i64 0, .int .i64 0, .int .i64 0, .int .i64 0, .int .i64 0, .string ⟨#[]⟩, .slice a8 1 c8] 40))) := bel_trans (bel_trans B8.out hb) hA
  have L9 : Hid (OpLies (w8.alloc (.cells #[.int .i64 1, .int .i64 0, .int .i64 0, .int .i64 0, .int .i64 0, .int .i64 0, .int .i64 0, .int .i64 0, .int .i64 0, .int .i64 0, .string ⟨#[]⟩, .slice a8 1 c8] 40)) a8 [(12, W)]) := hO8.rowlies.lies.below hA
  have c0 : (w8.alloc (.cells #[.int .i64 1, .int .i64 0, .int .i64 0, .int .i64 0, .int .i64 0, .int .i64 0, .int .i64 0, .int .i64 0, .int .i64 0, .int .i64 0, .string ⟨#[]⟩, .slice a8 1 c8] 40)).cell? ⟨w8.heap.size, 0, none⟩ = some (.int .i64 1) := new_cell _ _ _ _ _ rfl
  have c11 : (w8.alloc (.cells #[.int .i64 1, .int .i64 0, .int .i64 0, .int .i64 0, .int .i64 0, .int .i64 0, .int .i64 0, .int .i64 0, .int .i64 0, .int .i64 0, .string ⟨#[]⟩, .slice a8 1 c8] 40)).cell? ⟨w8.heap.size, 11, none⟩ = some (.slice a8 1 c8) := new_cell _ _ _ _ _ rfl
  clear hO8 hb hA B8 HGET
  go_wp2_with fail
  generalize w8.alloc (.cells #[.int .i64 1, .int .i64 0, .int .i64 0, .int .i64 0, .int .i64 0, .int .i64 0, .int .i64 0, .int .i64 0, .int .i64 0, .int .i64 0, .string ⟨#[]⟩, .slice a8 1 c8] 40) = w9 at *
  generalize w8.heap.size = q9 at *
  go_wp2_with (go_at_call 13; refine (num_any _ _).mono ?_; rintro e w10 ⟨rfl, rfl⟩)
  have hA : Below w10.heap.size w10 (w10.alloc (.cells #[.int .i64 12, .string (X ++ Y)] 25)) := (Below.refl _ _).alloc (Nat.le_refl _) _
  refine (HQ.out _ _ _ _ _ (L9.out.below hA) (ON.out w10)).mono ?_; rintro e w11 ⟨rfl, hb⟩
  have B11 : Hid (Below w.heap.size w w11) := bel_trans (bel_trans B9.out hA) hb
  have d0 : w11.cell? ⟨q9, 0, none⟩ = some (.int .i64 1) := ((bel_trans hA hb).cell (World.block_lt_of_cell? w10 _ c0)).trans c0
  clear hA hb B9 L9 c0 c11 HQ ON
  go_wp2
  go_ret
  exact ⟨rfl, B11.out⟩

set_option maxRecDepth 100000 in
set_option maxHeartbeats 4000000 in
theorem walk2 (a b c : ByteArray) (k0 : Int) (w : World) (ha : a.size ≤ 140737488351232) (hb : b.size ≤ 140737488351232) (hc : c.size ≤ 140737488351232) (hk : k0 % 4 % 3 = 1) : Calls Try.prog 7 #[.string a, .string b, .string c, .int .i64 k0] w fun e w' => e = .returned (.bool true) ∧ Below w.heap.size w w' := by
  have ma := min20 a.size
  have mb := min20 b.size
  have mc := min20 c.size
  obtain ⟨na, hna, la, la'⟩ : ∃ n, min a.size 20 = n ∧ n ≤ a.size ∧ n ≤ 20 := ⟨_, rfl, by omega, by omega⟩
  obtain ⟨nb, hnb, lb, lb'⟩ : ∃ n, min b.size 20 = n ∧ n ≤ b.size ∧ n ≤ 20 := ⟨_, rfl, by omega, by omega⟩
  obtain ⟨nc, hnc, lc, lc'⟩ : ∃ n, min c.size 20 = n ∧ n ≤ c.size ∧ n ≤ 20 := ⟨_, rfl, by omega, by omega⟩
  rw [hna] at ma
  rw [hnb] at mb
  rw [hnc] at mc
  have hx : (a.extract 0 na).size ≤ 20 := by rw [ByteArray.size_extract]; omega
  have hy : (b.extract 0 nb).size ≤ 20 := by rw [ByteArray.size_extract]; omega
  have hz : (c.extract 0 nc).size ≤ 20 := by rw [ByteArray.size_extract]; omega
  generalize hX : a.extract 0 na = X at *
  generalize hY : b.extract 0 nb = Y at *
  generalize hZ : c.extract 0 nc = Z at *
  have ja : (na : Int) ≤ (a.size : Int) := by omega
  have jb : (nb : Int) ≤ (b.size : Int) := by omega
  have jc : (nc : Int) ≤ (c.size : Int) := by omega
  have ia : (0 : Int) ≤ (na : Int) := by omega
  have ib : (0 : Int) ≤ (nb : Int) := by omega
  have ic : (0 : Int) ≤ (nc : Int) := by omega
  have hmask : bits .and .i64 k0 3 = k0 % 4 := i64_mask 2 k0 (by omega)
  have htm : (k0 % 4).tmod 3 = 1 := by rw [Int.tmod_eq_emod_of_nonneg (by omega)]; exact hk
  have HB : Hid (∀ w, _) := fun w => pPut_is pkB none 0 textB 0 w (.inl rfl) (by unfold maxLen; decide) pkB_put
  have O1 : Hid (∀ w, _) := fun w => one_c X w hx
  have O2 : Hid (∀ w, _) := fun w => one_c Y w hy
  have O3 : Hid (∀ w, _) := fun w => one_c Z w hz
  have sX : (mk (oneL (bs X))).size = X.size + 3 := by rw [size_mk]; simp [oneL, length_bs]
  have sY : (mk (oneL (bs Y))).size = Y.size + 3 := by rw [size_mk]; simp [oneL, length_bs]
  have sZ : (mk (oneL (bs Z))).size = Z.size + 3 := by rw [size_mk]; simp [oneL, length_bs]
  have hcv : ∀ w, _ := fun w => conv_one 2 w
  have HG := parts_get 2 (by omega) X Y Z (mk (oneL (bs Z))) (mk (oneL (bs Y))) (⟨#[52, 1]⟩ ++ str [2] ++ mk (oneL (bs X))) hx hy hz (bs_mk _) (bs_mk _) (by rw [bs_cat, bs_cat, bs_mk]; rfl)
  have hw : mk (wantL 2 (bs X) (bs Y) (bs Z)) = X ++ Z := by apply bs_inj; rw [bs_mk]; simp [wantL, bs_cat]
  have e52 : (⟨#[52, 1]⟩ : ByteArray).size = 2 := rfl
  have eK : (str [2]).size = 1 := by rw [size_str]; rfl
  have tB := textB_size
  generalize str [(2 : Int)] = K at *
  generalize mk (oneL (bs X)) = OX at *
  generalize mk (oneL (bs Y)) = OY at *
  generalize mk (oneL (bs Z)) = OZ at *
  generalize textB = T at *
  have q1 : (T.extract 0 44).size = 44 := by rw [ByteArray.size_extract]; omega
  have q2 : (T.extract (44 + OZ.size) 108).size ≤ 64 := by rw [ByteArray.size_extract]; omega
  have q3 : (T.extract (108 + OY.size) 240).size ≤ 132 := by rw [ByteArray.size_extract]; omega
  have r2 : (44 + (OZ.size : Int)).toNat = 44 + OZ.size := by omega
  have r3 : (108 + (OY.size : Int)).toNat = 108 + OY.size := by omega
  have t2 : T.extract (44 + (OZ.size : Int)).toNat 108 = T.extract (44 + OZ.size) 108 := by rw [r2]
  have t3 : T.extract (108 + (OY.size : Int)).toNat 240 = T.extract (108 + OY.size) 240 := by rw [r3]
  clear r2 r3
  generalize hE1 : T.extract 0 44 = E1 at *
  generalize hE2 : T.extract (44 + OZ.size) 108 = E2 at *
  generalize hE3 : T.extract (108 + OY.size) 240 = E3 at *
  have hassoc : E1 ++ OZ ++ E2 ++ OY ++ E3 ++ (⟨#[52, 1]⟩ ++ K ++ OX) = E1 ++ OZ ++ E2 ++ OY ++ E3 ++ ⟨#[52, 1]⟩ ++ K ++ OX := by simp only [ByteArray.append_assoc]
  rw [hassoc] at HG
  have HGET : Hid (∀ w, _) := fun w => pGet_yes _ _ w (by simp only [ByteArray.size_append]; omega) HG
  have p1 : ¬ 9223372036854775807 < E1.size + OZ.size := by omega
  have p2 : ¬ 9223372036854775807 < E1.size + OZ.size + E2.size := by omega
  have p3 : ¬ 9223372036854775807 < E1.size + OZ.size + E2.size + OY.size := by omega
  have p4 : ¬ 9223372036854775807 < E1.size + OZ.size + E2.size + OY.size + E3.size := by omega
  have p5 : ¬ 9223372036854775807 < E1.size + OZ.size + E2.size + OY.size + E3.size + 2 := by omega
  have p6 : ¬ 9223372036854775807 < E1.size + OZ.size + E2.size + OY.size + E3.size + 2 + K.size := by omega
  have p7 : ¬ 9223372036854775807 < E1.size + OZ.size + E2.size + OY.size + E3.size + 2 + K.size + OX.size := by omega
  have p8 : ¬ 9223372036854775807 < X.size + Y.size := by omega
  have p9 : ¬ 9223372036854775807 < X.size + Z.size := by omega
  have p10 : ¬ 9223372036854775807 < X.size + Y.size + Z.size := by omega
  have f1 : IntKind.i64.wrap (44 + (OZ.size : Int)) = 44 + (OZ.size : Int) := wrap_in _ (by omega) (by omega)
  have f2 : IntKind.i64.wrap (108 + (OY.size : Int)) = 108 + (OY.size : Int) := wrap_in _ (by omega) (by omega)
  have g1 : 44 + (OZ.size : Int) ≤ 108 := by omega
  have g2 : 108 + (OY.size : Int) ≤ 240 := by omega
  have g3 : (0 : Int) ≤ 44 + (OZ.size : Int) := by omega
  have g4 : (0 : Int) ≤ 108 + (OY.size : Int) := by omega
  have HQ : Hid (∀ (a a2 : Option Addr) (c c2 : Nat) (w : World), OpLies w a [(12, wantL 2 (bs X) (bs Y) (bs Z))] → OpLies w a2 [(12, wantL 2 (bs X) (bs Y) (bs Z))] → _) := fun a a2 c c2 w h1 h2 => sameOp_c a a2 1 1 c c2 [(12, wantL 2 (bs X) (bs Y) (bs Z))] w rfl rfl (by simp) h1 h2
  have ON : Hid (∀ w : World, OpLies (w.alloc (.cells #[.int .i64 12, .string (X ++ Z)] 25)) (some ⟨w.heap.size, 0, none⟩) [(12, wantL 2 (bs X) (bs Y) (bs Z))]) := fun w => by
    have := op_new w 12 (X ++ Z) 25
    rw [← hw, bs_mk] at this
    rw [← hw]; exact this
  generalize wantL 2 (bs X) (bs Y) (bs Z) = W at *
  have sOX : OX.size ≤ 23 := by omega
  have sOY : OY.size ≤ 23 := by omega
  have sOZ : OZ.size ≤ 23 := by omega
  have HH := And.intro p1 (And.intro p2 (And.intro p3 (And.intro p4 (And.intro p5 (And.intro p6 (And.intro p7 (And.intro p8 (And.intro p9 (And.intro p10 (And.intro f1 (And.intro f2 (And.intro g1 (And.intro g2 (And.intro g3 (And.intro g4 (And.intro t2 (And.intro t3 (And.intro q1 (And.intro q2 (And.intro q3 (And.intro sOX (And.intro sOY (And.intro sOZ eK)))))))))))))))))))))))
  have HI : Hid (_) := HH
  clear sOX sOY sOZ HH p1 p2 p3 p4 p5 p6 p7 p8 p9 p10 f1 f2 g1 g2 g3 g4 t2 t3 q1 q2 q3 sX sY sZ e52 eK hx hy hz la la' lb lb' lc lc'
  clear hna hnb hnc hassoc HG hw ha hb hc
  simp only [pv, cellsP, pkB, List.length_cons, List.length_nil] at HB HGET
  go_enter Try.func7, Try.ntmps7
  go_wp2_with fail
  refine (awake7_yes _).mono ?_; rintro e w1 ⟨rfl, hb1⟩
  have B1 : Hid (Below w.heap.size w w1) := hb1
  clear hb1
  go_wp2_with fail
  refine wp_region_quiet_lit (by kernel_rfl) (by kernel_rfl) ?_
  repeat (first | go_big_quiet_skip | (go_big_quiet_want; go_big_quiet_op; go_big_quiet_on))
  refine wpQuiet_nil ?_
  intro _ hw'
  obtain ⟨nq, hw''⟩ := hw'
  subst hw''
  have B2 : Hid (Below w.heap.size w (w1.drewN nq)) := bel_trans B1.out (below_drewN (Below.refl _ _) nq)
  clear B1
  go_wp2_with fail
  generalize w1.drewN nq = w2 at *
  refine (HB.out _).mono ?_; rintro e w3 ⟨rfl, hb⟩
  have B3 : Hid (Below w.heap.size w w3) := bel_trans B2.out hb
  clear hb B2 HB
  go_wp2_with (go_at_call 13; refine (num_any _ _).mono ?_; rintro e w4 ⟨rfl, rfl⟩)
  refine (O1.out _).mono ?_; rintro e w5 ⟨rfl, hb⟩
  have B5 : Hid (Below w.heap.size w w5) := bel_trans B3.out hb
  clear hb B3 O1
  go_wp2_with fail
  refine (O2.out _).mono ?_; rintro e w6 ⟨rfl, hb⟩
  have B6 : Hid (Below w.heap.size w w6) := bel_trans B5.out hb
  clear hb B5 O2
  go_wp2_with fail
  refine (O3.out _).mono ?_; rintro e w7 ⟨rfl, hb⟩
  have B7 : Hid (Below w.heap.size w w7) := bel_trans B6.out hb
  clear hb B6 O3
  go_wp2_with fail
  obtain ⟨p1, p2, p3, p4, p5, p6, p7, p8, p9, p10, f1, f2, g1, g2, g3, g4, t2, t3, q1, q2, q3, sOX, sOY, sOZ, eK⟩ := HI.out
  clear HI
  have hcv2 : ∀ w : World, (convert 26 9 (.slice (some ⟨w.heap.size, 0, none⟩) 1 1)).run Try.prog ((w.alloc (.cells #[.int .u8 2] 5)).drew) = .ok (.string K) ((w.alloc (.cells #[.int .u8 2] 5)).drew) := fun w => hcv w.drew
  refine wp_region_any (by kernel_rfl) ?_
  change wpAny _ _ _ _ _ _ _ (World.drew _)
  refine wpAny_take (i := 0) (v := .string T) rfl (by kernel_rfl) (by kernel_rfl) (by kernel_rfl) (fun _ _ _ h => h) (Or.inl ⟨by rfl, ?_⟩) ?_
  · intro w; go_simp; all_goals (first | rfl | omega)
  refine wpAny_take (i := 1) (v := .string E1) rfl (by kernel_rfl) (by kernel_rfl) (by kernel_rfl) (fun _ _ _ h => h) (Or.inl ⟨by rfl, ?_⟩) ?_
  · intro w; go_simp; all_goals (first | rfl | omega)
  refine wpAny_take (i := 2) (v := .string OZ) rfl (by kernel_rfl) (by kernel_rfl) (by kernel_rfl) (fun _ _ _ h => h) (Or.inl ⟨by rfl, ?_⟩) ?_
  · intro w; go_simp; all_goals (first | rfl | omega)
  refine wpAny_take (i := 3) (v := .string (E1 ++ OZ)) rfl (by kernel_rfl) (by kernel_rfl) (by kernel_rfl) (fun _ _ _ h => h) (Or.inl ⟨by rfl, ?_⟩) ?_
  · intro w; go_simp; all_goals (first | rfl | omega)
  refine wpAny_take (i := 4) (v := .string T) rfl (by kernel_rfl) (by kernel_rfl) (by kernel_rfl) (fun _ _ _ h => h) (Or.inl ⟨by rfl, ?_⟩) ?_
  · intro w; go_simp; all_goals (first | rfl | omega)
  refine wpAny_take (i := 5) (v := .string OZ) rfl (by kernel_rfl) (by kernel_rfl) (by kernel_rfl) (fun _ _ _ h => h) (Or.inl ⟨by rfl, ?_⟩) ?_
  · intro w; go_simp; all_goals (first | rfl | omega)
  refine wpAny_take (i := 6) (v := .int .i64 (OZ.size : Int)) rfl (by kernel_rfl) (by kernel_rfl) (by kernel_rfl) (fun _ _ _ h => h) (Or.inl ⟨by rfl, ?_⟩) ?_
  · intro w; go_simp; all_goals (first | rfl | omega)
  refine wpAny_take (i := 7) (v := .int .i64 (44 + (OZ.size : Int))) rfl (by kernel_rfl) (by kernel_rfl) (by kernel_rfl) (fun _ _ _ h => h) (Or.inl ⟨by rfl, ?_⟩) ?_
  · intro w; go_simp; all_goals (first | rfl | omega)
  refine wpAny_take (i := 8) (v := .string E2) rfl (by kernel_rfl) (by kernel_rfl) (by kernel_rfl) (fun _ _ _ h => h) (Or.inl ⟨by rfl, ?_⟩) ?_
  · intro w; go_simp; all_goals (first | rfl | omega)
  refine wpAny_take (i := 9) (v := .string (E1 ++ OZ ++ E2)) rfl (by kernel_rfl) (by kernel_rfl) (by kernel_rfl) (fun _ _ _ h => h) (Or.inl ⟨by rfl, ?_⟩) ?_
  · intro w; go_simp; all_goals (first | rfl | omega)
  refine wpAny_take (i := 10) (v := .string OY) rfl (by kernel_rfl) (by kernel_rfl) (by kernel_rfl) (fun _ _ _ h => h) (Or.inl ⟨by rfl, ?_⟩) ?_
  · intro w; go_simp; all_goals (first | rfl | omega)
  refine wpAny_take (i := 11) (v := .string (E1 ++ OZ ++ E2 ++ OY)) rfl (by kernel_rfl) (by kernel_rfl) (by kernel_rfl) (fun _ _ _ h => h) (Or.inl ⟨by rfl, ?_⟩) ?_
  · intro w; go_simp; all_goals (first | rfl | omega)
  refine wpAny_take (i := 12) (v := .string T) rfl (by kernel_rfl) (by kernel_rfl) (by kernel_rfl) (fun _ _ _ h => h) (Or.inl ⟨by rfl, ?_⟩) ?_
  · intro w; go_simp; all_goals (first | rfl | omega)
  refine wpAny_take (i := 13) (v := .string OY) rfl (by kernel_rfl) (by kernel_rfl) (by kernel_rfl) (fun _ _ _ h => h) (Or.inl ⟨by rfl, ?_⟩) ?_
  · intro w; go_simp; all_goals (first | rfl | omega)
  refine wpAny_take (i := 14) (v := .int .i64 (OY.size : Int)) rfl (by kernel_rfl) (by kernel_rfl) (by kernel_rfl) (fun _ _ _ h => h) (Or.inl ⟨by rfl, ?_⟩) ?_
  · intro w; go_simp; all_goals (first | rfl | omega)
  refine wpAny_take (i := 15) (v := .int .i64 (108 + (OY.size : Int))) rfl (by kernel_rfl) (by kernel_rfl) (by kernel_rfl) (fun _ _ _ h => h) (Or.inl ⟨by rfl, ?_⟩) ?_
  · intro w; go_simp; all_goals (first | rfl | omega)
  refine wpAny_take (i := 16) (v := .string E3) rfl (by kernel_rfl) (by kernel_rfl) (by kernel_rfl) (fun _ _ _ h => h) (Or.inl ⟨by rfl, ?_⟩) ?_
  · intro w; go_simp; all_goals (first | rfl | omega)
  refine wpAny_take (i := 17) (v := .string (E1 ++ OZ ++ E2 ++ OY ++ E3)) rfl (by kernel_rfl) (by kernel_rfl) (by kernel_rfl) (fun _ _ _ h => h) (Or.inl ⟨by rfl, ?_⟩) ?_
  · intro w; go_simp; all_goals (first | rfl | omega)
  refine wpAny_take (i := 18) (v := .string (E1 ++ OZ ++ E2 ++ OY ++ E3 ++ ⟨#[52, 1]⟩)) rfl (by kernel_rfl) (by kernel_rfl) (by kernel_rfl) (fun _ _ _ h => h) (Or.inl ⟨by rfl, ?_⟩) ?_
  · intro w; go_simp; all_goals (first | rfl | omega)
  refine wpAny_take (i := 19) (v := .int .i64 2) rfl (by kernel_rfl) (by kernel_rfl) (by kernel_rfl) (fun _ _ _ h => h) (Or.inl ⟨by rfl, ?_⟩) ?_
  · intro w; go_simp; all_goals (first | rfl | omega)
  refine wpAny_take (i := 20) (v := .int .u8 2) rfl (by kernel_rfl) (by kernel_rfl) (by kernel_rfl) (fun _ _ _ h => h) (Or.inl ⟨by rfl, ?_⟩) ?_
  · intro w; go_simp; all_goals (first | rfl | omega)
  refine wpAny_take (i := 24) (v := .string OX) rfl (by kernel_rfl) (by kernel_rfl) (by kernel_rfl) (fun _ _ _ h => h) (Or.inl ⟨by rfl, ?_⟩) ?_
  · intro w; go_simp; all_goals (first | rfl | omega)
  refine wpAny_ready (rs := [21]) (by kernel_rfl) (by simp) ?_
  refine AllReady.cons rfl (fun K hK => ?_) AllReady.nil
  go_simp
  refine hK _ _ ?_
  clear hK K
  refine wpAny_ready (rs := [22]) (by kernel_rfl) (by simp) ?_
  refine AllReady.cons rfl (fun K hK => ?_) AllReady.nil
  go_simp
  refine hK _ _ ?_
  clear hK K
  refine wpAny_take (i := 23) (v := .string (E1 ++ OZ ++ E2 ++ OY ++ E3 ++ ⟨#[52, 1]⟩ ++ K)) rfl (by kernel_rfl) (by kernel_rfl) (by kernel_rfl) (fun _ _ _ h => h) (Or.inl ⟨by rfl, ?_⟩) ?_
  · intro w; go_simp; all_goals (first | rfl | omega)
  refine wpAny_take (i := 25) (v := .string (E1 ++ OZ ++ E2 ++ OY ++ E3 ++ ⟨#[52, 1]⟩ ++ K ++ OX)) rfl (by kernel_rfl) (by kernel_rfl) (by kernel_rfl) (fun _ _ _ h => h) (Or.inl ⟨by rfl, ?_⟩) ?_
  · intro w; go_simp; all_goals (first | rfl | omega)
  refine wpAny_take (i := 26) (v := .string (E1 ++ OZ ++ E2 ++ OY ++ E3 ++ ⟨#[52, 1]⟩ ++ K ++ OX)) rfl (by kernel_rfl) (by kernel_rfl) (by kernel_rfl) (fun _ _ _ h => h) (Or.inl ⟨by rfl, ?_⟩) ?_
  · intro w; go_simp; all_goals (first | rfl | omega)
  refine wpAny_done (by kernel_rfl) ?_ _
  have B8 : Hid (Below w.heap.size w ((w7.drew).alloc (.cells #[.int .u8 2] 5))) := (bel_trans B7.out (below_drewN (Below.refl _ _) 1)).alloc B7.out.size _
  clear B7 p1 p2 p3 p4 p5 p6 p7 f1 f2 g1 g2 g3 g4 t2 t3 q1 q2 q3 hcv hcv2 eK sOX sOY sOZ
  go_wp2_with fail
  refine (HGET.out _).mono ?_; rintro e w8 ⟨⟨a8, c8, rfl, hO8⟩, hb⟩
  have hA : Below w8.heap.size w8 (w8.alloc (.cells #[.int .i64 1, .int .i64 0, .int .i64 0, .int .i64 0, .int .i64 0, .int .i64 0, .int .i64 0, .int .i64 0, .int .i64 0, .int .i64 0, .string ⟨#[]⟩, .slice a8 1 c8] 40)) := (Below.refl _ _).alloc (Nat.le_refl _) _
  have B9 : Hid (Below w.heap.size w (w8.alloc (.cells #[.int .i64 1, .int .i64 0, .int .i64 0, .int .i64 0, .int .i64 0, .int .i64 0, .int .i64 0, .int .i64 0, .int .i64 0, .int .i64 0, .string ⟨#[]⟩, .slice a8 1 c8] 40))) := bel_trans (bel_trans B8.out hb) hA
  have L9 : Hid (OpLies (w8.alloc (.cells #[.int .i64 1, .int .i64 0, .int .i64 0, .int .i64 0, .int .i64 0, .int .i64 0, .int .i64 0, .int .i64 0, .int .i64 0, .int .i64 0, .string ⟨#[]⟩, .slice a8 1 c8] 40)) a8 [(12, W)]) := hO8.rowlies.lies.below hA
  have c0 : (w8.alloc (.cells #[.int .i64 1, .int .i64 0, .int .i64 0, .int .i64 0, .int .i64 0, .int .i64 0, .int .i64 0, .int .i64 0, .int .i64 0, .int .i64 0, .string ⟨#[]⟩, .slice a8 1 c8] 40)).cell? ⟨w8.heap.size, 0, none⟩ = some (.int .i64 1) := new_cell _ _ _ _ _ rfl
  have c11 : (w8.alloc (.cells #[.int .i64 1, .int .i64 0, .int .i64 0, .int .i64 0, .int .i64 0, .int .i64 0, .int .i64 0, .int .i64 0, .int .i64 0, .int .i64 0, .string ⟨#[]⟩, .slice a8 1 c8] 40)).cell? ⟨w8.heap.size, 11, none⟩ = some (.slice a8 1 c8) := new_cell _ _ _ _ _ rfl
  clear hO8 hb hA B8 HGET
  go_wp2_with fail
  generalize w8.alloc (.cells #[.int .i64 1, .int .i64 0, .int .i64 0, .int .i64 0, .int .i64 0, .int .i64 0, .int .i64 0, .int .i64 0, .int .i64 0, .int .i64 0, .string ⟨#[]⟩, .slice a8 1 c8] 40) = w9 at *
  generalize w8.heap.size = q9 at *
  go_wp2_with (go_at_call 13; refine (num_any _ _).mono ?_; rintro e w10 ⟨rfl, rfl⟩)
  have hA : Below w10.heap.size w10 (w10.alloc (.cells #[.int .i64 12, .string (X ++ Z)] 25)) := (Below.refl _ _).alloc (Nat.le_refl _) _
  refine (HQ.out _ _ _ _ _ (L9.out.below hA) (ON.out w10)).mono ?_; rintro e w11 ⟨rfl, hb⟩
  have B11 : Hid (Below w.heap.size w w11) := bel_trans (bel_trans B9.out hA) hb
  have d0 : w11.cell? ⟨q9, 0, none⟩ = some (.int .i64 1) := ((bel_trans hA hb).cell (World.block_lt_of_cell? w10 _ c0)).trans c0
  clear hA hb B9 L9 c0 c11 HQ ON
  go_wp2
  go_ret
  exact ⟨rfl, B11.out⟩

set_option maxRecDepth 100000 in
set_option maxHeartbeats 4000000 in
theorem walk3 (a b c : ByteArray) (k0 : Int) (w : World) (ha : a.size ≤ 140737488351232) (hb : b.size ≤ 140737488351232) (hc : c.size ≤ 140737488351232) (hk : k0 % 4 % 3 = 2) : Calls Try.prog 7 #[.string a, .string b, .string c, .int .i64 k0] w fun e w' => e = .returned (.bool true) ∧ Below w.heap.size w w' := by
  have ma := min20 a.size
  have mb := min20 b.size
  have mc := min20 c.size
  obtain ⟨na, hna, la, la'⟩ : ∃ n, min a.size 20 = n ∧ n ≤ a.size ∧ n ≤ 20 := ⟨_, rfl, by omega, by omega⟩
  obtain ⟨nb, hnb, lb, lb'⟩ : ∃ n, min b.size 20 = n ∧ n ≤ b.size ∧ n ≤ 20 := ⟨_, rfl, by omega, by omega⟩
  obtain ⟨nc, hnc, lc, lc'⟩ : ∃ n, min c.size 20 = n ∧ n ≤ c.size ∧ n ≤ 20 := ⟨_, rfl, by omega, by omega⟩
  rw [hna] at ma
  rw [hnb] at mb
  rw [hnc] at mc
  have hx : (a.extract 0 na).size ≤ 20 := by rw [ByteArray.size_extract]; omega
  have hy : (b.extract 0 nb).size ≤ 20 := by rw [ByteArray.size_extract]; omega
  have hz : (c.extract 0 nc).size ≤ 20 := by rw [ByteArray.size_extract]; omega
  generalize hX : a.extract 0 na = X at *
  generalize hY : b.extract 0 nb = Y at *
  generalize hZ : c.extract 0 nc = Z at *
  have ja : (na : Int) ≤ (a.size : Int) := by omega
  have jb : (nb : Int) ≤ (b.size : Int) := by omega
  have jc : (nc : Int) ≤ (c.size : Int) := by omega
  have ia : (0 : Int) ≤ (na : Int) := by omega
  have ib : (0 : Int) ≤ (nb : Int) := by omega
  have ic : (0 : Int) ≤ (nc : Int) := by omega
  have hmask : bits .and .i64 k0 3 = k0 % 4 := i64_mask 2 k0 (by omega)
  have htm : (k0 % 4).tmod 3 = 2 := by rw [Int.tmod_eq_emod_of_nonneg (by omega)]; exact hk
  have HB : Hid (∀ w, _) := fun w => pPut_is pkB none 0 textB 0 w (.inl rfl) (by unfold maxLen; decide) pkB_put
  have O1 : Hid (∀ w, _) := fun w => one_c X w hx
  have O2 : Hid (∀ w, _) := fun w => one_c Y w hy
  have O3 : Hid (∀ w, _) := fun w => one_c Z w hz
  have sX : (mk (oneL (bs X))).size = X.size + 3 := by rw [size_mk]; simp [oneL, length_bs]
  have sY : (mk (oneL (bs Y))).size = Y.size + 3 := by rw [size_mk]; simp [oneL, length_bs]
  have sZ : (mk (oneL (bs Z))).size = Z.size + 3 := by rw [size_mk]; simp [oneL, length_bs]
  have hcv : ∀ w, _ := fun w => conv_one 3 w
  have HG := parts_get 3 (by omega) X Y Z (mk (oneL (bs Z))) (mk (oneL (bs Y))) (⟨#[52, 1]⟩ ++ str [3] ++ mk (oneL (bs X))) hx hy hz (bs_mk _) (bs_mk _) (by rw [bs_cat, bs_cat, bs_mk]; rfl)
  have hw : mk (wantL 3 (bs X) (bs Y) (bs Z)) = X ++ Y ++ Z := by apply bs_inj; rw [bs_mk]; simp [wantL, bs_cat]
  have e52 : (⟨#[52, 1]⟩ : ByteArray).size = 2 := rfl
  have eK : (str [3]).size = 1 := by rw [size_str]; rfl
  have tB := textB_size
  generalize str [(3 : Int)] = K at *
  generalize mk (oneL (bs X)) = OX at *
  generalize mk (oneL (bs Y)) = OY at *
  generalize mk (oneL (bs Z)) = OZ at *
  generalize textB = T at *
  have q1 : (T.extract 0 44).size = 44 := by rw [ByteArray.size_extract]; omega
  have q2 : (T.extract (44 + OZ.size) 108).size ≤ 64 := by rw [ByteArray.size_extract]; omega
  have q3 : (T.extract (108 + OY.size) 240).size ≤ 132 := by rw [ByteArray.size_extract]; omega
  have r2 : (44 + (OZ.size : Int)).toNat = 44 + OZ.size := by omega
  have r3 : (108 + (OY.size : Int)).toNat = 108 + OY.size := by omega
  have t2 : T.extract (44 + (OZ.size : Int)).toNat 108 = T.extract (44 + OZ.size) 108 := by rw [r2]
  have t3 : T.extract (108 + (OY.size : Int)).toNat 240 = T.extract (108 + OY.size) 240 := by rw [r3]
  clear r2 r3
  generalize hE1 : T.extract 0 44 = E1 at *
  generalize hE2 : T.extract (44 + OZ.size) 108 = E2 at *
  generalize hE3 : T.extract (108 + OY.size) 240 = E3 at *
  have hassoc : E1 ++ OZ ++ E2 ++ OY ++ E3 ++ (⟨#[52, 1]⟩ ++ K ++ OX) = E1 ++ OZ ++ E2 ++ OY ++ E3 ++ ⟨#[52, 1]⟩ ++ K ++ OX := by simp only [ByteArray.append_assoc]
  rw [hassoc] at HG
  have HGET : Hid (∀ w, _) := fun w => pGet_yes _ _ w (by simp only [ByteArray.size_append]; omega) HG
  have p1 : ¬ 9223372036854775807 < E1.size + OZ.size := by omega
  have p2 : ¬ 9223372036854775807 < E1.size + OZ.size + E2.size := by omega
  have p3 : ¬ 9223372036854775807 < E1.size + OZ.size + E2.size + OY.size := by omega
  have p4 : ¬ 9223372036854775807 < E1.size + OZ.size + E2.size + OY.size + E3.size := by omega
  have p5 : ¬ 9223372036854775807 < E1.size + OZ.size + E2.size + OY.size + E3.size + 2 := by omega
  have p6 : ¬ 9223372036854775807 < E1.size + OZ.size + E2.size + OY.size + E3.size + 2 + K.size := by omega
  have p7 : ¬ 9223372036854775807 < E1.size + OZ.size + E2.size + OY.size + E3.size + 2 + K.size + OX.size := by omega
  have p8 : ¬ 9223372036854775807 < X.size + Y.size := by omega
  have p9 : ¬ 9223372036854775807 < X.size + Z.size := by omega
  have p10 : ¬ 9223372036854775807 < X.size + Y.size + Z.size := by omega
  have f1 : IntKind.i64.wrap (44 + (OZ.size : Int)) = 44 + (OZ.size : Int) := wrap_in _ (by omega) (by omega)
  have f2 : IntKind.i64.wrap (108 + (OY.size : Int)) = 108 + (OY.size : Int) := wrap_in _ (by omega) (by omega)
  have g1 : 44 + (OZ.size : Int) ≤ 108 := by omega
  have g2 : 108 + (OY.size : Int) ≤ 240 := by omega
  have g3 : (0 : Int) ≤ 44 + (OZ.size : Int) := by omega
  have g4 : (0 : Int) ≤ 108 + (OY.size : Int) := by omega
  have HQ : Hid (∀ (a a2 : Option Addr) (c c2 : Nat) (w : World), OpLies w a [(12, wantL 3 (bs X) (bs Y) (bs Z))] → OpLies w a2 [(12, wantL 3 (bs X) (bs Y) (bs Z))] → _) := fun a a2 c c2 w h1 h2 => sameOp_c a a2 1 1 c c2 [(12, wantL 3 (bs X) (bs Y) (bs Z))] w rfl rfl (by simp) h1 h2
  have ON : Hid (∀ w : World, OpLies (w.alloc (.cells #[.int .i64 12, .string (X ++ Y ++ Z)] 25)) (some ⟨w.heap.size, 0, none⟩) [(12, wantL 3 (bs X) (bs Y) (bs Z))]) := fun w => by
    have := op_new w 12 (X ++ Y ++ Z) 25
    rw [← hw, bs_mk] at this
    rw [← hw]; exact this
  generalize wantL 3 (bs X) (bs Y) (bs Z) = W at *
  have sOX : OX.size ≤ 23 := by omega
  have sOY : OY.size ≤ 23 := by omega
  have sOZ : OZ.size ≤ 23 := by omega
  have HH := And.intro p1 (And.intro p2 (And.intro p3 (And.intro p4 (And.intro p5 (And.intro p6 (And.intro p7 (And.intro p8 (And.intro p9 (And.intro p10 (And.intro f1 (And.intro f2 (And.intro g1 (And.intro g2 (And.intro g3 (And.intro g4 (And.intro t2 (And.intro t3 (And.intro q1 (And.intro q2 (And.intro q3 (And.intro sOX (And.intro sOY (And.intro sOZ eK)))))))))))))))))))))))
  have HI : Hid (_) := HH
  clear sOX sOY sOZ HH p1 p2 p3 p4 p5 p6 p7 p8 p9 p10 f1 f2 g1 g2 g3 g4 t2 t3 q1 q2 q3 sX sY sZ e52 eK hx hy hz la la' lb lb' lc lc'
  clear hna hnb hnc hassoc HG hw ha hb hc
  simp only [pv, cellsP, pkB, List.length_cons, List.length_nil] at HB HGET
  go_enter Try.func7, Try.ntmps7
  go_wp2_with fail
  refine (awake7_yes _).mono ?_; rintro e w1 ⟨rfl, hb1⟩
  have B1 : Hid (Below w.heap.size w w1) := hb1
  clear hb1
  go_wp2_with fail
  refine wp_region_quiet_lit (by kernel_rfl) (by kernel_rfl) ?_
  repeat (first | go_big_quiet_skip | (go_big_quiet_want; go_big_quiet_op; go_big_quiet_on))
  refine wpQuiet_nil ?_
  intro _ hw'
  obtain ⟨nq, hw''⟩ := hw'
  subst hw''
  have B2 : Hid (Below w.heap.size w (w1.drewN nq)) := bel_trans B1.out (below_drewN (Below.refl _ _) nq)
  clear B1
  go_wp2_with fail
  generalize w1.drewN nq = w2 at *
  refine (HB.out _).mono ?_; rintro e w3 ⟨rfl, hb⟩
  have B3 : Hid (Below w.heap.size w w3) := bel_trans B2.out hb
  clear hb B2 HB
  go_wp2_with (go_at_call 13; refine (num_any _ _).mono ?_; rintro e w4 ⟨rfl, rfl⟩)
  refine (O1.out _).mono ?_; rintro e w5 ⟨rfl, hb⟩
  have B5 : Hid (Below w.heap.size w w5) := bel_trans B3.out hb
  clear hb B3 O1
  go_wp2_with fail
  refine (O2.out _).mono ?_; rintro e w6 ⟨rfl, hb⟩
  have B6 : Hid (Below w.heap.size w w6) := bel_trans B5.out hb
  clear hb B5 O2
  go_wp2_with fail
  refine (O3.out _).mono ?_; rintro e w7 ⟨rfl, hb⟩
  have B7 : Hid (Below w.heap.size w w7) := bel_trans B6.out hb
  clear hb B6 O3
  go_wp2_with fail
  obtain ⟨p1, p2, p3, p4, p5, p6, p7, p8, p9, p10, f1, f2, g1, g2, g3, g4, t2, t3, q1, q2, q3, sOX, sOY, sOZ, eK⟩ := HI.out
  clear HI
  have hcv2 : ∀ w : World, (convert 26 9 (.slice (some ⟨w.heap.size, 0, none⟩) 1 1)).run Try.prog ((w.alloc (.cells #[.int .u8 3] 5)).drew) = .ok (.string K) ((w.alloc (.cells #[.int .u8 3] 5)).drew) := fun w => hcv w.drew
  refine wp_region_any (by kernel_rfl) ?_
  change wpAny _ _ _ _ _ _ _ (World.drew _)
  refine wpAny_take (i := 0) (v := .string T) rfl (by kernel_rfl) (by kernel_rfl) (by kernel_rfl) (fun _ _ _ h => h) (Or.inl ⟨by rfl, ?_⟩) ?_
  · intro w; go_simp; all_goals (first | rfl | omega)
  refine wpAny_take (i := 1) (v := .string E1) rfl (by kernel_rfl) (by kernel_rfl) (by kernel_rfl) (fun _ _ _ h => h) (Or.inl ⟨by rfl, ?_⟩) ?_
  · intro w; go_simp; all_goals (first | rfl | omega)
  refine wpAny_take (i := 2) (v := .string OZ) rfl (by kernel_rfl) (by kernel_rfl) (by kernel_rfl) (fun _ _ _ h => h) (Or.inl ⟨by rfl, ?_⟩) ?_
  · intro w; go_simp; all_goals (first | rfl | omega)
  refine wpAny_take (i := 3) (v := .string (E1 ++ OZ)) rfl (by kernel_rfl) (by kernel_rfl) (by kernel_rfl) (fun _ _ _ h => h) (Or.inl ⟨by rfl, ?_⟩) ?_
  · intro w; go_simp; all_goals (first | rfl | omega)
  refine wpAny_take (i := 4) (v := .string T) rfl (by kernel_rfl) (by kernel_rfl) (by kernel_rfl) (fun _ _ _ h => h) (Or.inl ⟨by rfl, ?_⟩) ?_
  · intro w; go_simp; all_goals (first | rfl | omega)
  refine wpAny_take (i := 5) (v := .string OZ) rfl (by kernel_rfl) (by kernel_rfl) (by kernel_rfl) (fun _ _ _ h => h) (Or.inl ⟨by rfl, ?_⟩) ?_
  · intro w; go_simp; all_goals (first | rfl | omega)
  refine wpAny_take (i := 6) (v := .int .i64 (OZ.size : Int)) rfl (by kernel_rfl) (by kernel_rfl) (by kernel_rfl) (fun _ _ _ h => h) (Or.inl ⟨by rfl, ?_⟩) ?_
  · intro w; go_simp; all_goals (first | rfl | omega)
  refine wpAny_take (i := 7) (v := .int .i64 (44 + (OZ.size : Int))) rfl (by kernel_rfl) (by kernel_rfl) (by kernel_rfl) (fun _ _ _ h => h) (Or.inl ⟨by rfl, ?_⟩) ?_
  · intro w; go_simp; all_goals (first | rfl | omega)
  refine wpAny_take (i := 8) (v := .string E2) rfl (by kernel_rfl) (by kernel_rfl) (by kernel_rfl) (fun _ _ _ h => h) (Or.inl ⟨by rfl, ?_⟩) ?_
  · intro w; go_simp; all_goals (first | rfl | omega)
  refine wpAny_take (i := 9) (v := .string (E1 ++ OZ ++ E2)) rfl (by kernel_rfl) (by kernel_rfl) (by kernel_rfl) (fun _ _ _ h => h) (Or.inl ⟨by rfl, ?_⟩) ?_
  · intro w; go_simp; all_goals (first | rfl | omega)
  refine wpAny_take (i := 10) (v := .string OY) rfl (by kernel_rfl) (by kernel_rfl) (by kernel_rfl) (fun _ _ _ h => h) (Or.inl ⟨by rfl, ?_⟩) ?_
  · intro w; go_simp; all_goals (first | rfl | omega)
  refine wpAny_take (i := 11) (v := .string (E1 ++ OZ ++ E2 ++ OY)) rfl (by kernel_rfl) (by kernel_rfl) (by kernel_rfl) (fun _ _ _ h => h) (Or.inl ⟨by rfl, ?_⟩) ?_
  · intro w; go_simp; all_goals (first | rfl | omega)
  refine wpAny_take (i := 12) (v := .string T) rfl (by kernel_rfl) (by kernel_rfl) (by kernel_rfl) (fun _ _ _ h => h) (Or.inl ⟨by rfl, ?_⟩) ?_
  · intro w; go_simp; all_goals (first | rfl | omega)
  refine wpAny_take (i := 13) (v := .string OY) rfl (by kernel_rfl) (by kernel_rfl) (by kernel_rfl) (fun _ _ _ h => h) (Or.inl ⟨by rfl, ?_⟩) ?_
  · intro w; go_simp; all_goals (first | rfl | omega)
  refine wpAny_take (i := 14) (v := .int .i64 (OY.size : Int)) rfl (by kernel_rfl) (by kernel_rfl) (by kernel_rfl) (fun _ _ _ h => h) (Or.inl ⟨by rfl, ?_⟩) ?_
  · intro w; go_simp; all_goals (first | rfl | omega)
  refine wpAny_take (i := 15) (v := .int .i64 (108 + (OY.size : Int))) rfl (by kernel_rfl) (by kernel_rfl) (by kernel_rfl) (fun _ _ _ h => h) (Or.inl ⟨by rfl, ?_⟩) ?_
  · intro w; go_simp; all_goals (first | rfl | omega)
  refine wpAny_take (i := 16) (v := .string E3) rfl (by kernel_rfl) (by kernel_rfl) (by kernel_rfl) (fun _ _ _ h => h) (Or.inl ⟨by rfl, ?_⟩) ?_
  · intro w; go_simp; all_goals (first | rfl | omega)
  refine wpAny_take (i := 17) (v := .string (E1 ++ OZ ++ E2 ++ OY ++ E3)) rfl (by kernel_rfl) (by kernel_rfl) (by kernel_rfl) (fun _ _ _ h => h) (Or.inl ⟨by rfl, ?_⟩) ?_
  · intro w; go_simp; all_goals (first | rfl | omega)
  refine wpAny_take (i := 18) (v := .string (E1 ++ OZ ++ E2 ++ OY ++ E3 ++ ⟨#[52, 1]⟩)) rfl (by kernel_rfl) (by kernel_rfl) (by kernel_rfl) (fun _ _ _ h => h) (Or.inl ⟨by rfl, ?_⟩) ?_
  · intro w; go_simp; all_goals (first | rfl | omega)
  refine wpAny_take (i := 19) (v := .int .i64 3) rfl (by kernel_rfl) (by kernel_rfl) (by kernel_rfl) (fun _ _ _ h => h) (Or.inl ⟨by rfl, ?_⟩) ?_
  · intro w; go_simp; all_goals (first | rfl | omega)
  refine wpAny_take (i := 20) (v := .int .u8 3) rfl (by kernel_rfl) (by kernel_rfl) (by kernel_rfl) (fun _ _ _ h => h) (Or.inl ⟨by rfl, ?_⟩) ?_
  · intro w; go_simp; all_goals (first | rfl | omega)
  refine wpAny_take (i := 24) (v := .string OX) rfl (by kernel_rfl) (by kernel_rfl) (by kernel_rfl) (fun _ _ _ h => h) (Or.inl ⟨by rfl, ?_⟩) ?_
  · intro w; go_simp; all_goals (first | rfl | omega)
  refine wpAny_ready (rs := [21]) (by kernel_rfl) (by simp) ?_
  refine AllReady.cons rfl (fun K hK => ?_) AllReady.nil
  go_simp
  refine hK _ _ ?_
  clear hK K
  refine wpAny_ready (rs := [22]) (by kernel_rfl) (by simp) ?_
  refine AllReady.cons rfl (fun K hK => ?_) AllReady.nil
  go_simp
  refine hK _ _ ?_
  clear hK K
  refine wpAny_take (i := 23) (v := .string (E1 ++ OZ ++ E2 ++ OY ++ E3 ++ ⟨#[52, 1]⟩ ++ K)) rfl (by kernel_rfl) (by kernel_rfl) (by kernel_rfl) (fun _ _ _ h => h) (Or.inl ⟨by rfl, ?_⟩) ?_
  · intro w; go_simp; all_goals (first | rfl | omega)
  refine wpAny_take (i := 25) (v := .string (E1 ++ OZ ++ E2 ++ OY ++ E3 ++ ⟨#[52, 1]⟩ ++ K ++ OX)) rfl (by kernel_rfl) (by kernel_rfl) (by kernel_rfl) (fun _ _ _ h => h) (Or.inl ⟨by rfl, ?_⟩) ?_
  · intro w; go_simp; all_goals (first | rfl | omega)
  refine wpAny_take (i := 26) (v := .string (E1 ++ OZ ++ E2 ++ OY ++ E3 ++ ⟨#[52, 1]⟩ ++ K ++ OX)) rfl (by kernel_rfl) (by kernel_rfl) (by kernel_rfl) (fun _ _ _ h => h) (Or.inl ⟨by rfl, ?_⟩) ?_
  · intro w; go_simp; all_goals (first | rfl | omega)
  refine wpAny_done (by kernel_rfl) ?_ _
  have B8 : Hid (Below w.heap.size w ((w7.drew).alloc (.cells #[.int .u8 3] 5))) := (bel_trans B7.out (below_drewN (Below.refl _ _) 1)).alloc B7.out.size _
  clear B7 p1 p2 p3 p4 p5 p6 p7 f1 f2 g1 g2 g3 g4 t2 t3 q1 q2 q3 hcv hcv2 eK sOX sOY sOZ
  go_wp2_with fail
  refine (HGET.out _).mono ?_; rintro e w8 ⟨⟨a8, c8, rfl, hO8⟩, hb⟩
  have hA : Below w8.heap.size w8 (w8.alloc (.cells #[.int .i64 1, .int .i64 0, .int .i64 0, .int .i64 0, .int .i64 0, .int .i64 0, .int .i64 0, .int .i64 0, .int .i64 0, .int .i64 0, .string ⟨#[]⟩, .slice a8 1 c8] 40)) := (Below.refl _ _).alloc (Nat.le_refl _) _
  have B9 : Hid (Below w.heap.size w (w8.alloc (.cells #[.int .i64 1, .int .i64 0, .int .i64 0, .int .i64 0, .int .i64 0, .int .i64 0, .int .i64 0, .int .i64 0, .int .i64 0, .int .i64 0, .string ⟨#[]⟩, .slice a8 1 c8] 40))) := bel_trans (bel_trans B8.out hb) hA
  have L9 : Hid (OpLies (w8.alloc (.cells #[.int .i64 1, .int .i64 0, .int .i64 0, .int .i64 0, .int .i64 0, .int .i64 0, .int .i64 0, .int .i64 0, .int .i64 0, .int .i64 0, .string ⟨#[]⟩, .slice a8 1 c8] 40)) a8 [(12, W)]) := hO8.rowlies.lies.below hA
  have c0 : (w8.alloc (.cells #[.int .i64 1, .int .i64 0, .int .i64 0, .int .i64 0, .int .i64 0, .int .i64 0, .int .i64 0, .int .i64 0, .int .i64 0, .int .i64 0, .string ⟨#[]⟩, .slice a8 1 c8] 40)).cell? ⟨w8.heap.size, 0, none⟩ = some (.int .i64 1) := new_cell _ _ _ _ _ rfl
  have c11 : (w8.alloc (.cells #[.int .i64 1, .int .i64 0, .int .i64 0, .int .i64 0, .int .i64 0, .int .i64 0, .int .i64 0, .int .i64 0, .int .i64 0, .int .i64 0, .string ⟨#[]⟩, .slice a8 1 c8] 40)).cell? ⟨w8.heap.size, 11, none⟩ = some (.slice a8 1 c8) := new_cell _ _ _ _ _ rfl
  clear hO8 hb hA B8 HGET
  go_wp2_with fail
  generalize w8.alloc (.cells #[.int .i64 1, .int .i64 0, .int .i64 0, .int .i64 0, .int .i64 0, .int .i64 0, .int .i64 0, .int .i64 0, .int .i64 0, .int .i64 0, .string ⟨#[]⟩, .slice a8 1 c8] 40) = w9 at *
  generalize w8.heap.size = q9 at *
  go_wp2_with (go_at_call 13; refine (num_any _ _).mono ?_; rintro e w10 ⟨rfl, rfl⟩)
  have hA : Below w10.heap.size w10 (w10.alloc (.cells #[.int .i64 12, .string (X ++ Y ++ Z)] 25)) := (Below.refl _ _).alloc (Nat.le_refl _) _
  refine (HQ.out _ _ _ _ _ (L9.out.below hA) (ON.out w10)).mono ?_; rintro e w11 ⟨rfl, hb⟩
  have B11 : Hid (Below w.heap.size w w11) := bel_trans (bel_trans B9.out hA) hb
  have d0 : w11.cell? ⟨q9, 0, none⟩ = some (.int .i64 1) := ((bel_trans hA hb).cell (World.block_lt_of_cell? w10 _ c0)).trans c0
  clear hA hb B9 L9 c0 c11 HQ ON
  go_wp2
  go_ret
  exact ⟨rfl, B11.out⟩
theorem walk (a b c : ByteArray) (k0 : Int) (w : World) (ha : a.size ≤ 140737488351232) (hb : b.size ≤ 140737488351232) (hc : c.size ≤ 140737488351232) (_hk : (Lit.int .i64 k0).wf = true) : Calls Try.prog 7 #[.string a, .string b, .string c, .int .i64 k0] w fun e w' => e = .returned (.bool true) ∧ Below w.heap.size w w' := by
  have h3 : k0 % 4 % 3 = 0 ∨ k0 % 4 % 3 = 1 ∨ k0 % 4 % 3 = 2 := by omega
  rcases h3 with h | h | h
  · exact walk1 a b c k0 w ha hb hc h
  · exact walk2 a b c k0 w ha hb hc h
  · exact walk3 a b c k0 w ha hb hc h

theorem own : ownKnob Try.prog.godebug = none := by kernel_rfl
theorem laidOut : laidOutB Try.prog = true := by kernel_rfl

/-! ### The row's step -/
set_option maxRecDepth 100000 in
theorem lifted (os : Os) (started : os.Started) (H : Type) (enc : TypeId × Value → H) :
    ReturnsInHanded {} Try.checked os 7 .any (Rows.packetPartsSpec.pre6 enc Try.prog Try.f7 Rows.packetPartsRow.domain false) (Rows.packetPartsSpec.post enc Try.prog Try.f7 false true false false) := by
  refine returnsInHanded_of_change_sized (C := Try.checked) own started (by kernel_rfl) Try.func7
    (ChangeSpec.witness6 (enc := enc) (C := Try.checked) false ⟨#[], #[.string ByteArray.empty, .string ByteArray.empty, .string ByteArray.empty, .int .i64 0], []⟩ 8 (by kernel_rfl) (by kernel_rfl) (by kernel_rfl) (by kernel_rfl)) ?_
  intro W base args ds gs before hval0 hW _ hsz0 _
  have hval : ∀ (j : Nat) t v, Try.f7.params[j]? = some t → args[j]? = some v → Value.okWide Try.prog W .any base t v := hval0
  have hsz : (DataW.weightsEach Try.prog (Try.f7.params.toList ++ Rows.packetPartsSpec.plain.varTypes Try.prog) (ds ++ gs)).all (· ≤ reachBytes) = true := hsz0
  have hW' := hW
  obtain ⟨p, q, hA0, hV, rfl, _, _⟩ := hW
  have hA : DataW.TrodAll enc Try.prog W 0 (fun _ => true) true Try.f7.params.toList args.toList ds p := hA0
  rw [Try.params7] at hA hval hsz
  obtain ⟨v0, vs0, d0, ds0, p0, q0, hargs, rfl, rfl, h0, r0⟩ := trodAll_cons hA
  obtain ⟨v1, vs1, d1, ds1, p1, q1, rfl, rfl, rfl, h1, r1⟩ := trodAll_cons r0
  obtain ⟨v2, vs2, d2, ds2, p2, q2, rfl, rfl, rfl, h2, r2⟩ := trodAll_cons r1
  obtain ⟨v3, vs3, d3, ds3, p3, q3, rfl, rfl, rfl, h3, r3⟩ := trodAll_cons r2
  obtain ⟨rfl, rfl, rfl⟩ := trodAll_nil r3
  obtain rfl : args = #[v0, v1, v2, v3] := by cases args; simp_all
  obtain ⟨rfl, rfl⟩ := trodVars_none hV
  obtain ⟨a0, rfl, rfl, rfl, w0⟩ := open_string Try.underlying9 (hval 0 9 v0 rfl rfl) h0
  have s0 : a0.size ≤ 140737488351232 := by have := sized_string hsz (j := 0) (t := 9) rfl rfl; simpa [reachBytes] using this
  obtain ⟨a1, rfl, rfl, rfl, w1⟩ := open_string Try.underlying9 (hval 1 9 v1 rfl rfl) h1
  have s1 : a1.size ≤ 140737488351232 := by have := sized_string hsz (j := 1) (t := 9) rfl rfl; simpa [reachBytes] using this
  obtain ⟨a2, rfl, rfl, rfl, w2⟩ := open_string Try.underlying9 (hval 2 9 v2 rfl rfl) h2
  have s2 : a2.size ≤ 140737488351232 := by have := sized_string hsz (j := 2) (t := 9) rfl rfl; simpa [reachBytes] using this
  obtain ⟨a3, rfl, rfl, rfl, w3⟩ := open_int Try.underlying3 (hval 3 3 v3 rfl rfl) h3
  clear hA0 hval0 hsz0
  refine (walk a0 a1 a2 a3 W s0 s1 s2 w3).mono fun e W' ⟨he, bel⟩ => ?_
  subst he
  exact ⟨_, rfl, _, _, _, [], [], [], hW', trodAll_mk1 (shut_bool Try.underlying4 _), (trodAll_cons_mk (shut_string Try.underlying9 w0) (trodAll_cons_mk (shut_string Try.underlying9 w1) (trodAll_cons_mk (shut_string Try.underlying9 w2) (trodAll_cons_mk (shut_int Try.underlying3 w3) trodAll_mk0)))), rfl, bel.frame _, fun h => by cases h⟩

theorem over : Rows.packetPartsRow.holds Try.pinned (OpenSpec.ofChange Rows.packetPartsSpec) :=
  OpenClaim.holds_of_wide 7 Try.f7 rfl rfl rfl rfl rfl rfl rfl ⟨rfl, rfl, rfl, rfl, rfl⟩ rfl rfl rfl rfl rfl (by kernel_rfl) Try.func7 (by kernel_rfl)
    (of_decide_eq_true (by kernel_rfl)) (by unfold Func.isWrapper; first | (rw [if_pos (by decide +kernel)]; kernel_rfl) | (rw [if_neg (by decide +kernel)]; exact ⟨rfl, rfl⟩))
    (fun os started H enc _ => lifted os started H enc)

/-- The given statement. -/
theorem proved : Rows.PacketPartsSaid := over

end packetParts
theorem packetParts_proved : Rows.PacketPartsSaid := packetParts.proved
end Go.Proofs.Ytghbaojilhgllaa
