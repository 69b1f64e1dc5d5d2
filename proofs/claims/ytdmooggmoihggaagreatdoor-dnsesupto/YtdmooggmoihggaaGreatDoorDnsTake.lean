/-
  Contracts of what package dns takes: a record by a taker.
-/
import Derived.Test.YtdmooggmoihggaaGreatDoorDnsMem
import Derived.Test.YtdmooggmoihggaaGreatDoorBDns
import Derived.Deep.AppendLies
namespace Go.Proofs.YtdmooggmoihggaaGreatDoor
set_option maxRecDepth 100000
open Go.ChangeShapes Go.WideShapes Go.ChangeAt Go.RowKit Go.Pin Go.PlainAid

/-! ### By, of a record -/
theorem layR_other (w : World) (c k : Nat) (r : Rec) (hk : k ≠ c) : (layR w c r).heap[k]? = w.heap[k]? := by
  unfold layR
  rw [Below.heap_setCell _ _ _ _ hk, Below.heap_setCell _ _ _ _ hk, Below.heap_setCell _ _ _ _ hk, Below.heap_setCell _ _ _ _ hk, Below.heap_setCell _ _ _ _ hk, Below.heap_setCell _ _ _ _ hk, Below.heap_setCell _ _ _ _ hk]
theorem layR_size (w : World) (c : Nat) (r : Rec) : (layR w c r).heap.size = w.heap.size := by unfold layR; simp
theorem TkAt.layR {w : World} {b c : Nat} {s : ByteArray} {x : Tk} {r : Rec} (h : TkAt w b s x) (hn : b ≠ c) : TkAt (layR w c r) b s x := h.keep (layR_other w c b r hn) (by rw [layR_size]; exact Nat.le_refl _)
theorem Turn.layR {w w' : World} {b c : Nat} {r : Rec} (h : Turn b w w') (hc : w.heap.size ≤ c) (hb : b < c) : Turn b w (layR w' c r) := ⟨layR_below h.bel (Nat.le_of_lt hb) r, fun k hk hl => (layR_other w' c k r (by omega)).trans (h.oth k hk hl), fun j hj => (World.cell?_of_block (a := ⟨b, j, none⟩) (layR_other w' c b r (Nat.ne_of_lt hb))).trans (h.cel j hj)⟩
/-- A record. -/
def recK (s : ByteArray) (x : Tk) : Rec × Tk := if x.f then (zeroR, x) else match getRec s x.at_ with | none => (zeroR, ⟨x.at_, true⟩) | some (r, e) => (r, ⟨e, false⟩)
theorem byRec_failed (b : Nat) (s : ByteArray) (x : Tk) (g : Value) (w : World) (h : TkAt w b s x) (hf : x.f = true) :
    Calls Tryz.prog 86 #[.pointer (some ⟨b, 0, none⟩), g] w fun e w' => e = .returned (rv zeroR) ∧ Below w.heap.size w w' := by
  have B2 : Hid (Below w.heap.size w ((w.alloc (.cells #[.string ⟨#[]⟩, .int .i64 0, .int .i64 0, .int .i64 0, .string ⟨#[]⟩, .string ⟨#[]⟩, .int .i64 0] 82)).alloc (.cells #[.string ⟨#[]⟩, .int .i64 0, .int .i64 0, .int .i64 0, .string ⟨#[]⟩, .string ⟨#[]⟩, .int .i64 0] 82))) := ((Below.refl _ _).alloc (Nat.le_refl _) _).alloc (by simp) _
  have c2 := (h.below B2.out h.lt).c2
  rw [hf] at c2
  clear h
  simp only [rv, zeroR]
  go_enter Tryz.func86, Tryz.ntmps86
  go_wp2
  exact bodyPost_ret (v := .agg #[.string ⟨#[]⟩, .int .i64 0, .int .i64 0, .int .i64 0, .string ⟨#[]⟩, .string ⟨#[]⟩, .int .i64 0]) (by simp [results, Tryz.results86, go_sem]) rfl ⟨rfl, B2.out⟩

set_option maxHeartbeats 400000 in
theorem byRec_ok (b : Nat) (s : ByteArray) (x : Tk) (r : Rec) (e0 : Int) (w : World) (hs : s.size ≤ 1125899906842624) (h : TkAt w b s x) (hf : x.f = false) (hL : Laid w) (h0 : getRec s x.at_ = some (r, e0)) :
    Calls Tryz.prog 86 #[.pointer (some ⟨b, 0, none⟩), .func (.func 87) #[] #[]] w fun e w' => e = .returned (rv r) ∧ TkAt w' b s ⟨e0, false⟩ ∧ Turn b w w' := by
  have hr := h.rg hf
  have he : 0 ≤ e0 ∧ e0 ≤ s.size := inrec_end (get_inrec h0).2
  have HG : Hid (∀ w', Below w.heap.size w w' → _) := fun w' hb => rrGet_yes s x.at_ r e0 w' hs (hL.below hb) (by omega) h0
  have hx : Hid (0 ≤ e0 ∧ e0 ≤ s.size ∧ (s.size : Int) ≤ 1125899906842624) := ⟨he.1, he.2, by omega⟩
  have ltw := h.lt
  have B2 : Hid (Below w.heap.size w ((w.alloc (.cells #[.string ⟨#[]⟩, .int .i64 0, .int .i64 0, .int .i64 0, .string ⟨#[]⟩, .string ⟨#[]⟩, .int .i64 0] 82)).alloc (.cells #[.string ⟨#[]⟩, .int .i64 0, .int .i64 0, .int .i64 0, .string ⟨#[]⟩, .string ⟨#[]⟩, .int .i64 0] 82))) := ((Below.refl _ _).alloc (Nat.le_refl _) _).alloc (by simp) _
  have hT := h.below B2.out h.lt
  have hh : Hid (TkAt ((w.alloc (.cells #[.string ⟨#[]⟩, .int .i64 0, .int .i64 0, .int .i64 0, .string ⟨#[]⟩, .string ⟨#[]⟩, .int .i64 0] 82)).alloc (.cells #[.string ⟨#[]⟩, .int .i64 0, .int .i64 0, .int .i64 0, .string ⟨#[]⟩, .string ⟨#[]⟩, .int .i64 0] 82)) b s x) := hT
  have hsz : ((w.alloc (.cells #[.string ⟨#[]⟩, .int .i64 0, .int .i64 0, .int .i64 0, .string ⟨#[]⟩, .string ⟨#[]⟩, .int .i64 0] 82)).alloc (.cells #[.string ⟨#[]⟩, .int .i64 0, .int .i64 0, .int .i64 0, .string ⟨#[]⟩, .string ⟨#[]⟩, .int .i64 0] 82)).heap.size = w.heap.size + 2 := by simp
  have Z : Hid (RecAt ((w.alloc (.cells #[.string ⟨#[]⟩, .int .i64 0, .int .i64 0, .int .i64 0, .string ⟨#[]⟩, .string ⟨#[]⟩, .int .i64 0] 82)).alloc (.cells #[.string ⟨#[]⟩, .int .i64 0, .int .i64 0, .int .i64 0, .string ⟨#[]⟩, .string ⟨#[]⟩, .int .i64 0] 82)) w.heap.size zeroR) := (RecAt.new w zeroR 82).below ((Below.refl _ _).alloc (Nat.le_refl _) _) (by simp)
  obtain ⟨c0, c1, c2, fz, lt, _, _⟩ := hT
  rw [hf] at c2
  clear fz hs h he h0 hr
  obtain ⟨n, ty, ttl, ad, tg, tx, se⟩ := r
  simp only [rv] at *
  go_enter Tryz.func86, Tryz.ntmps86
  go_wp2_with fail
  generalize (w.alloc (.cells #[.string ⟨#[]⟩, .int .i64 0, .int .i64 0, .int .i64 0, .string ⟨#[]⟩, .string ⟨#[]⟩, .int .i64 0] 82)).alloc (.cells #[.string ⟨#[]⟩, .int .i64 0, .int .i64 0, .int .i64 0, .string ⟨#[]⟩, .string ⟨#[]⟩, .int .i64 0] 82) = w0 at *
  have hZ0 : Hid (∀ w', Below (w0.alloc (.cells #[.string ⟨#[]⟩, .int .i64 0, .int .i64 0, .int .i64 0, .string ⟨#[]⟩, .string ⟨#[]⟩, .int .i64 0] 82)).heap.size (w0.alloc (.cells #[.string ⟨#[]⟩, .int .i64 0, .int .i64 0, .int .i64 0, .string ⟨#[]⟩, .string ⟨#[]⟩, .int .i64 0] 82)) w' → RecAt w' w0.heap.size zeroR) := fun w' hb => (RecAt.new w0 zeroR 82).below hb (by simp)
  have Hsz : Hid (w0.heap.size = w.heap.size + 2) := hsz
  clear hsz
  have hne : ¬ b = w0.heap.size := by omega
  have hne' : ¬ w0.heap.size = b := by omega
  go_region_held3 (fun w' => w'.cell? ⟨b, 0, none⟩ = some (.string s) ∧ w'.cell? ⟨b, 1, none⟩ = some (.int .i64 x.at_)) (go_keep)
    (first
      | (go_at_call 87; refine (HG.out _ (bel_trans B2.out (below_drewN (Below.refl w0.heap.size _) 1))).mono ?_; rintro e w1 ⟨rfl, hb1⟩; have hb1' : Below w0.heap.size w0 w1 := bel_trans (below_drewN (Below.refl w0.heap.size _) 1) hb1; have g0 := (hb1'.cell (p := ⟨b, 0, none⟩) lt).trans c0; have g1 := (hb1'.cell (p := ⟨b, 1, none⟩) lt).trans c1; have lt1 : b < w1.heap.size := Nat.lt_of_lt_of_le lt hb1'.size; have hn1 : ¬ b = w1.heap.size := by omega)
      | (go_at_call 87; refine (HG.out _ (bel_trans B2.out (below_drewN ((Below.refl w0.heap.size w0).alloc (Nat.le_refl _) _) 1))).mono ?_; rintro e w1 ⟨rfl, hb1⟩; have hb1' : Below w0.heap.size w0 w1 := bel_trans (below_drewN ((Below.refl w0.heap.size w0).alloc (Nat.le_refl _) _) 1) hb1; have Y1 := hZ0.out w1 (bel_trans (below_drewN (Below.refl _ _) 1) hb1); have HY1 : Hid (RecAt w1 w0.heap.size zeroR) := Y1; obtain ⟨y0, y1, y2, y3, y4, y5, y6, fy, lty⟩ := Y1; simp only [zeroR] at y0 y1 y2 y3 y4 y5 y6; have p0 := fy 0; have p1 := fy 1; have p2 := fy 2; have p3 := fy 3; have p4 := fy 4; have p5 := fy 5; have p6 := fy 6; clear fy; have g0 := (hb1'.cell (p := ⟨b, 0, none⟩) lt).trans c0; have g1 := (hb1'.cell (p := ⟨b, 1, none⟩) lt).trans c1; have lt1 : b < w1.heap.size := Nat.lt_of_lt_of_le lt hb1'.size; have hn1 : ¬ b = w1.heap.size := by omega))
  · have B3 : Hid (Below w0.heap.size w0 (w1.alloc (.cells #[.string n, .int .i64 ty, .int .i64 ttl, .int .i64 ad, .string tg, .string tx, .int .i64 se] 82))) := hb1'.alloc hb1'.size _
    have R6 : Hid (RecAt (w1.alloc (.cells #[.string n, .int .i64 ty, .int .i64 ttl, .int .i64 ad, .string tg, .string tx, .int .i64 se] 82)) w1.heap.size ⟨n, ty, ttl, ad, tg, tx, se⟩) := RecAt.new w1 ⟨n, ty, ttl, ad, tg, tx, se⟩ 82
    have hc1 : ¬ w1.heap.size = w.heap.size := by have := hb1'.size; have := Hsz.out; omega
    have hc2 : ¬ w1.heap.size = b := by omega
    have T3 : Hid (TkAt (w1.alloc (.cells #[.string n, .int .i64 ty, .int .i64 ttl, .int .i64 ad, .string tg, .string tx, .int .i64 se] 82)) b s x) := hh.out.below B3.out lt
    have Z3 : Hid (RecAt (w1.alloc (.cells #[.string n, .int .i64 ty, .int .i64 ttl, .int .i64 ad, .string tg, .string tx, .int .i64 se] 82)) w.heap.size zeroR) := Z.out.below B3.out (by have := Hsz.out; omega)
    have U3 : Hid (Turn b w (w1.alloc (.cells #[.string n, .int .i64 ty, .int .i64 ttl, .int .i64 ad, .string tg, .string tx, .int .i64 se] 82))) := Turn.of_below (bel_trans B2.out B3.out) ltw
    generalize w1.alloc (.cells #[.string n, .int .i64 ty, .int .i64 ttl, .int .i64 ad, .string tg, .string tx, .int .i64 se] 82) = w3 at *
    generalize w1.heap.size = c6 at *
    clear hb1 hb1' g0 g1 lt1 hn1 B3 c0 c1 c2 lt hh Z B2 HG hZ0 Hsz hne hne' hL
    obtain ⟨_, t1, t2, ft, lt3, _, _⟩ := T3.out
    rw [hf] at t2
    have f1 := ft 1
    obtain ⟨g0, g1, g2, g3, g4, g5, g6, _, ltc⟩ := R6.out
    obtain ⟨z0, z1, z2, z3, z4, z5, z6, fz, ltz⟩ := Z3.out
    simp only [zeroR] at g0 g1 g2 g3 g4 g5 g6 z0 z1 z2 z3 z4 z5 z6
    have p0 := fz 0
    have p1 := fz 1
    have p2 := fz 2
    have p3 := fz 3
    have p4 := fz 4
    have p5 := fz 5
    have p6 := fz 6
    have hbz : ¬ b = w.heap.size := by omega
    have hbz' : ¬ w.heap.size = b := by omega
    have hc1' : ¬ w.heap.size = c6 := by omega
    have hc2' : ¬ b = c6 := by omega
    clear ft fz
    go_wp2_with fail
    refine (must_yes b _).mono ?_; rintro e w4 ⟨rfl, rfl⟩
    go_wp2
    have T4 := (T3.out.set1 e0 (fun _ => ⟨hx.out.1, hx.out.2.1⟩) ⟨by have := hx.out; omega, by have := hx.out; omega⟩).layR (c := w.heap.size) (r := ⟨n, ty, ttl, ad, tg, tx, se⟩) hbz
    have U4 := (U3.out.trans (Turn.set w4 1 (.int .i64 e0))).layR (c := w.heap.size) (r := ⟨n, ty, ttl, ad, tg, tx, se⟩) (Nat.le_refl _) (by omega)
    have Q4 := layR_rec (Z3.out.set (j := 1) (u := .int .i64 e0) hbz') ⟨n, ty, ttl, ad, tg, tx, se⟩
    simp only [layR] at T4 U4 Q4
    obtain ⟨a0, a1, a2, a3, a4, a5, a6, _, _⟩ := Q4
    simp only at a0 a1 a2 a3 a4 a5 a6
    refine bodyPost_ret (v := .agg #[.string n, .int .i64 ty, .int .i64 ttl, .int .i64 ad, .string tg, .string tx, .int .i64 se]) (by simp [results, Tryz.results86, go_sem, a0, a1, a2, a3, a4, a5, a6]) rfl ⟨rfl, ?_, U4⟩
    rw [show ({ x with at_ := e0 } : Tk) = ⟨e0, false⟩ by rw [← hf]] at T4
    exact T4
  · have B3 : Hid (Below w0.heap.size w0 (layR w1 w0.heap.size ⟨n, ty, ttl, ad, tg, tx, se⟩)) := layR_below hb1' (Nat.le_refl _) ⟨n, ty, ttl, ad, tg, tx, se⟩
    have R6 : Hid (RecAt (layR w1 w0.heap.size ⟨n, ty, ttl, ad, tg, tx, se⟩) w0.heap.size ⟨n, ty, ttl, ad, tg, tx, se⟩) := layR_rec HY1.out ⟨n, ty, ttl, ad, tg, tx, se⟩
    have hc1 : ¬ w0.heap.size = w.heap.size := by have := Hsz.out; omega
    have hc2 : ¬ w0.heap.size = b := hne'
    have T3 : Hid (TkAt (layR w1 w0.heap.size ⟨n, ty, ttl, ad, tg, tx, se⟩) b s x) := hh.out.below B3.out lt
    have Z3 : Hid (RecAt (layR w1 w0.heap.size ⟨n, ty, ttl, ad, tg, tx, se⟩) w.heap.size zeroR) := Z.out.below B3.out (by have := Hsz.out; omega)
    have U3 : Hid (Turn b w (layR w1 w0.heap.size ⟨n, ty, ttl, ad, tg, tx, se⟩)) := Turn.of_below (bel_trans B2.out B3.out) ltw
    clear hb1 hb1' g0 g1 lt1 hn1 y0 y1 y2 y3 y4 y5 y6 p0 p1 p2 p3 p4 p5 p6 lty HY1 B3 c0 c1 c2 lt hh Z B2 HG hZ0 Hsz hne hne' hL
    simp only [layR] at T3 Z3 U3 R6
    generalize (((((((((((((w1.setCell ⟨w0.heap.size, 0, none⟩ (.string n))).setCell ⟨w0.heap.size, 1, none⟩ (.int .i64 ty))).setCell ⟨w0.heap.size, 2, none⟩ (.int .i64 ttl))).setCell ⟨w0.heap.size, 3, none⟩ (.int .i64 ad))).setCell ⟨w0.heap.size, 4, none⟩ (.string tg))).setCell ⟨w0.heap.size, 5, none⟩ (.string tx))).setCell ⟨w0.heap.size, 6, none⟩ (.int .i64 se)) = w3 at *
    generalize w0.heap.size = c6 at *
    obtain ⟨_, t1, t2, ft, lt3, _, _⟩ := T3.out
    rw [hf] at t2
    have f1 := ft 1
    obtain ⟨g0, g1, g2, g3, g4, g5, g6, _, ltc⟩ := R6.out
    obtain ⟨z0, z1, z2, z3, z4, z5, z6, fz, ltz⟩ := Z3.out
    simp only [zeroR] at g0 g1 g2 g3 g4 g5 g6 z0 z1 z2 z3 z4 z5 z6
    have p0 := fz 0
    have p1 := fz 1
    have p2 := fz 2
    have p3 := fz 3
    have p4 := fz 4
    have p5 := fz 5
    have p6 := fz 6
    have hbz : ¬ b = w.heap.size := by omega
    have hbz' : ¬ w.heap.size = b := by omega
    have hc1' : ¬ w.heap.size = c6 := by omega
    have hc2' : ¬ b = c6 := by omega
    clear ft fz
    go_wp2_with fail
    refine (must_yes b _).mono ?_; rintro e w4 ⟨rfl, rfl⟩
    go_wp2
    have T4 := (T3.out.set1 e0 (fun _ => ⟨hx.out.1, hx.out.2.1⟩) ⟨by have := hx.out; omega, by have := hx.out; omega⟩).layR (c := w.heap.size) (r := ⟨n, ty, ttl, ad, tg, tx, se⟩) hbz
    have U4 := (U3.out.trans (Turn.set w4 1 (.int .i64 e0))).layR (c := w.heap.size) (r := ⟨n, ty, ttl, ad, tg, tx, se⟩) (Nat.le_refl _) (by omega)
    have Q4 := layR_rec (Z3.out.set (j := 1) (u := .int .i64 e0) hbz') ⟨n, ty, ttl, ad, tg, tx, se⟩
    simp only [layR] at T4 U4 Q4
    obtain ⟨a0, a1, a2, a3, a4, a5, a6, _, _⟩ := Q4
    simp only at a0 a1 a2 a3 a4 a5 a6
    refine bodyPost_ret (v := .agg #[.string n, .int .i64 ty, .int .i64 ttl, .int .i64 ad, .string tg, .string tx, .int .i64 se]) (by simp [results, Tryz.results86, go_sem, a0, a1, a2, a3, a4, a5, a6]) rfl ⟨rfl, ?_, U4⟩
    rw [show ({ x with at_ := e0 } : Tk) = ⟨e0, false⟩ by rw [← hf]] at T4
    exact T4

set_option maxHeartbeats 400000 in
theorem byRec_no (b : Nat) (s : ByteArray) (x : Tk) (r : Rec) (e0 er : Int) (w : World) (h : TkAt w b s x) (hf : x.f = false) (her : (er == 0) = false)
    (HG0 : ∀ w', Below w.heap.size w w' → Calls Tryz.prog 87 #[.string s, .int .i64 x.at_] w' fun e w'' => e = .returned (.tuple #[rv r, .int .i64 e0, .int .i64 er]) ∧ Below w'.heap.size w' w'') :
    Calls Tryz.prog 86 #[.pointer (some ⟨b, 0, none⟩), .func (.func 87) #[] #[]] w fun e w' => e = .returned (rv zeroR) ∧ TkAt w' b s ⟨x.at_, true⟩ ∧ Turn b w w' := by
  have HG : Hid (∀ w', Below w.heap.size w w' → _) := HG0
  clear HG0
  have ltw := h.lt
  have B2 : Hid (Below w.heap.size w ((w.alloc (.cells #[.string ⟨#[]⟩, .int .i64 0, .int .i64 0, .int .i64 0, .string ⟨#[]⟩, .string ⟨#[]⟩, .int .i64 0] 82)).alloc (.cells #[.string ⟨#[]⟩, .int .i64 0, .int .i64 0, .int .i64 0, .string ⟨#[]⟩, .string ⟨#[]⟩, .int .i64 0] 82))) := ((Below.refl _ _).alloc (Nat.le_refl _) _).alloc (by simp) _
  have hT := h.below B2.out h.lt
  have hh : Hid (TkAt ((w.alloc (.cells #[.string ⟨#[]⟩, .int .i64 0, .int .i64 0, .int .i64 0, .string ⟨#[]⟩, .string ⟨#[]⟩, .int .i64 0] 82)).alloc (.cells #[.string ⟨#[]⟩, .int .i64 0, .int .i64 0, .int .i64 0, .string ⟨#[]⟩, .string ⟨#[]⟩, .int .i64 0] 82)) b s x) := hT
  have hsz : ((w.alloc (.cells #[.string ⟨#[]⟩, .int .i64 0, .int .i64 0, .int .i64 0, .string ⟨#[]⟩, .string ⟨#[]⟩, .int .i64 0] 82)).alloc (.cells #[.string ⟨#[]⟩, .int .i64 0, .int .i64 0, .int .i64 0, .string ⟨#[]⟩, .string ⟨#[]⟩, .int .i64 0] 82)).heap.size = w.heap.size + 2 := by simp
  have Z : Hid (RecAt ((w.alloc (.cells #[.string ⟨#[]⟩, .int .i64 0, .int .i64 0, .int .i64 0, .string ⟨#[]⟩, .string ⟨#[]⟩, .int .i64 0] 82)).alloc (.cells #[.string ⟨#[]⟩, .int .i64 0, .int .i64 0, .int .i64 0, .string ⟨#[]⟩, .string ⟨#[]⟩, .int .i64 0] 82)) w.heap.size zeroR) := (RecAt.new w zeroR 82).below ((Below.refl _ _).alloc (Nat.le_refl _) _) (by simp)
  have Z5 : Hid (RecAt ((w.alloc (.cells #[.string ⟨#[]⟩, .int .i64 0, .int .i64 0, .int .i64 0, .string ⟨#[]⟩, .string ⟨#[]⟩, .int .i64 0] 82)).alloc (.cells #[.string ⟨#[]⟩, .int .i64 0, .int .i64 0, .int .i64 0, .string ⟨#[]⟩, .string ⟨#[]⟩, .int .i64 0] 82)) (w.heap.size + 1) zeroR) := by
    have := RecAt.new (w.alloc (.cells #[.string ⟨#[]⟩, .int .i64 0, .int .i64 0, .int .i64 0, .string ⟨#[]⟩, .string ⟨#[]⟩, .int .i64 0] 82)) zeroR 82
    rw [show (w.alloc (.cells #[.string ⟨#[]⟩, .int .i64 0, .int .i64 0, .int .i64 0, .string ⟨#[]⟩, .string ⟨#[]⟩, .int .i64 0] 82)).heap.size = w.heap.size + 1 by simp] at this
    exact this
  obtain ⟨c0, c1, c2, fz, lt, _, _⟩ := hT
  rw [hf] at c2
  clear fz h
  obtain ⟨n, ty, ttl, ad, tg, tx, se⟩ := r
  simp only [rv, zeroR] at HG ⊢
  go_enter Tryz.func86, Tryz.ntmps86
  go_wp2_with fail
  generalize (w.alloc (.cells #[.string ⟨#[]⟩, .int .i64 0, .int .i64 0, .int .i64 0, .string ⟨#[]⟩, .string ⟨#[]⟩, .int .i64 0] 82)).alloc (.cells #[.string ⟨#[]⟩, .int .i64 0, .int .i64 0, .int .i64 0, .string ⟨#[]⟩, .string ⟨#[]⟩, .int .i64 0] 82) = w0 at *
  have hZ0 : Hid (∀ w', Below (w0.alloc (.cells #[.string ⟨#[]⟩, .int .i64 0, .int .i64 0, .int .i64 0, .string ⟨#[]⟩, .string ⟨#[]⟩, .int .i64 0] 82)).heap.size (w0.alloc (.cells #[.string ⟨#[]⟩, .int .i64 0, .int .i64 0, .int .i64 0, .string ⟨#[]⟩, .string ⟨#[]⟩, .int .i64 0] 82)) w' → RecAt w' w0.heap.size zeroR) := fun w' hb => (RecAt.new w0 zeroR 82).below hb (by simp)
  have Hsz : Hid (w0.heap.size = w.heap.size + 2) := hsz
  clear hsz
  have hne : ¬ b = w0.heap.size := by omega
  have hne' : ¬ w0.heap.size = b := by omega
  go_region_held3 (fun w' => w'.cell? ⟨b, 0, none⟩ = some (.string s) ∧ w'.cell? ⟨b, 1, none⟩ = some (.int .i64 x.at_)) (go_keep)
    (first
      | (go_at_call 87; refine (HG.out _ (bel_trans B2.out (below_drewN (Below.refl w0.heap.size _) 1))).mono ?_; rintro e w1 ⟨rfl, hb1⟩; have hb1' : Below w0.heap.size w0 w1 := bel_trans (below_drewN (Below.refl w0.heap.size _) 1) hb1; have g0 := (hb1'.cell (p := ⟨b, 0, none⟩) lt).trans c0; have g1 := (hb1'.cell (p := ⟨b, 1, none⟩) lt).trans c1; have lt1 : b < w1.heap.size := Nat.lt_of_lt_of_le lt hb1'.size; have hn1 : ¬ b = w1.heap.size := by omega)
      | (go_at_call 87; refine (HG.out _ (bel_trans B2.out (below_drewN ((Below.refl w0.heap.size w0).alloc (Nat.le_refl _) _) 1))).mono ?_; rintro e w1 ⟨rfl, hb1⟩; have hb1' : Below w0.heap.size w0 w1 := bel_trans (below_drewN ((Below.refl w0.heap.size w0).alloc (Nat.le_refl _) _) 1) hb1; have Y1 := hZ0.out w1 (bel_trans (below_drewN (Below.refl _ _) 1) hb1); have HY1 : Hid (RecAt w1 w0.heap.size zeroR) := Y1; obtain ⟨y0, y1, y2, y3, y4, y5, y6, fy, lty⟩ := Y1; simp only [zeroR] at y0 y1 y2 y3 y4 y5 y6; have p0 := fy 0; have p1 := fy 1; have p2 := fy 2; have p3 := fy 3; have p4 := fy 4; have p5 := fy 5; have p6 := fy 6; clear fy; have g0 := (hb1'.cell (p := ⟨b, 0, none⟩) lt).trans c0; have g1 := (hb1'.cell (p := ⟨b, 1, none⟩) lt).trans c1; have lt1 : b < w1.heap.size := Nat.lt_of_lt_of_le lt hb1'.size; have hn1 : ¬ b = w1.heap.size := by omega))
  · have B3 : Hid (Below w0.heap.size w0 (w1.alloc (.cells #[.string n, .int .i64 ty, .int .i64 ttl, .int .i64 ad, .string tg, .string tx, .int .i64 se] 82))) := hb1'.alloc hb1'.size _
    have R6 : Hid (RecAt (w1.alloc (.cells #[.string n, .int .i64 ty, .int .i64 ttl, .int .i64 ad, .string tg, .string tx, .int .i64 se] 82)) (w.heap.size + 1) zeroR) := Z5.out.below B3.out (by have := Hsz.out; omega)
    have hc1 : ¬ w1.heap.size = w.heap.size := by have := hb1'.size; have := Hsz.out; omega
    have hc2 : ¬ w1.heap.size = b := by omega
    have T3 : Hid (TkAt (w1.alloc (.cells #[.string n, .int .i64 ty, .int .i64 ttl, .int .i64 ad, .string tg, .string tx, .int .i64 se] 82)) b s x) := hh.out.below B3.out lt
    have Z3 : Hid (RecAt (w1.alloc (.cells #[.string n, .int .i64 ty, .int .i64 ttl, .int .i64 ad, .string tg, .string tx, .int .i64 se] 82)) w.heap.size zeroR) := Z.out.below B3.out (by have := Hsz.out; omega)
    have U3 : Hid (Turn b w (w1.alloc (.cells #[.string n, .int .i64 ty, .int .i64 ttl, .int .i64 ad, .string tg, .string tx, .int .i64 se] 82))) := Turn.of_below (bel_trans B2.out B3.out) ltw
    generalize w1.alloc (.cells #[.string n, .int .i64 ty, .int .i64 ttl, .int .i64 ad, .string tg, .string tx, .int .i64 se] 82) = w3 at *
    generalize w1.heap.size = c6 at *
    clear hb1 hb1' g0 g1 lt1 hn1 B3 c0 c1 c2 lt hh Z Z5 B2 HG hZ0 Hsz hne hne'
    obtain ⟨_, t1, t2, ft, lt3, _, _⟩ := T3.out
    rw [hf] at t2
    have f1 := ft 1
    obtain ⟨g0, g1, g2, g3, g4, g5, g6, _, ltc⟩ := R6.out
    obtain ⟨z0, z1, z2, z3, z4, z5, z6, fz, ltz⟩ := Z3.out
    simp only [zeroR] at g0 g1 g2 g3 g4 g5 g6 z0 z1 z2 z3 z4 z5 z6
    have p0 := fz 0
    have p1 := fz 1
    have p2 := fz 2
    have p3 := fz 3
    have p4 := fz 4
    have p5 := fz 5
    have p6 := fz 6
    have hbz : ¬ b = w.heap.size := by omega
    have hbz' : ¬ w.heap.size = b := by omega
    have hb5 : ¬ b = w.heap.size + 1 := by omega
    have hb5' : ¬ w.heap.size + 1 = b := by omega
    clear ft fz
    go_wp2_with fail
    refine (must_no b s x _ T3.out).mono ?_; rintro e w4 ⟨rfl, rfl⟩
    have T4 := T3.out.fail.layR (c := w.heap.size) (r := zeroR) hbz
    have U4 := (U3.out.trans (Turn.set w3 2 (.bool true))).layR (c := w.heap.size) (r := zeroR) (Nat.le_refl _) (by omega)
    have Q4 := layR_rec (Z3.out.set (j := 2) (u := .bool true) hbz') zeroR
    have d2 := T3.out.fail.c2
    simp only at d2
    simp only [layR, zeroR] at T4 U4 Q4
    have HT4 : Hid (_) := T4
    have HU4 : Hid (_) := U4
    have HQ4 : Hid (_) := Q4
    clear T4 U4 Q4
    go_wp2
    obtain ⟨a0, a1, a2, a3, a4, a5, a6, _, _⟩ := HQ4.out
    simp only at a0 a1 a2 a3 a4 a5 a6
    exact bodyPost_ret (v := .agg #[.string ⟨#[]⟩, .int .i64 0, .int .i64 0, .int .i64 0, .string ⟨#[]⟩, .string ⟨#[]⟩, .int .i64 0]) (by simp [results, Tryz.results86, go_sem, a0, a1, a2, a3, a4, a5, a6]) rfl ⟨rfl, HT4.out, HU4.out⟩
  · have B3 : Hid (Below w0.heap.size w0 (layR w1 w0.heap.size ⟨n, ty, ttl, ad, tg, tx, se⟩)) := layR_below hb1' (Nat.le_refl _) ⟨n, ty, ttl, ad, tg, tx, se⟩
    have R6 : Hid (RecAt (layR w1 w0.heap.size ⟨n, ty, ttl, ad, tg, tx, se⟩) (w.heap.size + 1) zeroR) := Z5.out.below B3.out (by have := Hsz.out; omega)
    have hc1 : ¬ w0.heap.size = w.heap.size := by have := Hsz.out; omega
    have hc2 : ¬ w0.heap.size = b := hne'
    have T3 : Hid (TkAt (layR w1 w0.heap.size ⟨n, ty, ttl, ad, tg, tx, se⟩) b s x) := hh.out.below B3.out lt
    have Z3 : Hid (RecAt (layR w1 w0.heap.size ⟨n, ty, ttl, ad, tg, tx, se⟩) w.heap.size zeroR) := Z.out.below B3.out (by have := Hsz.out; omega)
    have U3 : Hid (Turn b w (layR w1 w0.heap.size ⟨n, ty, ttl, ad, tg, tx, se⟩)) := Turn.of_below (bel_trans B2.out B3.out) ltw
    clear hb1 hb1' g0 g1 lt1 hn1 y0 y1 y2 y3 y4 y5 y6 p0 p1 p2 p3 p4 p5 p6 lty HY1 B3 c0 c1 c2 lt hh Z Z5 B2 HG hZ0 Hsz hne hne'
    simp only [layR] at T3 Z3 U3 R6
    generalize (((((((((((((w1.setCell ⟨w0.heap.size, 0, none⟩ (.string n))).setCell ⟨w0.heap.size, 1, none⟩ (.int .i64 ty))).setCell ⟨w0.heap.size, 2, none⟩ (.int .i64 ttl))).setCell ⟨w0.heap.size, 3, none⟩ (.int .i64 ad))).setCell ⟨w0.heap.size, 4, none⟩ (.string tg))).setCell ⟨w0.heap.size, 5, none⟩ (.string tx))).setCell ⟨w0.heap.size, 6, none⟩ (.int .i64 se)) = w3 at *
    generalize w0.heap.size = c6 at *
    obtain ⟨_, t1, t2, ft, lt3, _, _⟩ := T3.out
    rw [hf] at t2
    have f1 := ft 1
    obtain ⟨g0, g1, g2, g3, g4, g5, g6, _, ltc⟩ := R6.out
    obtain ⟨z0, z1, z2, z3, z4, z5, z6, fz, ltz⟩ := Z3.out
    simp only [zeroR] at g0 g1 g2 g3 g4 g5 g6 z0 z1 z2 z3 z4 z5 z6
    have p0 := fz 0
    have p1 := fz 1
    have p2 := fz 2
    have p3 := fz 3
    have p4 := fz 4
    have p5 := fz 5
    have p6 := fz 6
    have hbz : ¬ b = w.heap.size := by omega
    have hbz' : ¬ w.heap.size = b := by omega
    have hb5 : ¬ b = w.heap.size + 1 := by omega
    have hb5' : ¬ w.heap.size + 1 = b := by omega
    clear ft fz
    go_wp2_with fail
    refine (must_no b s x _ T3.out).mono ?_; rintro e w4 ⟨rfl, rfl⟩
    have T4 := T3.out.fail.layR (c := w.heap.size) (r := zeroR) hbz
    have U4 := (U3.out.trans (Turn.set w3 2 (.bool true))).layR (c := w.heap.size) (r := zeroR) (Nat.le_refl _) (by omega)
    have Q4 := layR_rec (Z3.out.set (j := 2) (u := .bool true) hbz') zeroR
    have d2 := T3.out.fail.c2
    simp only at d2
    simp only [layR, zeroR] at T4 U4 Q4
    have HT4 : Hid (_) := T4
    have HU4 : Hid (_) := U4
    have HQ4 : Hid (_) := Q4
    clear T4 U4 Q4
    go_wp2
    obtain ⟨a0, a1, a2, a3, a4, a5, a6, _, _⟩ := HQ4.out
    simp only at a0 a1 a2 a3 a4 a5 a6
    exact bodyPost_ret (v := .agg #[.string ⟨#[]⟩, .int .i64 0, .int .i64 0, .int .i64 0, .string ⟨#[]⟩, .string ⟨#[]⟩, .int .i64 0]) (by simp [results, Tryz.results86, go_sem, a0, a1, a2, a3, a4, a5, a6]) rfl ⟨rfl, HT4.out, HU4.out⟩


theorem rec_c (b : Nat) (s : ByteArray) (x : Tk) (w : World) (hs : s.size ≤ 1125899906842624) (h : TkAt w b s x) (hL : Laid w) :
    Calls Tryz.prog 86 #[.pointer (some ⟨b, 0, none⟩), .func (.func 87) #[] #[]] w fun e w' => e = .returned (rv (recK s x).1) ∧ TkAt w' b s (recK s x).2 ∧ Turn b w w' := by
  unfold recK
  cases hf : x.f with
  | true => exact (byRec_failed b s x _ w h hf).mono fun e w' ⟨h1, h2⟩ => ⟨h1, h.below h2 h.lt, Turn.of_below h2 h.lt⟩
  | false =>
    have hr := h.rg hf
    cases hg : getRec s x.at_ with
    | none => exact byRec_no b s x zeroR 0 400 w h hf rfl (fun w' hb => rrGet_no s x.at_ w' hs (hL.below hb) (by omega) hg)
    | some q => exact byRec_ok b s x q.1 q.2 w hs h hf hL hg

end Go.Proofs.YtdmooggmoihggaaGreatDoor
