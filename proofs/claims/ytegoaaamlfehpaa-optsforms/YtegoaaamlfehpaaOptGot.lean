/-
  Contracts of package opts: Get and Find, at every text, every list.
-/
import Derived.Test.YtegoaaamlfehpaaOptJoin
namespace Go.Proofs.Ytegoaaamlfehpaa
open Go.ChangeShapes Go.WideShapes Go.ChangeAt Go.RowKit Go.Pin Go.PlainAid

/-- The data of a part: what is taken, how far. -/
def partT (s : ByteArray) (x : Tk) : ByteArray × Tk := textT s (numT s 1 x).1.toNat (numT s 1 x).2
theorem bs_extract (s : ByteArray) (a n : Nat) : bs (s.extract a (a + n)) = ((bs s).drop a).take n := by
  simp [bs, List.take_drop]
theorem part_end {s : ByteArray} {a : Nat} (h : a = (bs s).length) : (partT s ⟨a, false⟩).2.f = true ∧ (partT s ⟨a, false⟩).1 = ⟨#[]⟩ := by
  have h1 : (getB s (a : Int) 1).2 ≠ 0 := by
    rw [length_bs] at h
    unfold getB; rw [if_neg (by omega), if_pos (by simp; omega)]; decide
  have e : numT s 1 ⟨a, false⟩ = (0, ⟨a, true⟩) := by simp [numT, h1]
  unfold partT
  rw [e]
  simp [textT]
theorem part_is {s : ByteArray} {a : Nat} (h : a < (bs s).length) : partT s ⟨a, false⟩ = if ((bs s).drop (a + 1)).length < ((bs s)[a]).toNat then (⟨#[]⟩, ⟨(a + 1 : Nat), true⟩) else (mk (((bs s).drop (a + 1)).take ((bs s)[a]).toNat), ⟨(a + 1 + ((bs s)[a]).toNat : Nat), false⟩) := by
  unfold partT
  rw [numT_one h]
  have hl := length_bs s
  simp only [textT, Int.toNat_natCast, List.length_drop]
  by_cases hh : (bs s).length - (a + 1) < ((bs s)[a]).toNat
  · rw [if_pos hh, if_neg (by simp), if_neg (by omega)]; simp
  · rw [if_neg hh, if_neg (by simp), if_pos (by omega)]
    rw [show ((a : Int) + 1).toNat = a + 1 by omega]
    refine Prod.ext ?_ ?_
    · apply bs_inj; rw [bs_extract, bs_mk]
    · simp
theorem join_mem {os : List Opn} {c : Int} {d : List UInt8} {o : Opn} (h : o ∈ joinO os c d) : o ∈ os ∨ findO (joinO os c d) c = some o.2 := by
  cases hp : placeO os c with
  | none =>
    rw [join_new hp] at h ⊢
    rcases List.mem_append.1 h with h | h
    · exact .inl h
    · simp only [List.mem_singleton] at h
      subst h
      exact .inr (find_last hp d)
  | some j =>
    have h1 := (find_old (join_place hp d)).1
    rw [join_old hp] at h h1 ⊢
    rcases List.mem_or_eq_of_mem_set h with h | h
    · exact .inl h
    · refine .inr ?_
      rw [h1, h, List.getD_eq_getElem?_getD (l := os.set j _), List.getElem?_set_self (place_lt hp)]
      rfl
/-- One part more. -/
theorem get_step {s : ByteArray} {a : Nat} {c : UInt8} {os : List Opn} (h0 : c ≠ 0) (h1 : c ≠ 255) (ha : a ≤ (bs s).length) (hs : ∀ o ∈ os, o.2.length ≤ 512) :
    ((mustT (roomO (joinO os c.toNat (bs (partT s ⟨a, false⟩).1)) c.toNat) (partT s ⟨a, false⟩).2).f = true ∧ getO (c :: (bs s).drop a) os = none) ∨
    (∃ a' : Nat, mustT (roomO (joinO os c.toNat (bs (partT s ⟨a, false⟩).1)) c.toNat) (partT s ⟨a, false⟩).2 = ⟨a', false⟩ ∧ a < a' ∧ a' ≤ (bs s).length ∧ getO (c :: (bs s).drop a) os = getO ((bs s).drop a') (joinO os c.toNat (bs (partT s ⟨a, false⟩).1)) ∧ (joinO os c.toNat (bs (partT s ⟨a, false⟩).1)).length ≤ 32 ∧ ∀ o ∈ joinO os c.toNat (bs (partT s ⟨a, false⟩).1), o.2.length ≤ 512) := by
  by_cases ha2 : a < (bs s).length
  · rw [part_is ha2]
    have hd : (bs s).drop a = (bs s)[a] :: (bs s).drop (a + 1) := List.drop_eq_getElem_cons ha2
    rw [hd]
    generalize (bs s)[a] = nb at *
    by_cases hh : ((bs s).drop (a + 1)).length < nb.toNat
    · rw [if_pos hh]
      exact .inl ⟨by simp [mustT], getO_short h0 h1 hh _⟩
    · rw [if_neg hh, getO_part h0 h1 hh]
      simp only [bs_mk]
      generalize hdd : ((bs s).drop (a + 1)).take nb.toNat = d
      cases hr : roomO (joinO os c.toNat d) c.toNat with
      | false => exact .inl ⟨by simp [mustT], by simp⟩
      | true =>
        refine .inr ⟨a + 1 + nb.toNat, by simp [mustT], by omega, ?_, by simp [List.drop_drop], ?_, ?_⟩
        · rw [List.length_drop] at hh; omega
        · simp only [roomO, Bool.and_eq_true, decide_eq_true_eq] at hr; exact hr.1
        · intro o ho
          simp only [roomO, Bool.and_eq_true, decide_eq_true_eq] at hr
          rcases join_mem ho with h | h
          · exact hs o h
          · rw [h] at hr; exact hr.2
  · have he := part_end (s := s) (a := a) (by omega)
    refine .inl ⟨by simp [mustT, he.1], ?_⟩
    rw [List.drop_eq_nil_of_le (by omega), getO_one h0 h1]
theorem num_255 (s : ByteArray) (x : Tk) : 0 ≤ (numT s 1 x).1 ∧ (numT s 1 x).1 < 256 := by
  unfold numT
  split
  · simp
  · split
    · unfold getB
      split
      · simp
      · split
        · simp
        · have := num_bd s x.at_.toNat 1
          simpa using this
    · simp
theorem part_len (s : ByteArray) (x : Tk) : (bs (partT s x).1).length ≤ 1000 := by
  have h := num_255 s x
  rw [length_bs]
  unfold partT textT
  split
  · exact Nat.zero_le _
  · split
    · simp; omega
    · exact Nat.zero_le _
theorem from_zero (s : ByteArray) (w : World) : Calls Try.prog 26 #[.string s, .int .i64 0] w fun e w' => e = .returned (.agg #[.string s, .int .i64 0, .bool false]) ∧ Below w.heap.size w w' := by
  have := from_c s 0 w
  have e : (decide ((0 : Int) < 0) || decide ((s.size : Int) < 0)) = false := by simp
  rw [e] at this
  exact this
theorem run_mkp (w : World) : (Instr.makeMap 67 none).run Try.prog w = .ok (.map (some w.heap.size)) (w.alloc (.map #[] 0)) := by
  simp [Instr.makeMap]
theorem rd_made (w0 w : World) (s : ByteArray) (hb : w0.heap.size ≤ w.heap.size) :
    RdAt ((w.alloc (.map #[] 0)).alloc (.cells #[.string s, .int .i64 0, .bool false, .slice none 0 0, .map (some w.heap.size)] 69)) w0.heap.size (w.heap.size + 1) w.heap.size s ⟨0, false⟩ [] := by
  have hz : (w.alloc (.map #[] 0)).heap.size = w.heap.size + 1 := by simp
  have hc : ∀ j v, (#[.string s, .int .i64 0, .bool false, .slice none 0 0, .map (some w.heap.size)] : Array Value)[j]? = some v → ((w.alloc (.map #[] 0)).alloc (.cells #[.string s, .int .i64 0, .bool false, .slice none 0 0, .map (some w.heap.size)] 69)).cell? ⟨w.heap.size + 1, j, none⟩ = some v := fun j v h => new_at _ _ _ j v _ hz h
  refine ⟨⟨hc 0 _ rfl, hc 1 _ rfl, hc 2 _ rfl, fun j => ?_, by simp, fun _ => ⟨by simp, by simp⟩, ⟨by simp, by simp⟩⟩, ⟨none, 0, hc 3 _ rfl, World.ownsRow_nil _ _ _ _⟩, hc 4 _ rfl, ?_, by omega, hb, by omega⟩
  · have := new_frozen (w.alloc (.map #[] 0)) #[.string s, .int .i64 0, .bool false, .slice none 0 0, .map (some w.heap.size)] 69 j
    rw [hz] at this; exact this
  · exact ⟨.map [], (World.ownsMap_made w _ _ _).alloc _, fun _ => ⟨rfl, rfl⟩⟩

/-- Where the reading stands: how far, what was taken, the next code. -/
def GetInv (s : ByteArray) (G : Option (List Opn)) (x : Tk) (os : List Opn) (cv : Int) (k : Nat) : Prop :=
  (x.f = true ∧ cv = 255 ∧ G = none) ∨ ∃ (a : Nat) (c : UInt8), x = ⟨a, false⟩ ∧ cv = c.toNat ∧ c ≠ 0 ∧ a ≤ (bs s).length ∧ G = (if c = 255 then some os else getO (c :: (bs s).drop a) os) ∧ os.length ≤ 32 ∧ (∀ o ∈ os, o.2.length ≤ 512) ∧ k = (bs s).length - a + 1
theorem inv_code {s : ByteArray} {G : Option (List Opn)} {os : List Opn} {a : Nat} (ha : a ≤ (bs s).length) (hG : G = getO ((bs s).drop a) os) (hl : os.length ≤ 32) (hs : ∀ o ∈ os, o.2.length ≤ 512) :
    GetInv s G ⟨(a + (codeL ((bs s).drop a)).1 : Nat), false⟩ os ((codeL ((bs s).drop a)).2.toNat : Int) ((bs s).length - (a + (codeL ((bs s).drop a)).1) + 1) := by
  have h1 := codeL_le ((bs s).drop a)
  rw [List.length_drop] at h1
  refine .inr ⟨_, _, rfl, rfl, codeL_ne _, by omega, ?_, hl, hs, rfl⟩
  rw [hG, getO_code, List.drop_drop]
theorem oGet_c (s : ByteArray) (w : World) (hs : s.size ≤ 1125899906842624) :
    Calls Try.prog 7 #[.string s] w fun e w' => (match getO (bs s) [] with | some os => ∃ v, e = .returned (.tuple #[v, .int .i64 0]) ∧ Opts w' w.heap.size v os | none => e = .returned (.tuple #[.slice none 0 0, .int .i64 600])) ∧ Below w.heap.size w w' := by
  have HF : Hid (∀ w, _) := fun w => from_zero s w
  have hmm := run_mkp
  have HC0 : Hid (∀ (b a : Nat) w, TkAt w b s ⟨a, false⟩ → _) := fun b a w h => code_ok b s a w h hs
  have HC1 : Hid (∀ (b : Nat) x w, TkAt w b s x → x.f = true → _) := fun b x w h hf => code_failed b s x w h hf
  have HN : Hid (∀ (b : Nat) x w, TkAt w b s x → _) := fun b x w h => number_c b s x 1 w (.inl rfl) hs h
  have HT : Hid (∀ (b : Nat) x (k : Nat) w, k ≤ 65535 → TkAt w b s x → _) := fun b x k w hk h => text_c b s x k w hs (by omega) h
  have HO : Hid (∀ (b : Nat) x w, TkAt w b s x → _) := fun b x w h => ok_c b s x w h
  have HJ : Hid (∀ (b m : Nat) x os (c : UInt8) w', RdAt w' w.heap.size b m s x os → c ≠ 0 → c ≠ 255 → (∀ o ∈ os, o.2.length ≤ 512) → os.length ≤ 32 → ∀ y, Calls Try.prog 28 #[.pointer (some ⟨b, 0, none⟩), .int .i64 (c.toNat : Int), .string (partT s y).1] w' fun e w'' => e = .returned (.tuple #[]) ∧ RdAt w'' w.heap.size b m s (mustT (roomO (joinO os c.toNat (bs (partT s y).1)) c.toNat) x) (joinO os c.toNat (bs (partT s y).1)) ∧ Below w.heap.size w' w'') := by
    intro b m x os c w' h h0 h1 h2 h3 y
    have := join_c w.heap.size b m s x os c.toNat (bs (partT s y).1) w' h (by
      have h4 : c.toNat ≠ 0 := fun e => h0 (UInt8.toNat_inj.1 (by simpa using e))
      have h5 : c.toNat ≠ 255 := fun e => h1 (UInt8.toNat_inj.1 (by simpa using e))
      have := c.toNat_lt
      omega) (part_len s y) (fun o ho => by have := h2 o ho; omega) h3
    rw [mk_bs] at this
    exact this
  have HRD : Hid (∀ w' : World, w.heap.size ≤ w'.heap.size → _) := fun w' hb => rd_made w w' s hb
  generalize hG : getO (bs s) [] = G at *
  have HG : Hid (getO (bs s) [] = G) := hG
  clear hG hs
  go_enter Try.func7, Try.ntmps7
  go_wp2_with fail
  refine (HF.out _).mono ?_; rintro e w1 ⟨rfl, hb1⟩
  have R1 : Hid (_) := HRD.out w1 hb1.size
  have hle := hb1.size
  have B1 : Hid (Below w.heap.size w ((w1.alloc (.map #[] 0)).alloc (.cells #[.string s, .int .i64 0, .bool false, .slice none 0 0, .map (some w1.heap.size)] 69))) := (hb1.alloc hle _).alloc (by simp; omega) _
  clear hb1 HF HRD
  go_wp2_with fail
  refine (HC0.out _ 0 _ R1.out.tk).mono ?_; rintro e w2 ⟨rfl, hT2, hU2⟩
  have R2 : Hid (RdAt w2 w.heap.size (w1.heap.size + 1) w1.heap.size s _ []) := R1.out.turn hT2 hU2
  have B2 : Hid (Below w.heap.size w w2) := B1.out.trans (hU2.bel.mono (by omega))
  have I2 : Hid (GetInv s G _ [] _ _) := inv_code (s := s) (G := G) (os := []) (a := 0) (Nat.zero_le _) HG.out.symm (by simp) (by simp)
  clear hT2 hU2 R1 B1 HG
  generalize ((codeL ((bs s).drop 0)).2.toNat : Int) = cv0 at *
  generalize (⟨((0 + (codeL ((bs s).drop 0)).1 : Nat) : Int), false⟩ : Tk) = x0 at *
  generalize (bs s).length - (0 + (codeL ((bs s).drop 0)).1) + 1 = k0 at *
  go_wp2_with fail
  go_loopg [5] k0 (fun k (cv : Value) wr => ∃ (x : Tk) (os : List Opn) (c : Int), cv = .int .i64 c ∧ Hid (RdAt wr w.heap.size (w1.heap.size + 1) w1.heap.size s x os) ∧ Hid (Below w.heap.size w wr) ∧ Hid (GetInv s G x os c k))
  case atStart => exact ⟨x0, [], cv0, rfl, R2, B2, I2⟩
  case round =>
    obtain ⟨x, os, c, rfl, hR, hB, hI⟩ := hrel
    by_cases hc : c = 255
    · subst hc
      go_wp2_with fail
      refine (HO.out _ _ _ hR.out.tk).mono ?_; rintro e w3 ⟨rfl, rfl⟩
      obtain ⟨a, cap, c3, hO3⟩ := hR.out.ex
      have HO3 : Hid (Opts _ (w1.heap.size + 1 + 1) (.slice a os.length cap) os) := hO3
      rcases hI.out with ⟨hf, _, hG⟩ | ⟨a0, c0, rfl, hc0, hne, hle0, hG, h32, h512, hk⟩
      · rw [hf]
        subst hG
        go_wp2
        go_ret2
        exact ⟨rfl, hB.out⟩
      · have hc1 : c0 = 255 := UInt8.toNat_inj.1 (by have : (255 : UInt8).toNat = 255 := rfl; omega)
        rw [if_pos hc1] at hG
        subst hG
        clear hc0 hc1 hne hle0 h32 h512 hk hO3 hI
        go_wp2
        go_ret2
        exact ⟨⟨_, rfl, HO3.out.base (by omega)⟩, hB.out⟩
    · rcases hI.out with ⟨_, hc2, _⟩ | ⟨a0, c0, rfl, hc0, hne, hle0, hG, h32, h512, hk⟩
      · exact absurd hc2 hc
      · have hc1 : c0 ≠ 255 := fun e => hc (by rw [hc0, e]; rfl)
        rw [if_neg hc1] at hG
        subst hc0
        have hcb : (((c0.toNat : Nat) : Int) != 255) = true := by simpa using hc
        have ST := get_step (s := s) (a := a0) (c := c0) (os := os) hne hc1 hle0 h512
        have HST : Hid (_) := ST
        have HGG : Hid (G = getO (c0 :: (bs s).drop a0) os) := hG
        have Hbd : Hid (c0 ≠ 0 ∧ c0 ≠ 255 ∧ os.length ≤ 32 ∧ (∀ o ∈ os, o.2.length ≤ 512) ∧ gk = (bs s).length - a0 + 1) := ⟨hne, hc1, h32, h512, hk⟩
        obtain ⟨kn, hkn, hkl⟩ : ∃ kn : Nat, (numT s 1 ⟨a0, false⟩).1 = kn ∧ kn ≤ 65535 := ⟨(numT s 1 ⟨a0, false⟩).1.toNat, by have := num_255 s ⟨a0, false⟩; omega, by have := num_255 s ⟨a0, false⟩; omega⟩
        have HN1 := HN.out _ _ _ hR.out.tk
        rw [hkn] at HN1
        have HPT : Hid (partT s ⟨a0, false⟩ = textT s kn (numT s 1 ⟨a0, false⟩).2) := by show _ = _; unfold partT; rw [hkn]; rfl
        clear ST hG hI hne hc1 h32 h512 hk hc hkn
        go_wp2_with fail
        refine HN1.mono ?_; rintro e w3 ⟨rfl, hT3, hU3⟩
        have R3 : Hid (RdAt w3 w.heap.size (w1.heap.size + 1) w1.heap.size s (numT s 1 ⟨a0, false⟩).2 os) := hR.out.turn hT3 hU3
        have B3 : Hid (Below w.heap.size w w3) := hB.out.trans (hU3.bel.mono (by omega))
        clear hT3 hU3 hR hB HN1
        go_wp2_with fail
        refine (HT.out _ _ kn _ hkl R3.out.tk).mono ?_; rintro e w4 ⟨rfl, hT4, hU4⟩
        rw [← HPT.out] at hT4 ⊢
        have R4 : Hid (RdAt w4 w.heap.size (w1.heap.size + 1) w1.heap.size s (partT s ⟨a0, false⟩).2 os) := R3.out.turn hT4 hU4
        have B4 : Hid (Below w.heap.size w w4) := B3.out.trans (hU4.bel.mono (by omega))
        clear hT4 hU4 R3 B3 HPT
        have HJ1 := HJ.out _ _ _ _ c0 _ R4.out Hbd.out.1 Hbd.out.2.1 Hbd.out.2.2.2.1 Hbd.out.2.2.1 ⟨a0, false⟩
        go_wp2_with fail
        refine HJ1.mono ?_; rintro e w5 ⟨rfl, hR5, hB5⟩
        have R5 : Hid (_) := hR5
        have B5 : Hid (Below w.heap.size w w5) := B4.out.trans hB5
        clear hR5 hB5 R4 B4 HJ1
        rcases HST.out with ⟨hf, hno⟩ | ⟨a', hx, hlt, hle', hgo, h32', h512'⟩
        · have HC2 := HC1.out _ _ _ R5.out.tk hf
          have I5 : Hid (GetInv s G (mustT (roomO (joinO os c0.toNat (bs (partT s ⟨a0, false⟩).1)) c0.toNat) (partT s ⟨a0, false⟩).2) (joinO os c0.toNat (bs (partT s ⟨a0, false⟩).1)) 255 0) := .inl ⟨hf, rfl, by rw [HGG.out, hno]⟩
          have hk0 : Hid (0 < gk) := by show _ < _; have := Hbd.out.2.2.2.2; omega
          generalize mustT (roomO (joinO os c0.toNat (bs (partT s ⟨a0, false⟩).1)) c0.toNat) (partT s ⟨a0, false⟩).2 = X5 at *
          generalize joinO os c0.toNat (bs (partT s ⟨a0, false⟩).1) = O5 at *
          clear HST hf hno HGG Hbd
          go_wp2_with fail
          refine HC2.mono ?_; rintro e w6 ⟨rfl, rfl⟩
          go_wp2
          go_roundg 0
          case measure => exact hk0.out
          case rel => exact ⟨X5, O5, 255, rfl, R5, B5, I5⟩
        · rw [hx] at R5
          have HC2 := HC0.out _ a' _ R5.out.tk
          have I5 : Hid (GetInv s G _ _ _ _) := inv_code (s := s) (G := G) (os := joinO os c0.toNat (bs (partT s ⟨a0, false⟩).1)) (a := a') hle' (by rw [HGG.out, hgo]) h32' h512'
          have hk0 : Hid ((bs s).length - (a' + (codeL ((bs s).drop a')).1) + 1 < gk) := by show _ < _; have := Hbd.out.2.2.2.2; omega
          generalize joinO os c0.toNat (bs (partT s ⟨a0, false⟩).1) = O5 at *
          generalize (bs s).length - (a' + (codeL ((bs s).drop a')).1) + 1 = k5 at *
          generalize (⟨((a' + (codeL ((bs s).drop a')).1 : Nat) : Int), false⟩ : Tk) = X5 at *
          generalize ((codeL ((bs s).drop a')).2.toNat : Int) = c5 at *
          clear HST hx hgo HGG Hbd hlt hle' h32' h512'
          go_wp2_with fail
          refine HC2.mono ?_; rintro e w6 ⟨rfl, hT6, hU6⟩
          have R6 : Hid (RdAt w6 w.heap.size (w1.heap.size + 1) w1.heap.size s X5 O5) := R5.out.turn hT6 hU6
          have B6 : Hid (Below w.heap.size w w6) := B5.out.trans (hU6.bel.mono (by omega))
          clear hT6 hU6 R5 B5 HC2
          go_wp2
          go_roundg k5
          case measure => exact hk0.out
          case rel => exact ⟨X5, O5, c5, rfl, R6, B6, I5⟩

/-- Find's answer. -/
def findA (os : List Opn) (c : Int) : List UInt8 × Bool := ((findO os c).getD [], (findO os c).isSome)
theorem find_at (os : List Opn) (c : Int) : (∃ j, j < os.length ∧ (opAt os j).1 = c ∧ findO os c = some (opAt os j).2 ∧ ∀ i, i < j → (opAt os i).1 ≠ c) ∨ (findO os c = none ∧ ∀ i, i < os.length → (opAt os i).1 ≠ c) := by
  induction os with
  | nil => exact .inr ⟨rfl, fun i hi => by simp at hi⟩
  | cons k r ih =>
    by_cases h : k.1 = c
    · exact .inl ⟨0, by simp, h, by simp [findO, h, opAt], fun i hi => by omega⟩
    · rcases ih with ⟨j, hj, h1, h2, h3⟩ | ⟨h1, h2⟩
      · refine .inl ⟨j + 1, by simp; omega, h1, ?_, fun i hi => ?_⟩
        · simp only [findO, if_neg h, h2]; rfl
        · cases i with
          | zero => exact h
          | succ i => exact h3 i (by omega)
      · refine .inr ⟨by simp [findO, h, h1], fun i hi => ?_⟩
        cases i with
        | zero => exact h
        | succ i => exact h2 i (by simp at hi; omega)
theorem find_from (x : Addr) (cap : Nat) (os : List Opn) (c : Int) (w : World) (hl : os.length ≤ 10000000000000) (h : OpFrom w x os) :
    Calls Try.prog 8 #[.slice (some x) os.length cap, .int .i64 c] w fun e w' => e = .returned (.tuple #[.string (mk (findA os c).1), .bool (findA os c).2]) ∧ Below w.heap.size w w' := by
  have HF : Hid (_) := find_at os c
  have HA : Hid (findA os c = ((findO os c).getD [], (findO os c).isSome)) := rfl
  generalize findA os c = V at *
  generalize findO os c = U at *
  have H : Hid (OpFrom w x os) := h
  clear h
  go_enter Try.func8, Try.ntmps8
  go_wp2
  go_loopw [10] (fun i wr => ∃ j : Nat, j ≤ os.length ∧ i = .int .i64 j ∧ Hid (∀ i, i < j → (opAt os i).1 ≠ c) ∧ Hid (Below w.heap.size w wr)) (fun i _ => os.length - (intOf i).toNat)
  case atStart => exact ⟨0, Nat.zero_le _, rfl, fun i hi => by omega, Below.refl _ _⟩
  case round =>
    obtain ⟨j, hj, rfl, hall, B⟩ := hrel
    by_cases hlt : j < os.length
    · obtain ⟨h0, h1⟩ := (H.out j hlt).below B.out
      by_cases he : (opAt os j).1 = c
      · have HV : Hid (V = ((opAt os j).2, true)) := by
          show _ = _
          rcases HF.out with ⟨i, hi, h1, h2, h3⟩ | ⟨h1, h2⟩
          · have : i = j := by
              rcases Nat.lt_trichotomy i j with hh | hh | hh
              · exact absurd h1 (hall.out i hh)
              · exact hh
              · exact absurd he (h3 j hh)
            subst this; rw [HA.out, h2]; rfl
          · exact absurd he (h2 j hlt)
        have heq : ((opAt os j).1 == c) = true := by simpa using he
        generalize (opAt os j).1 = cj at *
        generalize (opAt os j).2 = dj at *
        subst he
        clear HF hall HA
        go_wp2
        go_ret2
        refine ⟨?_, B.out.alloc B.out.size _⟩
        rw [HV.out]
        rfl
      · have heq : ((opAt os j).1 == c) = false := by simpa using he
        have Hne : Hid ((opAt os j).1 ≠ c) := he
        clear he
        go_wp2
        refine ⟨⟨j + 1, by omega, by go_num, fun i hi => ?_, B.out.alloc B.out.size _⟩, by simp [intOf]; omega⟩
        by_cases e : i = j
        · subst e; exact Hne.out
        · exact hall.out i (by omega)
    · obtain rfl : j = os.length := by omega
      have HV : Hid (V = ([], false)) := by
        show _ = _
        rcases HF.out with ⟨i, hi, h1, h2, h3⟩ | ⟨h1, h2⟩
        · exact absurd h1 (hall.out i hi)
        · rw [HA.out, h1]; rfl
      go_wp2
      go_ret2
      refine ⟨?_, B.out⟩
      rw [HV.out]
      rfl
theorem find_nil (a : Option Addr) (cap : Nat) (c : Int) (w : World) :
    Calls Try.prog 8 #[.slice a 0 cap, .int .i64 c] w fun e w' => e = .returned (.tuple #[.string ⟨#[]⟩, .bool false]) ∧ w' = w := by
  go_enter Try.func8, Try.ntmps8
  go_wp2
  go_rounds 1
  go_ret2
  exact ⟨rfl, rfl⟩
theorem oFind_c (a : Option Addr) (cap : Nat) (os : List Opn) (c : Int) (w : World) (hl : os.length ≤ 10000000000000) (h : OpLies w a os) :
    Calls Try.prog 8 #[.slice a os.length cap, .int .i64 c] w fun e w' => e = .returned (.tuple #[.string (mk (findA os c).1), .bool (findA os c).2]) ∧ Below w.heap.size w w' := by
  rcases h with rfl | ⟨x, rfl, h⟩
  · exact (find_nil a cap c w).mono fun e w' ⟨h1, h2⟩ => ⟨h1, by rw [h2]; exact Below.refl _ _⟩
  · exact find_from x cap os c w hl h

/-! ### the answers named -/
theorem oGet_yes (s : ByteArray) (os : List Opn) (w : World) (hs : s.size ≤ 1125899906842624) (h : getO (bs s) [] = some os) :
    Calls Try.prog 7 #[.string s] w fun e w' => (∃ v, e = .returned (.tuple #[v, .int .i64 0]) ∧ Opts w' w.heap.size v os) ∧ Below w.heap.size w w' := by
  have := oGet_c s w hs
  rw [h] at this
  exact this
theorem oGet_no (s : ByteArray) (w : World) (hs : s.size ≤ 1125899906842624) (h : getO (bs s) [] = none) :
    Calls Try.prog 7 #[.string s] w fun e w' => e = .returned (.tuple #[.slice none 0 0, .int .i64 600]) ∧ Below w.heap.size w w' := by
  have := oGet_c s w hs
  rw [h] at this
  exact this
end Go.Proofs.Ytegoaaamlfehpaa
