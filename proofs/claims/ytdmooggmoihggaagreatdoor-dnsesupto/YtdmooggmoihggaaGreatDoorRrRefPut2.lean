/-
  The references' PutRr answers what 'putL' says, at every place, known names and record (texts of at most 1048576 letters).
-/
import Derived.Test.YtdmooggmoihggaaGreatDoorRrRefPut
import Derived.Test.YtdmooggmoihggaaGreatDoorBName
namespace Go.Proofs.YtdmooggmoihggaaGreatDoor
set_option maxRecDepth 100000
open Go.ChangeShapes Go.WideShapes Go.ChangeAt Go.RowKit Go.Pin Go.PlainAid

theorem put_text (r : Rec) (A D : List UInt8) : mk (A ++ bs (be r.ty 2) ++ bs (be 1 2) ++ bs (be r.ttl 4) ++ bs (be D.length 2) ++ D) = mk A ++ nb r.ty 2 ++ nb 1 2 ++ nb r.ttl 4 ++ nb (mk D).size 2 ++ mk D := by
  simp only [← mk_append, mk_bs, nb, size_mk]; rfl
theorem refPut_c (at_ : Int) (a : Option Addr) (cap : Nat) (ks : List Kn) (r : Rec) (w : World) (hn : r.n.size ≤ 1048576) (hg : r.tg.size ≤ 1048576) (hl : ks.length ≤ 1048500) (hks : ∀ k ∈ ks, k.1.length ≤ 1048576) (hk : KnLies w a ks) :
    Calls Tryz.prog 48 #[.int .i64 at_, .slice a ks.length cap, rv r] w fun e w' => (match putL at_ ks r with | none => e = .returned (.tuple #[.string ⟨#[]⟩, .slice none 0 0, .int .i64 400]) | some (P, ks') => ∃ v, e = .returned (.tuple #[.string (mk P), v, .int .i64 0]) ∧ Knowns w' w.heap.size v ks') ∧ Below w.heap.size w w' := by
  unfold putL
  cases hm : mayR r with
  | false => simp only [Bool.false_and, Bool.false_eq_true, if_false]; exact refPut_no1 at_ _ r w hm hn hg
  | true =>
    cases hp : mayPutL at_ ks (bs r.n) with
    | false => simp only [Bool.true_and, Bool.false_eq_true, if_false]; exact refPut_no2 at_ a cap ks r w hm hp hn hg hl hks hk
    | true =>
      simp only [Bool.and_self, if_true]
      obtain ⟨N, eN⟩ : ∃ N, mk (putS ks (labsL (bs r.n))) = N := ⟨_, rfl⟩
      obtain ⟨k0, ek⟩ : ∃ k0, ks ++ putN ks at_ (labsL (bs r.n)) = k0 := ⟨_, rfl⟩
      have hNl : (putS ks (labsL (bs r.n))).length = N.size := by rw [← eN, size_mk]
      have hty := (may_zero hm).2
      simp only [typeB, isN, isT, Bool.or_eq_true, decide_eq_true_eq] at hty
      have nm : ∀ t : Int, (t = 2 ∨ t = 5 ∨ t = 12) → r.ty = t → dataL (at_ + (putS ks (labsL (bs r.n))).length + 10) (ks ++ putN ks at_ (labsL (bs r.n))) r = if mayPutL (at_ + N.size + 10) k0 (bs r.tg) then some (putS k0 (labsL (bs r.tg)), k0 ++ putN k0 (at_ + N.size + 10) (labsL (bs r.tg))) else none := by
        intro t ht h
        rw [hNl, ek]
        have h1 : ¬ r.ty = 1 := by omega
        have h2 : isN r.ty = true := by simp [isN]; omega
        simp [dataL, h1, h2]
      have hs : r.ty = 6 → dataL (at_ + (putS ks (labsL (bs r.n))).length + 10) (ks ++ putN ks at_ (labsL (bs r.n))) r = dataL (at_ + N.size + 10) k0 r := fun _ => by rw [hNl, ek]
      rcases hty with ((ht | ht | ht | ht) | ht) | ht | ht
      · have e : dataL (at_ + (putS ks (labsL (bs r.n))).length + 10) (ks ++ putN ks at_ (labsL (bs r.n))) r = some (bs (be r.ad 4), k0) := by rw [ek]; simp [dataL, ht]
        rw [e]
        simp only [put_text, eN, mk_bs]
        exact refPut_1 at_ a cap ks r w N k0 eN ek hm hp hn hg hl hks hk ht _ rfl
      · rw [nm 2 (by omega) ht]
        cases hd : mayPutL (at_ + N.size + 10) k0 (bs r.tg) with
        | true => simp only [if_true, put_text, eN]; exact refPut_2 at_ a cap ks r w N k0 eN ek hm hp hn hg hl hks hk ht _ _ rfl rfl hd
        | false => simp only [Bool.false_eq_true, if_false]; exact refPut_2_no at_ a cap ks r w N k0 eN ek hm hp hn hg hl hks hk ht hd
      · rw [nm 5 (by omega) ht]
        cases hd : mayPutL (at_ + N.size + 10) k0 (bs r.tg) with
        | true => simp only [if_true, put_text, eN]; exact refPut_5 at_ a cap ks r w N k0 eN ek hm hp hn hg hl hks hk ht _ _ rfl rfl hd
        | false => simp only [Bool.false_eq_true, if_false]; exact refPut_5_no at_ a cap ks r w N k0 eN ek hm hp hn hg hl hks hk ht hd
      · rw [nm 12 (by omega) ht]
        cases hd : mayPutL (at_ + N.size + 10) k0 (bs r.tg) with
        | true => simp only [if_true, put_text, eN]; exact refPut_12 at_ a cap ks r w N k0 eN ek hm hp hn hg hl hks hk ht _ _ rfl rfl hd
        | false => simp only [Bool.false_eq_true, if_false]; exact refPut_12_no at_ a cap ks r w N k0 eN ek hm hp hn hg hl hks hk ht hd
      · rw [hs ht]
        obtain ⟨D, eD⟩ : ∃ D, mk (putS k0 (labsL (bs r.tg))) = D := ⟨_, rfl⟩
        obtain ⟨k1, ek1⟩ : ∃ k1, k0 ++ putN k0 (at_ + N.size + 10) (labsL (bs r.tg)) = k1 := ⟨_, rfl⟩
        have hDl : (putS k0 (labsL (bs r.tg))).length = D.size := by rw [← eD, size_mk]
        cases hd : mayPutL (at_ + N.size + 10) k0 (bs r.tg) with
        | false =>
          have e : dataL (at_ + N.size + 10) k0 r = none := by simp [dataL, ht, isN, hd]
          rw [e]
          exact refPut_6_no at_ a cap ks r w N k0 eN ek hm hp hn hg hl hks hk ht hd
        | true =>
          cases hd2 : mayPutL (at_ + N.size + 10 + D.size) k1 (bs r.tg) with
          | false =>
            have e : dataL (at_ + N.size + 10) k0 r = none := by
              unfold dataL
              rw [if_neg (by omega), if_neg (by simp [isN, ht]), if_pos ht, if_pos hd, hDl, ek1, if_neg (by rw [hd2]; simp)]
            rw [e]
            exact refPut_6_no2 at_ a cap ks r w N k0 eN ek hm hp hn hg hl hks hk ht _ _ eD ek1 hd hd2
          | true =>
            have e : dataL (at_ + N.size + 10) k0 r = some (putS k0 (labsL (bs r.tg)) ++ putS k1 (labsL (bs r.tg)) ++ bs (be r.se 4) ++ bs (be 60 4) ++ bs (be 60 4) ++ bs (be 600 4) ++ bs (be 60 4), k1 ++ putN k1 (at_ + N.size + 10 + D.size) (labsL (bs r.tg))) := by
              unfold dataL
              rw [if_neg (by omega), if_neg (by simp [isN, ht]), if_pos ht, if_pos hd, hDl, ek1, if_pos hd2]
            rw [e]
            simp only [put_text, eN]
            exact refPut_6 at_ a cap ks r w N k0 eN ek hm hp hn hg hl hks hk ht _ _ eD ek1 _ _ rfl rfl hd hd2 _ (by simp only [← mk_append, mk_bs, nb, eD]; rfl)
      · have e : dataL (at_ + (putS ks (labsL (bs r.n))).length + 10) (ks ++ putN ks at_ (labsL (bs r.n))) r = some (bs (be r.tx.size 1) ++ bs r.tx, k0) := by rw [ek]; simp [dataL, ht, isN]
        rw [e]
        simp only [put_text, eN]
        exact refPut_16 at_ a cap ks r w N k0 eN ek hm hp hn hg hl hks hk ht _ (by simp only [← mk_append, mk_bs, nb]; rfl)
      · have e : dataL (at_ + (putS ks (labsL (bs r.n))).length + 10) (ks ++ putN ks at_ (labsL (bs r.n))) r = some (bs r.tx, k0) := by rw [ek]; simp [dataL, ht, isN]
        rw [e]
        simp only [put_text, eN, mk_bs]
        exact refPut_49 at_ a cap ks r w N k0 eN ek hm hp hn hg hl hks hk ht

end Go.Proofs.YtdmooggmoihggaaGreatDoor
