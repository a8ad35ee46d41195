/-
  The walk of minuetlaw17's PackBack, under what the program must answer: its four ways together. Conditions: as the theorem's premises say.
-/
import Derived.Test.YtjmfjlffcopnnaaDoorLw4
namespace Go.Proofs.YtjmfjlffcopnnaaDoor
open Go.RowKit
open Go.Proofs.YtjmfjlffcopnnaaDoor.K (C RowC MayP)

open Classical in
theorem back_true (PP : PutPr) (GP : GetPr) (MP : MayPr) (m : Ms) (q : Mq) (s : ByteArray) (w : World) (TB : Tb w) (AW : ∀ W, Bl w W → Calls Tryd.prog 5 #[] W (RetBelow (.returned (.bool true)) W)) (hz : MsB m) (hr : MsR w m q) (hs : s.size ≤ 140737488355328) : Calls Tryd.prog 3 #[msV m q, .string s] w (RetBelow (.returned (.bool true)) w) := by
  have PA : ∀ W, Bl w W → Calls Tryd.prog 6 #[msV m q] W (PutD m W) := fun W hW => PP m q W (Tb.bl TB hW) hz.z (hr.below hW)
  have GA : ∀ W, Calls Tryd.prog 8 #[.string s] W (GetW s W) := fun W => GP s W hs
  by_cases hg : Goes m
  · obtain ⟨e1, e2, e3⟩ := put_yes hg
    have hs1 : (putZ m).size ≤ 1000000 := e3.2.2
    have hs0 : 0 < (putZ m).size := by
      rcases Nat.eq_zero_or_pos (putZ m).size with e | e
      · exact absurd (e1.symm.trans (List.eq_nil_of_length_eq_zero (by rw [bytes_len]; exact e))) (msg_ne m)
      · exact e
    have P1 : ∀ W, Bl w W → Calls Tryd.prog 6 #[msV m q] W (fun e w' => e = .returned (.tuple #[.string (putZ m), .int .i64 0]) ∧ Below W.heap.size W w') := fun W hW => by
      have := PA W hW
      unfold PutD at this
      rwa [e2] at this
    have G1 : ∀ W, Calls Tryd.prog 8 #[.string (putZ m)] W (GetI m W) := fun W => (GP _ W (by omega)).mono (fun _ _ h => getI_of h e3)
    have G2 : ∀ W, Calls Tryd.prog 8 #[.string (putZ m ++ ⟨#[48]⟩)] W (GetN W) := fun W => (GP _ W (by rw [← bytes_len, bytes_app, List.length_append, bytes_len]; show _ + 1 ≤ _; omega)).mono (fun _ _ h => getN_of h (cut_no hg (r := [48]) (by simp) (.inl (by rw [bytes_app, e1]; rfl))))
    have G3 : ∀ W, Calls Tryd.prog 8 #[.string ((putZ m).extract 0 ((putZ m).size - 1))] W (GetN W) := fun W => (GP _ W (by rw [← bytes_len, bytes_extract, List.length_take, from_len]; omega)).mono (fun _ _ h => getN_of h (cut_no hg (r := fromL (putZ m) ((putZ m).size - 1)) (by intro e; have := from_len (putZ m) ((putZ m).size - 1); rw [e] at this; simp at this; omega) (.inr (by rw [← e1, bytes_extract]; unfold fromL bytesOf; simp))))
    have SM : ∀ W q2, MsR W m q2 → Bl w W → Calls Tryd.prog 9 #[msV m q2, msV m q] W (RetBelow (.returned (.bool true)) W) := fun W q2 h hW => sameMsg_true m q2 q W hz.z h (hr.below hW)
    have MA : ∀ W, Bl w W → Calls Tryd.prog 10 #[msV m q] W (RetBelow (.returned (.bool true)) W) := fun W hW => by
      have := MP m q W hz.z (hr.below hW)
      rwa [decide_eq_true hg.1] at this
    by_cases hi : ∃ c, Is s c
    · obtain ⟨c, hc⟩ := hi
      obtain ⟨f1, f2⟩ := goes_is hc
      have f3 := (put_yes f1).2.1
      have cz : MsZ c := by rw [← (getM_is hc).1]; exact getM_z s
      exact back_gy m q s w AW (putZ m) hs0 hs1 (Lib.hid P1) (Lib.hid G1) (Lib.hid G2) (Lib.hid G3) (Lib.hid SM) (Lib.hid MA) c (Lib.hid (fun W => (GA W).mono (fun _ _ h => getI_of h hc))) (Lib.hid (fun W q4 hW h => by
        have := PP c q4 W (Tb.bl TB hW) cz h
        unfold PutD at this
        rw [f2, f3] at this
        exact this))
    · exact back_gn m q s w AW (putZ m) hs0 hs1 (Lib.hid P1) (Lib.hid G1) (Lib.hid G2) (Lib.hid G3) (Lib.hid SM) (Lib.hid MA) (Lib.hid (fun W => (GA W).mono (fun _ _ h => getN_of h (getM_no hi))))
  · have P1 : ∀ W, Bl w W → Calls Tryd.prog 6 #[msV m q] W (fun e w' => e = .returned (.tuple #[.string ⟨#[]⟩, .int .i64 1700]) ∧ Below W.heap.size W w') := fun W hW => by
      have := PA W hW
      unfold PutD at this
      rwa [(put_not hg).1, (put_not hg).2] at this
    by_cases hi : ∃ c, Is s c
    · obtain ⟨c, hc⟩ := hi
      obtain ⟨f1, f2⟩ := goes_is hc
      have f3 := (put_yes f1).2.1
      have cz : MsZ c := by rw [← (getM_is hc).1]; exact getM_z s
      exact back_ny m q s w AW (Lib.hid P1) c (Lib.hid (fun W => (GA W).mono (fun _ _ h => getI_of h hc))) (Lib.hid (fun W q4 hW h => by
        have := PP c q4 W (Tb.bl TB hW) cz h
        unfold PutD at this
        rw [f2, f3] at this
        exact this))
    · exact back_nn m q s w AW (Lib.hid P1) (Lib.hid (fun W => (GA W).mono (fun _ _ h => getN_of h (getM_no hi))))

end Go.Proofs.YtjmfjlffcopnnaaDoor
