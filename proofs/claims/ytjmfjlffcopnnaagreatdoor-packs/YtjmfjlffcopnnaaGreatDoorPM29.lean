/-
  GetMsg at a poll's letter: the walk (made by tools/gentt.py). Conditions: as each theorem's premises say.
-/
import Derived.Test.YtjmfjlffcopnnaaGreatDoorPM26
import Derived.Test.YtjmfjlffcopnnaaGreatDoorPM28
namespace Go.Proofs.YtjmfjlffcopnnaaGreatDoor
open Go.RowKit
open Go.Proofs.YtjmfjlffcopnnaaGreatDoor.K (C)

set_option maxRecDepth 100000 in
set_option maxHeartbeats 8000000 in
theorem get_poll (s : ByteArray) (w : World) (h0 : 0 < s.size) (hs : s.size ≤ 1000000) (hc : s[0] = 80) : Calls Tryz.prog 9 #[.string s] w (GetP s w) := by
  have BH : Hid (bytesOf s = 80 :: fromL s 1) := Lib.hid (bytes_head h0 hc)
  have h1 : (0 : Int) < (s.size : Int) := by omega
  have h2 : (s.size : Int) ≤ 1000000 := by omega
  go_enter Tryz.func9, Tryz.ntmps9
  go_upto_region 4 with fail
  have R0 : Hid (((w.alloc (.cells #[.int .i64 0, .int .i64 0, .int .i64 0, .int .i64 0, .int .i64 0, .int .i64 0, .bool false, .slice none 0 0, .slice none 0 0, .string ⟨#[]⟩, .int .i64 0, .int .i64 0, .slice none 0 0] 28)).alloc (.cells #[.string s, .int .i64 1, .bool false] 74)).heap[w.heap.size]? = some (.cells #[.int .i64 0, .int .i64 0, .int .i64 0, .int .i64 0, .int .i64 0, .int .i64 0, .bool false, .slice none 0 0, .slice none 0 0, .string ⟨#[]⟩, .int .i64 0, .int .i64 0, .slice none 0 0] 28 (0, 0))) := Lib.hid (heap_old (heap_alloc_new w _) _)
  have T0 : Hid (TkAt ((w.alloc (.cells #[.int .i64 0, .int .i64 0, .int .i64 0, .int .i64 0, .int .i64 0, .int .i64 0, .bool false, .slice none 0 0, .slice none 0 0, .string ⟨#[]⟩, .int .i64 0, .int .i64 0, .slice none 0 0] 28)).alloc (.cells #[.string s, .int .i64 1, .bool false] 74)) (w.heap.size + 1) s 1 false) := Lib.hid ⟨heap_new (by simp) _ _, by omega⟩
  have B0 : Hid (Below w.heap.size w ((w.alloc (.cells #[.int .i64 0, .int .i64 0, .int .i64 0, .int .i64 0, .int .i64 0, .int .i64 0, .bool false, .slice none 0 0, .slice none 0 0, .string ⟨#[]⟩, .int .i64 0, .int .i64 0, .slice none 0 0] 28)).alloc (.cells #[.string s, .int .i64 1, .bool false] 74))) := Lib.hid (below1 (below1 (Below.refl _ _) (Nat.le_refl _) _) (by simp) _)
  have Z0 : Hid (w.heap.size + 1 < ((w.alloc (.cells #[.int .i64 0, .int .i64 0, .int .i64 0, .int .i64 0, .int .i64 0, .int .i64 0, .bool false, .slice none 0 0, .slice none 0 0, .string ⟨#[]⟩, .int .i64 0, .int .i64 0, .slice none 0 0] 28)).alloc (.cells #[.string s, .int .i64 1, .bool false] 74)).heap.size) := Lib.hid (by simp)
  generalize (w.alloc (.cells #[.int .i64 0, .int .i64 0, .int .i64 0, .int .i64 0, .int .i64 0, .int .i64 0, .bool false, .slice none 0 0, .slice none 0 0, .string ⟨#[]⟩, .int .i64 0, .int .i64 0, .slice none 0 0] 28)).alloc (.cells #[.string s, .int .i64 1, .bool false] 74) = w0 at R0 T0 B0 Z0 ⊢
  have NR : Hid (w.heap.size ≠ w.heap.size + 1) := Lib.hid (by omega)
  have RT : Hid (w.heap.size ≤ w.heap.size + 1) := Lib.hid (by omega)
  generalize htb : w.heap.size + 1 = tb at T0 Z0 NR RT ⊢
  clear htb
  generalize hrb : w.heap.size = rb at R0 NR ⊢
  have RB : Hid (w.heap.size ≤ rb) := Lib.hid (by rw [hrb]; exact Nat.le_refl _)
  clear hrb
  go_upto_region 5 with (go_at_call 29; refine (num_t s tb 1 false w0 hs T0.out).mono ?_; rintro e va1 ⟨xa1, qa1, da1, rfl, he, hT, hg⟩; have Ea1 := Lib.hid he; have Sa1 := Lib.hid hT; have Ha1 := Lib.hid hg; clear he hT hg)
  have Ya1 : Hid ((va1.alloc (.cells #[.int .i64 0, .int .i64 xa1, .int .i64 0, .int .i64 0, .int .i64 0, .int .i64 0, .bool false, .slice none 0 0, .slice none 0 0, .string ⟨#[]⟩, .int .i64 0, .int .i64 0, .slice none 0 0] 28)).heap[va1.heap.size]? = some (.cells #[.int .i64 0, .int .i64 xa1, .int .i64 0, .int .i64 0, .int .i64 0, .int .i64 0, .bool false, .slice none 0 0, .slice none 0 0, .string ⟨#[]⟩, .int .i64 0, .int .i64 0, .slice none 0 0] 28 (0, 0))) := Lib.hid (heap_alloc_new va1 _)
  have Ta1 := Lib.hid (Sa1.out.kept (World.grownBy_alloc va1 (.cells #[.int .i64 0, .int .i64 xa1, .int .i64 0, .int .i64 0, .int .i64 0, .int .i64 0, .bool false, .slice none 0 0, .slice none 0 0, .string ⟨#[]⟩, .int .i64 0, .int .i64 0, .slice none 0 0] 28) none) (fun g e => by cases e))
  have Ga1 : Hid (w0.grownBy (va1.alloc (.cells #[.int .i64 0, .int .i64 xa1, .int .i64 0, .int .i64 0, .int .i64 0, .int .i64 0, .bool false, .slice none 0 0, .slice none 0 0, .string ⟨#[]⟩, .int .i64 0, .int .i64 0, .slice none 0 0] 28)) (some tb)) := Lib.hid (grown_trans Ha1.out (World.grownBy_alloc va1 _ (some tb)) (fun g e => .inl e))
  have La : Hid (w0.heap.size ≤ va1.heap.size) := Lib.hid Ha1.out.size
  have NEa : Hid (va1.heap.size ≠ tb) := Lib.hid (Sa1.out.out_of (Nat.le_refl _))
  clear Sa1 Ha1
  generalize va1.alloc (.cells #[.int .i64 0, .int .i64 xa1, .int .i64 0, .int .i64 0, .int .i64 0, .int .i64 0, .bool false, .slice none 0 0, .slice none 0 0, .string ⟨#[]⟩, .int .i64 0, .int .i64 0, .slice none 0 0] 28) = ua1 at Ya1 Ta1 Ga1 ⊢
  generalize hyb : va1.heap.size = ba at Ya1 La NEa ⊢
  clear hyb
  go_upto_region 6 with (go_at_call 29; refine (num_t s tb qa1 da1 ua1 hs Ta1.out).mono ?_; rintro e va2 ⟨xa2, qa2, da2, rfl, he, hT, hg⟩; have Ea2 := Lib.hid he; have Sa2 := Lib.hid hT; have Ha2 := Lib.hid hg; have Xa2 := Lib.hid (box_kept Ya1.out hg NEa.out); have ca_2 := (obj_cells Xa2.out).1 2 _ rfl; have fa := (obj_cells Xa2.out).2.1 2; clear he hT hg)
  have Ya2 : Hid ((va2.setCell ⟨ba, 2, none⟩ (.int .i64 xa2)).heap[ba]? = some (.cells #[.int .i64 0, .int .i64 xa1, .int .i64 xa2, .int .i64 0, .int .i64 0, .int .i64 0, .bool false, .slice none 0 0, .slice none 0 0, .string ⟨#[]⟩, .int .i64 0, .int .i64 0, .slice none 0 0] 28 (0, 0))) := Lib.hid (by rw [heap_setCell_at Xa2.out]; rfl)
  have Ta2 : Hid (TkAt (va2.setCell ⟨ba, 2, none⟩ (.int .i64 xa2)) tb s qa2 da2) := Lib.hid (Sa2.out.kept (set_grown va2 ba 2 (.int .i64 xa2)) (fun g e => by cases e; exact NEa.out))
  have Ga2 : Hid (w0.grownBy (va2.setCell ⟨ba, 2, none⟩ (.int .i64 xa2)) (some tb)) := Lib.hid (grown_trans (grown_trans Ga1.out Ha2.out (fun g e => .inl e)) (set_grown va2 ba 2 (.int .i64 xa2)) (fun g e => by cases e; exact .inr La.out))
  clear Sa2 Ha2 Xa2 ca_2 fa
  generalize va2.setCell ⟨ba, 2, none⟩ (.int .i64 xa2) = ua2 at Ya2 Ta2 Ga2 ⊢
  clear Ya1 Ta1 Ga1
  go_upto_region 15 with fail
  go_upto_region 16 with (go_at_call 29; refine (num_t s tb qa2 da2 ua2 hs Ta2.out).mono ?_; rintro e va3 ⟨xa3, qa3, da3, rfl, he, hT, hg⟩; have Ea3 := Lib.hid he; have Sa3 := Lib.hid hT; have Ha3 := Lib.hid hg; have Xa3 := Lib.hid (box_kept Ya2.out hg NEa.out); have ca_3 := (obj_cells Xa3.out).1 3 _ rfl; have fa := (obj_cells Xa3.out).2.1 3; clear he hT hg)
  have Ya3 : Hid ((va3.setCell ⟨ba, 3, none⟩ (.int .i64 xa3)).heap[ba]? = some (.cells #[.int .i64 0, .int .i64 xa1, .int .i64 xa2, .int .i64 xa3, .int .i64 0, .int .i64 0, .bool false, .slice none 0 0, .slice none 0 0, .string ⟨#[]⟩, .int .i64 0, .int .i64 0, .slice none 0 0] 28 (0, 0))) := Lib.hid (by rw [heap_setCell_at Xa3.out]; rfl)
  have Ta3 : Hid (TkAt (va3.setCell ⟨ba, 3, none⟩ (.int .i64 xa3)) tb s qa3 da3) := Lib.hid (Sa3.out.kept (set_grown va3 ba 3 (.int .i64 xa3)) (fun g e => by cases e; exact NEa.out))
  have Ga3 : Hid (w0.grownBy (va3.setCell ⟨ba, 3, none⟩ (.int .i64 xa3)) (some tb)) := Lib.hid (grown_trans (grown_trans Ga2.out Ha3.out (fun g e => .inl e)) (set_grown va3 ba 3 (.int .i64 xa3)) (fun g e => by cases e; exact .inr La.out))
  clear Sa3 Ha3 Xa3 ca_3 fa
  generalize va3.setCell ⟨ba, 3, none⟩ (.int .i64 xa3) = ua3 at Ya3 Ta3 Ga3 ⊢
  clear Ya2 Ta2 Ga2
  go_upto_region 24 with (go_at_call 30; refine (comps_t s tb qa3 da3 ua3 hs Ta3.out).mono ?_; rintro e va4 ⟨cpa, cca, ma, qa4, da4, rfl, hO, he, hT, hg⟩; have Ea4 := Lib.hid he; have Sa4 := Lib.hid hT; have Ha4 := Lib.hid hg; have Oa4 := Lib.hid hO; clear hO; have Xa4 := Lib.hid (box_kept Ya3.out hg NEa.out); have ca_7 := (obj_cells Xa4.out).1 7 _ rfl; have fa := (obj_cells Xa4.out).2.1 7; clear he hT hg)
  have Ya4 : Hid ((va4.setCell ⟨ba, 7, none⟩ (.slice cpa ma.length cca)).heap[ba]? = some (.cells #[.int .i64 0, .int .i64 xa1, .int .i64 xa2, .int .i64 xa3, .int .i64 0, .int .i64 0, .bool false, .slice cpa ma.length cca, .slice none 0 0, .string ⟨#[]⟩, .int .i64 0, .int .i64 0, .slice none 0 0] 28 (0, 0))) := Lib.hid (by rw [heap_setCell_at Xa4.out]; rfl)
  have Ta4 : Hid (TkAt (va4.setCell ⟨ba, 7, none⟩ (.slice cpa ma.length cca)) tb s qa4 da4) := Lib.hid (Sa4.out.kept (set_grown va4 ba 7 (.slice cpa ma.length cca)) (fun g e => by cases e; exact NEa.out))
  have Ga4 : Hid (w0.grownBy (va4.setCell ⟨ba, 7, none⟩ (.slice cpa ma.length cca)) (some tb)) := Lib.hid (grown_trans (grown_trans Ga3.out Ha4.out (fun g e => .inl e)) (set_grown va4 ba 7 (.slice cpa ma.length cca)) (fun g e => by cases e; exact .inr La.out))
  have Ka4 : Hid (lyC.Own (va4.setCell ⟨ba, 7, none⟩ (.slice cpa ma.length cca)) ua3.heap.size (.slice cpa ma.length cca) ma) := Lib.hid (by
    have h6 : lyC.Own va4 ua3.heap.size (.slice cpa ma.length cca) ma := Oa4.out
    exact h6.kept (set_grown ..) (fun g hg e => by
      have h7 := (h6.lt hg).1
      have h8 := (Array.getElem?_eq_some_iff.1 Ya3.out).1
      have h9 := Option.some.inj e
      omega))
  have Ba4 : Hid (w0.heap.size ≤ ua3.heap.size) := Lib.hid Ga3.out.size
  clear Sa4 Ha4 Xa4 ca_7 fa Oa4
  generalize va4.setCell ⟨ba, 7, none⟩ (.slice cpa ma.length cca) = ua4 at Ya4 Ta4 Ga4 Ka4 ⊢
  generalize hus : ua3.heap.size = usa4 at Ka4 Ba4
  clear hus
  clear Ya3 Ta3 Ga3
  have PE : Hid (pMsg 80 (fromL s 1, false) = (⟨0, xa1, xa2, xa3, 0, 0, false, ⟨#[]⟩, 0, 0, [], ma, []⟩, fromL s qa4, da4)) := Lib.hid (poll_eq Ea1.out Ea2.out Ea3.out Ea4.out)
  have BU : Hid (Below w.heap.size w ua4) := Lib.hid (B0.out.trans (below_grownN Ga4.out (fun g e => by cases e; exact RT.out) B0.out.size))
  have OM : Hid (OwnM ua4 w.heap.size ⟨0, xa1, xa2, xa3, 0, 0, false, ⟨#[]⟩, 0, 0, [], ma, []⟩ ⟨cpa, cca, none, 0, none, 0⟩) := Lib.hid ⟨Ka4.out.mono (Nat.le_trans B0.out.size Ba4.out), ⟨[], OwnE.nil _ _⟩, [], ownT_none _ _⟩
  have PC : Hid (PutC ⟨0, xa1, xa2, xa3, 0, 0, false, ⟨#[]⟩, 0, 0, [], ma, []⟩ ⟨cpa, cca, none, 0, none, 0⟩ ua4) := Lib.hid (put_any _ _ _ (by have := msg_z 80 (fromL s 1, false) (by show (fromL s 1).length ≤ 1000000; rw [from_len]; omega); rw [PE.out] at this; exact this) OM.out.read)
  have RU : Hid (ua4.heap[rb]? = some (.cells #[.int .i64 0, .int .i64 0, .int .i64 0, .int .i64 0, .int .i64 0, .int .i64 0, .bool false, .slice none 0 0, .slice none 0 0, .string ⟨#[]⟩, .int .i64 0, .int .i64 0, .slice none 0 0] 28 (0, 0))) := Lib.hid (box_kept R0.out Ga4.out NR.out)
  have NO := Lib.hid (fun (us : List Value) W hW hc => get_fin_no (w := w) (rb := rb) BH.out PE.out RB.out us (W := W) hW hc)
  have YES := Lib.hid (fun (us : List Value) W hW hm he => get_fin_yes (s := s) (w := w) (rb := rb) hs RB.out us OM.out RU.out BU.out (W := W) hW hm he)
  have TU := Ta4
  have e0 := (obj_cells Ya4.out).1 0 _ rfl
  have e1 := (obj_cells Ya4.out).1 1 _ rfl
  have e2 := (obj_cells Ya4.out).1 2 _ rfl
  have e3 := (obj_cells Ya4.out).1 3 _ rfl
  have e4 := (obj_cells Ya4.out).1 4 _ rfl
  have e5 := (obj_cells Ya4.out).1 5 _ rfl
  have e6 := (obj_cells Ya4.out).1 6 _ rfl
  have e7 := (obj_cells Ya4.out).1 7 _ rfl
  have e8 := (obj_cells Ya4.out).1 8 _ rfl
  have e9 := (obj_cells Ya4.out).1 9 _ rfl
  have e10 := (obj_cells Ya4.out).1 10 _ rfl
  have e11 := (obj_cells Ya4.out).1 11 _ rfl
  have e12 := (obj_cells Ya4.out).1 12 _ rfl
  unfold PutC msV at PC
  dsimp only at PC
  clear OM PE R0 B0 Z0 BH Ta4
  go_wp2_with fail
  refine PC.out.mono ?_
  rintro e w9 ⟨hb9, hor⟩
  have B9 := Lib.hid hb9
  have X9 := Lib.hid (heap_later Ya4.out hb9)
  have T9 := Lib.hid (TU.out.kept (grown_of_below hb9 none) (fun g e => by cases e))
  have R9 := Lib.hid (heap_later RU.out hb9)
  have BW := Lib.hid (BU.out.trans (hb9.mono BU.out.size))
  clear hb9
  have c2 : w9.cell? ⟨tb, 2, none⟩ = some (.bool da4) := (obj_cells T9.out.obj).1 2 _ rfl
  have r0 := (obj_cells R9.out).1 0 _ rfl
  have r1 := (obj_cells R9.out).1 1 _ rfl
  have r2 := (obj_cells R9.out).1 2 _ rfl
  have r3 := (obj_cells R9.out).1 3 _ rfl
  have r4 := (obj_cells R9.out).1 4 _ rfl
  have r5 := (obj_cells R9.out).1 5 _ rfl
  have r6 := (obj_cells R9.out).1 6 _ rfl
  have r7 := (obj_cells R9.out).1 7 _ rfl
  have r8 := (obj_cells R9.out).1 8 _ rfl
  have r9 := (obj_cells R9.out).1 9 _ rfl
  have r10 := (obj_cells R9.out).1 10 _ rfl
  have r11 := (obj_cells R9.out).1 11 _ rfl
  have r12 := (obj_cells R9.out).1 12 _ rfl
  have rf := (obj_cells R9.out).2.1
  have g0 := (obj_cells X9.out).1 0 _ rfl
  have g1 := (obj_cells X9.out).1 1 _ rfl
  have g2 := (obj_cells X9.out).1 2 _ rfl
  have g3 := (obj_cells X9.out).1 3 _ rfl
  have g4 := (obj_cells X9.out).1 4 _ rfl
  have g5 := (obj_cells X9.out).1 5 _ rfl
  have g6 := (obj_cells X9.out).1 6 _ rfl
  have g7 := (obj_cells X9.out).1 7 _ rfl
  have g8 := (obj_cells X9.out).1 8 _ rfl
  have g9 := (obj_cells X9.out).1 9 _ rfl
  have g10 := (obj_cells X9.out).1 10 _ rfl
  have g11 := (obj_cells X9.out).1 11 _ rfl
  have g12 := (obj_cells X9.out).1 12 _ rfl
  clear e0 e1 e2 e3 e4 e5 e6 e7 e8 e9 e10 e11 e12
  rcases hor with ⟨hm, hl, z9, rfl, hz9⟩ | ⟨hm, rfl⟩
  · have HM := Lib.hid hm; have HZ := Lib.hid hz9; clear hm hl hz9
    by_cases hd : da4 = true
    · have HD := Lib.hid hd
      rw [hd] at c2
      clear hd
      go_wp2_with fail
      refine bodyPost_ret (v := .tuple #[.agg #[.int .i64 0, .int .i64 0, .int .i64 0, .int .i64 0, .int .i64 0, .int .i64 0, .bool false, .slice none 0 0, .slice none 0 0, .string ⟨#[]⟩, .int .i64 0, .int .i64 0, .slice none 0 0], .int .i64 1700]) (by rw [results_cell_tmp rfl]; go_simp) rfl ?_
      exact NO.out [.int .i64 0, .int .i64 0, .int .i64 0, .int .i64 0, .int .i64 0, .int .i64 0, .bool false, .slice none 0 0, .slice none 0 0, .string ⟨#[]⟩, .int .i64 0, .int .i64 0, .slice none 0 0] w9 BW.out (.inl HD.out)
    · have hd2 : da4 = false := by simpa using hd
      rw [hd2] at c2
      clear hd hd2
      by_cases hzs : z9 = s
      · subst hzs
        go_wp2_with fail
        refine bodyPost_ret (v := .tuple #[.agg #[.int .i64 0, .int .i64 xa1, .int .i64 xa2, .int .i64 xa3, .int .i64 0, .int .i64 0, .bool false, .slice cpa ma.length cca, .slice none 0 0, .string ⟨#[]⟩, .int .i64 0, .int .i64 0, .slice none 0 0], .int .i64 0]) (by rw [results_cell_tmp rfl]; go_simp) rfl ?_
        exact YES.out [.int .i64 0, .int .i64 xa1, .int .i64 xa2, .int .i64 xa3, .int .i64 0, .int .i64 0, .bool false, .slice cpa ma.length cca, .slice none 0 0, .string ⟨#[]⟩, .int .i64 0, .int .i64 0, .slice none 0 0] w9 B9.out HM.out HZ.out.symm
      · have HN : Hid (¬ z9 = s) := Lib.hid hzs
        have k9 : (z9.toList == s.toList) = false := by
          rw [beq_eq_false_iff_ne]
          intro e
          exact hzs (by cases z9; cases s; simpa [ByteArray.toList_eq] using e)
        clear hzs
        go_wp2_with fail
        refine bodyPost_ret (v := .tuple #[.agg #[.int .i64 0, .int .i64 0, .int .i64 0, .int .i64 0, .int .i64 0, .int .i64 0, .bool false, .slice none 0 0, .slice none 0 0, .string ⟨#[]⟩, .int .i64 0, .int .i64 0, .slice none 0 0], .int .i64 1700]) (by rw [results_cell_tmp rfl]; go_simp) rfl ?_
        exact NO.out [.int .i64 0, .int .i64 0, .int .i64 0, .int .i64 0, .int .i64 0, .int .i64 0, .bool false, .slice none 0 0, .slice none 0 0, .string ⟨#[]⟩, .int .i64 0, .int .i64 0, .slice none 0 0] w9 BW.out (.inr (.inr (fun e => HN.out (by
          have e2 := HZ.out.trans e
          cases z9; cases s
          simp [bytesOf] at e2
          exact congrArg _ e2))))
  · have HM := Lib.hid hm; clear hm
    by_cases hd : da4 = true
    · rw [hd] at c2
      clear hd
      go_wp2_with fail
      refine bodyPost_ret (v := .tuple #[.agg #[.int .i64 0, .int .i64 0, .int .i64 0, .int .i64 0, .int .i64 0, .int .i64 0, .bool false, .slice none 0 0, .slice none 0 0, .string ⟨#[]⟩, .int .i64 0, .int .i64 0, .slice none 0 0], .int .i64 1700]) (by rw [results_cell_tmp rfl]; go_simp) rfl ?_
      exact NO.out [.int .i64 0, .int .i64 0, .int .i64 0, .int .i64 0, .int .i64 0, .int .i64 0, .bool false, .slice none 0 0, .slice none 0 0, .string ⟨#[]⟩, .int .i64 0, .int .i64 0, .slice none 0 0] w9 BW.out (.inr (.inl HM.out))
    · have hd2 : da4 = false := by simpa using hd
      rw [hd2] at c2
      clear hd hd2
      go_wp2_with fail
      refine bodyPost_ret (v := .tuple #[.agg #[.int .i64 0, .int .i64 0, .int .i64 0, .int .i64 0, .int .i64 0, .int .i64 0, .bool false, .slice none 0 0, .slice none 0 0, .string ⟨#[]⟩, .int .i64 0, .int .i64 0, .slice none 0 0], .int .i64 1700]) (by rw [results_cell_tmp rfl]; go_simp) rfl ?_
      exact NO.out [.int .i64 0, .int .i64 0, .int .i64 0, .int .i64 0, .int .i64 0, .int .i64 0, .bool false, .slice none 0 0, .slice none 0 0, .string ⟨#[]⟩, .int .i64 0, .int .i64 0, .slice none 0 0] w9 BW.out (.inr (.inl HM.out))

end Go.Proofs.YtjmfjlffcopnnaaGreatDoor
