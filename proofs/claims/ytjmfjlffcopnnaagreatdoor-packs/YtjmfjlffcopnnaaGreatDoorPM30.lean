/-
  GetMsg at a snapshot's letter, or any other: the walk (made by tools/gentt.py). Conditions: as each theorem's premises say.
-/
import Derived.Test.YtjmfjlffcopnnaaGreatDoorPM26
import Derived.Test.YtjmfjlffcopnnaaGreatDoorPM28
namespace Go.Proofs.YtjmfjlffcopnnaaGreatDoor
open Go.RowKit
open Go.Proofs.YtjmfjlffcopnnaaGreatDoor.K (C)

set_option maxRecDepth 100000 in
set_option maxHeartbeats 8000000 in
theorem get_snap (s : ByteArray) (w : World) (h0 : 0 < s.size) (hs : s.size ≤ 1000000) (c : UInt8) (hc : s[0] = c) (hc1 : ¬ c = 80) (hc2 : ¬ c = 67) : Calls Tryz.prog 9 #[.string s] w (GetP s w) := by
  have BH : Hid (bytesOf s = c :: fromL s 1) := Lib.hid (bytes_head h0 hc)
  have h1 : (0 : Int) < (s.size : Int) := by omega
  have h2 : (s.size : Int) ≤ 1000000 := by omega
  go_enter Tryz.func9, Tryz.ntmps9
  go_upto_region 4 with fail
  have R0 : Hid (((w.alloc (.cells #[.int .i64 0, .int .i64 0, .int .i64 0, .int .i64 0, .int .i64 0, .int .i64 0, .bool false, .slice none 0 0, .slice none 0 0, .string ⟨#[]⟩, .int .i64 0, .int .i64 0, .slice none 0 0] 28)).alloc (.cells #[.string s, .int .i64 1, .bool false] 74)).heap[w.heap.size]? = some (.cells #[.int .i64 0, .int .i64 0, .int .i64 0, .int .i64 0, .int .i64 0, .int .i64 0, .bool false, .slice none 0 0, .slice none 0 0, .string ⟨#[]⟩, .int .i64 0, .int .i64 0, .slice none 0 0] 28 (0, 0))) := Lib.hid (heap_old (heap_alloc_new w _) _)
  have T0 : Hid (TkAt ((w.alloc (.cells #[.int .i64 0, .int .i64 0, .int .i64 0, .int .i64 0, .int .i64 0, .int .i64 0, .bool false, .slice none 0 0, .slice none 0 0, .string ⟨#[]⟩, .int .i64 0, .int .i64 0, .slice none 0 0] 28)).alloc (.cells #[.string s, .int .i64 1, .bool false] 74)) (w.heap.size + 1) s 1 false) := Lib.hid ⟨heap_new (by simp) _ _, by omega⟩
  have B0 : Hid (Below w.heap.size w ((w.alloc (.cells #[.int .i64 0, .int .i64 0, .int .i64 0, .int .i64 0, .int .i64 0, .int .i64 0, .bool false, .slice none 0 0, .slice none 0 0, .string ⟨#[]⟩, .int .i64 0, .int .i64 0, .slice none 0 0] 28)).alloc (.cells #[.string s, .int .i64 1, .bool false] 74))) := Lib.hid (below1 (below1 (Below.refl _ _) (Nat.le_refl _) _) (by simp) _)
  have Z0 : Hid (w.heap.size + 1 < ((w.alloc (.cells #[.int .i64 0, .int .i64 0, .int .i64 0, .int .i64 0, .int .i64 0, .int .i64 0, .bool false, .slice none 0 0, .slice none 0 0, .string ⟨#[]⟩, .int .i64 0, .int .i64 0, .slice none 0 0] 28)).alloc (.cells #[.string s, .int .i64 1, .bool false] 74)).heap.size) := Lib.hid (by simp)
  generalize (w.alloc (.cells #[.int .i64 0, .int .i64 0, .int .i64 0, .int .i64 0, .int .i64 0, .int .i64 0, .bool false, .slice none 0 0, .slice none 0 0, .string ⟨#[]⟩, .int .i64 0, .int .i64 0, .slice none 0 0] 28)).alloc (.cells #[.string s, .int .i64 1, .bool false] 74) = w0 at R0 T0 B0 Z0 ⊢
  have NR : Hid (w.heap.size ≠ w.heap.size + 1) := Lib.hid (by omega)
  have RT : Hid (w.heap.size ≤ w.heap.size + 1) := Lib.hid (by omega)
  generalize htb : w.heap.size + 1 = tb at T0 Z0 NR RT ⊢
  clear htb
  generalize hrb : w.heap.size = rb at R0 NR ⊢
  have RB : Hid (w.heap.size ≤ rb) := Lib.hid (by rw [hrb]; exact Nat.le_refl _)
  clear hrb
  go_upto_region 5 with (go_at_call 29; refine (num_t s tb 1 false w0 hs T0.out).mono ?_; rintro e va1 ⟨xa1, qa1, da1, rfl, he, hT, hg⟩; have Ea1 := Lib.hid he; have Sa1 := Lib.hid hT; have Ha1 := Lib.hid hg; clear he hT hg)
  have Ya1 : Hid ((va1.alloc (.cells #[.int .i64 0, .int .i64 xa1, .int .i64 0, .int .i64 0, .int .i64 0, .int .i64 0, .bool false, .slice none 0 0, .slice none 0 0, .string ⟨#[]⟩, .int .i64 0, .int .i64 0, .slice none 0 0] 28)).heap[va1.heap.size]? = some (.cells #[.int .i64 0, .int .i64 xa1, .int .i64 0, .int .i64 0, .int .i64 0, .int .i64 0, .bool false, .slice none 0 0, .slice none 0 0, .string ⟨#[]⟩, .int .i64 0, .int .i64 0, .slice none 0 0] 28 (0, 0))) := Lib.hid (heap_alloc_new va1 _)
  have Ta1 := Lib.hid (Sa1.out.kept (World.grownBy_alloc va1 (.cells #[.int .i64 0, .int .i64 xa1, .int .i64 0, .int .i64 0, .int .i64 0, .int .i64 0, .bool false, .slice none 0 0, .slice none 0 0, .string ⟨#[]⟩, .int .i64 0, .int .i64 0, .slice none 0 0] 28) none) (fun g e => by cases e))
  have Ga1 : Hid (w0.grownBy (va1.alloc (.cells #[.int .i64 0, .int .i64 xa1, .int .i64 0, .int .i64 0, .int .i64 0, .int .i64 0, .bool false, .slice none 0 0, .slice none 0 0, .string ⟨#[]⟩, .int .i64 0, .int .i64 0, .slice none 0 0] 28)) (some tb)) := Lib.hid (grown_trans Ha1.out (World.grownBy_alloc va1 _ (some tb)) (fun g e => .inl e))
  have La : Hid (w0.heap.size ≤ va1.heap.size) := Lib.hid Ha1.out.size
  have NEa : Hid (va1.heap.size ≠ tb) := Lib.hid (Sa1.out.out_of (Nat.le_refl _))
  clear Sa1 Ha1
  generalize va1.alloc (.cells #[.int .i64 0, .int .i64 xa1, .int .i64 0, .int .i64 0, .int .i64 0, .int .i64 0, .bool false, .slice none 0 0, .slice none 0 0, .string ⟨#[]⟩, .int .i64 0, .int .i64 0, .slice none 0 0] 28) = ua1 at Ya1 Ta1 Ga1 ⊢
  generalize hyb : va1.heap.size = ba at Ya1 La NEa ⊢
  clear hyb
  go_upto_region 6 with (go_at_call 29; refine (num_t s tb qa1 da1 ua1 hs Ta1.out).mono ?_; rintro e va2 ⟨xa2, qa2, da2, rfl, he, hT, hg⟩; have Ea2 := Lib.hid he; have Sa2 := Lib.hid hT; have Ha2 := Lib.hid hg; have Xa2 := Lib.hid (box_kept Ya1.out hg NEa.out); have ca_2 := (obj_cells Xa2.out).1 2 _ rfl; have fa := (obj_cells Xa2.out).2.1 2; clear he hT hg)
  have Ya2 : Hid ((va2.setCell ⟨ba, 2, none⟩ (.int .i64 xa2)).heap[ba]? = some (.cells #[.int .i64 0, .int .i64 xa1, .int .i64 xa2, .int .i64 0, .int .i64 0, .int .i64 0, .bool false, .slice none 0 0, .slice none 0 0, .string ⟨#[]⟩, .int .i64 0, .int .i64 0, .slice none 0 0] 28 (0, 0))) := Lib.hid (by rw [heap_setCell_at Xa2.out]; rfl)
  have Ta2 : Hid (TkAt (va2.setCell ⟨ba, 2, none⟩ (.int .i64 xa2)) tb s qa2 da2) := Lib.hid (Sa2.out.kept (set_grown va2 ba 2 (.int .i64 xa2)) (fun g e => by cases e; exact NEa.out))
  have Ga2 : Hid (w0.grownBy (va2.setCell ⟨ba, 2, none⟩ (.int .i64 xa2)) (some tb)) := Lib.hid (grown_trans (grown_trans Ga1.out Ha2.out (fun g e => .inl e)) (set_grown va2 ba 2 (.int .i64 xa2)) (fun g e => by cases e; exact .inr La.out))
  clear Sa2 Ha2 Xa2 ca_2 fa
  generalize va2.setCell ⟨ba, 2, none⟩ (.int .i64 xa2) = ua2 at Ya2 Ta2 Ga2 ⊢
  clear Ya1 Ta1 Ga1
  have k80 : ((c.toNat : Int) == 80) = false := by rw [beq_eq_false_iff_ne]; intro e; exact hc1 (UInt8.toNat_inj.1 (show c.toNat = 80 from by omega))
  have k67 : ((c.toNat : Int) == 67) = false := by rw [beq_eq_false_iff_ne]; intro e; exact hc2 (UInt8.toNat_inj.1 (show c.toNat = 67 from by omega))
  have f0 := (obj_cells Ya2.out).2.1 0
  have c0 := (obj_cells Ya2.out).1 0 _ rfl
  go_upto_region 8 with fail
  clear f0 c0
  have Ya3 : Hid ((ua2.setCell ⟨ba, 0, none⟩ (.int .i64 2)).heap[ba]? = some (.cells #[.int .i64 2, .int .i64 xa1, .int .i64 xa2, .int .i64 0, .int .i64 0, .int .i64 0, .bool false, .slice none 0 0, .slice none 0 0, .string ⟨#[]⟩, .int .i64 0, .int .i64 0, .slice none 0 0] 28 (0, 0))) := Lib.hid (by rw [heap_setCell_at Ya2.out]; rfl)
  have Ta3 := Lib.hid (Ta2.out.kept (set_grown ua2 ba 0 (.int .i64 2)) (fun g e => by cases e; exact NEa.out))
  have Ga3 : Hid (w0.grownBy (ua2.setCell ⟨ba, 0, none⟩ (.int .i64 2)) (some tb)) := Lib.hid (grown_setNew Ga2.out La.out _)
  generalize ua2.setCell ⟨ba, 0, none⟩ (.int .i64 2) = ua3 at Ya3 Ta3 Ga3 ⊢
  clear Ya2 Ta2 Ga2
  obtain ⟨qa3, hqa3⟩ : ∃ q, q = qa2 := ⟨_, rfl⟩
  obtain ⟨da3, hda3⟩ : ∃ d, d = da2 := ⟨_, rfl⟩
  subst hqa3
  subst hda3
  go_upto_region 9 with (go_at_call 29; refine (num_t s tb qa3 da3 ua3 hs Ta3.out).mono ?_; rintro e va4 ⟨xa4, qa4, da4, rfl, he, hT, hg⟩; have Ea4 := Lib.hid he; have Sa4 := Lib.hid hT; have Ha4 := Lib.hid hg; have Xa4 := Lib.hid (box_kept Ya3.out hg NEa.out); have ca_3 := (obj_cells Xa4.out).1 3 _ rfl; have fa := (obj_cells Xa4.out).2.1 3; clear he hT hg)
  have Ya4 : Hid ((va4.setCell ⟨ba, 3, none⟩ (.int .i64 xa4)).heap[ba]? = some (.cells #[.int .i64 2, .int .i64 xa1, .int .i64 xa2, .int .i64 xa4, .int .i64 0, .int .i64 0, .bool false, .slice none 0 0, .slice none 0 0, .string ⟨#[]⟩, .int .i64 0, .int .i64 0, .slice none 0 0] 28 (0, 0))) := Lib.hid (by rw [heap_setCell_at Xa4.out]; rfl)
  have Ta4 : Hid (TkAt (va4.setCell ⟨ba, 3, none⟩ (.int .i64 xa4)) tb s qa4 da4) := Lib.hid (Sa4.out.kept (set_grown va4 ba 3 (.int .i64 xa4)) (fun g e => by cases e; exact NEa.out))
  have Ga4 : Hid (w0.grownBy (va4.setCell ⟨ba, 3, none⟩ (.int .i64 xa4)) (some tb)) := Lib.hid (grown_trans (grown_trans Ga3.out Ha4.out (fun g e => .inl e)) (set_grown va4 ba 3 (.int .i64 xa4)) (fun g e => by cases e; exact .inr La.out))
  clear Sa4 Ha4 Xa4 ca_3 fa
  generalize va4.setCell ⟨ba, 3, none⟩ (.int .i64 xa4) = ua4 at Ya4 Ta4 Ga4 ⊢
  clear Ya3 Ta3 Ga3
  go_upto_region 10 with (go_at_call 29; refine (num_t s tb qa4 da4 ua4 hs Ta4.out).mono ?_; rintro e va5 ⟨xa5, qa5, da5, rfl, he, hT, hg⟩; have Ea5 := Lib.hid he; have Sa5 := Lib.hid hT; have Ha5 := Lib.hid hg; have Xa5 := Lib.hid (box_kept Ya4.out hg NEa.out); have ca_4 := (obj_cells Xa5.out).1 4 _ rfl; have fa := (obj_cells Xa5.out).2.1 4; clear he hT hg)
  have Ya5 : Hid ((va5.setCell ⟨ba, 4, none⟩ (.int .i64 xa5)).heap[ba]? = some (.cells #[.int .i64 2, .int .i64 xa1, .int .i64 xa2, .int .i64 xa4, .int .i64 xa5, .int .i64 0, .bool false, .slice none 0 0, .slice none 0 0, .string ⟨#[]⟩, .int .i64 0, .int .i64 0, .slice none 0 0] 28 (0, 0))) := Lib.hid (by rw [heap_setCell_at Xa5.out]; rfl)
  have Ta5 : Hid (TkAt (va5.setCell ⟨ba, 4, none⟩ (.int .i64 xa5)) tb s qa5 da5) := Lib.hid (Sa5.out.kept (set_grown va5 ba 4 (.int .i64 xa5)) (fun g e => by cases e; exact NEa.out))
  have Ga5 : Hid (w0.grownBy (va5.setCell ⟨ba, 4, none⟩ (.int .i64 xa5)) (some tb)) := Lib.hid (grown_trans (grown_trans Ga4.out Ha5.out (fun g e => .inl e)) (set_grown va5 ba 4 (.int .i64 xa5)) (fun g e => by cases e; exact .inr La.out))
  clear Sa5 Ha5 Xa5 ca_4 fa
  generalize va5.setCell ⟨ba, 4, none⟩ (.int .i64 xa5) = ua5 at Ya5 Ta5 Ga5 ⊢
  clear Ya4 Ta4 Ga4
  go_upto_region 11 with (go_at_call 29; refine (num_t s tb qa5 da5 ua5 hs Ta5.out).mono ?_; rintro e va6 ⟨xa6, qa6, da6, rfl, he, hT, hg⟩; have Ea6 := Lib.hid he; have Sa6 := Lib.hid hT; have Ha6 := Lib.hid hg; have Xa6 := Lib.hid (box_kept Ya5.out hg NEa.out); have ca_5 := (obj_cells Xa6.out).1 5 _ rfl; have fa := (obj_cells Xa6.out).2.1 5; clear he hT hg)
  have Ya6 : Hid ((va6.setCell ⟨ba, 5, none⟩ (.int .i64 xa6)).heap[ba]? = some (.cells #[.int .i64 2, .int .i64 xa1, .int .i64 xa2, .int .i64 xa4, .int .i64 xa5, .int .i64 xa6, .bool false, .slice none 0 0, .slice none 0 0, .string ⟨#[]⟩, .int .i64 0, .int .i64 0, .slice none 0 0] 28 (0, 0))) := Lib.hid (by rw [heap_setCell_at Xa6.out]; rfl)
  have Ta6 : Hid (TkAt (va6.setCell ⟨ba, 5, none⟩ (.int .i64 xa6)) tb s qa6 da6) := Lib.hid (Sa6.out.kept (set_grown va6 ba 5 (.int .i64 xa6)) (fun g e => by cases e; exact NEa.out))
  have Ga6 : Hid (w0.grownBy (va6.setCell ⟨ba, 5, none⟩ (.int .i64 xa6)) (some tb)) := Lib.hid (grown_trans (grown_trans Ga5.out Ha6.out (fun g e => .inl e)) (set_grown va6 ba 5 (.int .i64 xa6)) (fun g e => by cases e; exact .inr La.out))
  clear Sa6 Ha6 Xa6 ca_5 fa
  generalize va6.setCell ⟨ba, 5, none⟩ (.int .i64 xa6) = ua6 at Ya6 Ta6 Ga6 ⊢
  clear Ya5 Ta5 Ga5
  go_upto_region 12 with (go_at_call 29; refine (num_t s tb qa6 da6 ua6 hs Ta6.out).mono ?_; rintro e va7 ⟨xa7, qa7, da7, rfl, he, hT, hg⟩; have Ea7 := Lib.hid he; have Sa7 := Lib.hid hT; have Ha7 := Lib.hid hg; have Xa7 := Lib.hid (box_kept Ya6.out hg NEa.out); have ca_6 := (obj_cells Xa7.out).1 6 _ rfl; have fa := (obj_cells Xa7.out).2.1 6; clear he hT hg)
  have Ya7 : Hid ((va7.setCell ⟨ba, 6, none⟩ (.bool (xa7 == 1))).heap[ba]? = some (.cells #[.int .i64 2, .int .i64 xa1, .int .i64 xa2, .int .i64 xa4, .int .i64 xa5, .int .i64 xa6, .bool (xa7 == 1), .slice none 0 0, .slice none 0 0, .string ⟨#[]⟩, .int .i64 0, .int .i64 0, .slice none 0 0] 28 (0, 0))) := Lib.hid (by rw [heap_setCell_at Xa7.out]; rfl)
  have Ta7 : Hid (TkAt (va7.setCell ⟨ba, 6, none⟩ (.bool (xa7 == 1))) tb s qa7 da7) := Lib.hid (Sa7.out.kept (set_grown va7 ba 6 (.bool (xa7 == 1))) (fun g e => by cases e; exact NEa.out))
  have Ga7 : Hid (w0.grownBy (va7.setCell ⟨ba, 6, none⟩ (.bool (xa7 == 1))) (some tb)) := Lib.hid (grown_trans (grown_trans Ga6.out Ha7.out (fun g e => .inl e)) (set_grown va7 ba 6 (.bool (xa7 == 1))) (fun g e => by cases e; exact .inr La.out))
  clear Sa7 Ha7 Xa7 ca_6 fa
  generalize va7.setCell ⟨ba, 6, none⟩ (.bool (xa7 == 1)) = ua7 at Ya7 Ta7 Ga7 ⊢
  clear Ya6 Ta6 Ga6
  go_upto_region 13 with (go_at_call 33; refine (str_t s tb qa7 da7 ua7 hs Ta7.out).mono ?_; rintro e va8 ⟨za, qa8, da8, rfl, he, hT, hg⟩; have Ea8 := Lib.hid he; have Sa8 := Lib.hid hT; have Ha8 := Lib.hid hg; have Xa8 := Lib.hid (box_kept Ya7.out hg NEa.out); have ca_9 := (obj_cells Xa8.out).1 9 _ rfl; have fa := (obj_cells Xa8.out).2.1 9; clear he hT hg)
  have Ya8 : Hid ((va8.setCell ⟨ba, 9, none⟩ (.string za)).heap[ba]? = some (.cells #[.int .i64 2, .int .i64 xa1, .int .i64 xa2, .int .i64 xa4, .int .i64 xa5, .int .i64 xa6, .bool (xa7 == 1), .slice none 0 0, .slice none 0 0, .string za, .int .i64 0, .int .i64 0, .slice none 0 0] 28 (0, 0))) := Lib.hid (by rw [heap_setCell_at Xa8.out]; rfl)
  have Ta8 : Hid (TkAt (va8.setCell ⟨ba, 9, none⟩ (.string za)) tb s qa8 da8) := Lib.hid (Sa8.out.kept (set_grown va8 ba 9 (.string za)) (fun g e => by cases e; exact NEa.out))
  have Ga8 : Hid (w0.grownBy (va8.setCell ⟨ba, 9, none⟩ (.string za)) (some tb)) := Lib.hid (grown_trans (grown_trans Ga7.out Ha8.out (fun g e => .inl e)) (set_grown va8 ba 9 (.string za)) (fun g e => by cases e; exact .inr La.out))
  clear Sa8 Ha8 Xa8 ca_9 fa
  generalize va8.setCell ⟨ba, 9, none⟩ (.string za) = ua8 at Ya8 Ta8 Ga8 ⊢
  clear Ya7 Ta7 Ga7
  go_upto_region 24 with (go_at_call 34; refine (tkTree_any s tb qa8 da8 ua8 hs Ta8.out).mono ?_; rintro e va9 ⟨roa, nxa, npa, nca, vsa, nsa, qa9, da9, rfl, he, hO, hT, hg⟩; have Ea9 := Lib.hid he; have Sa9 := Lib.hid hT; have Ha9 := Lib.hid hg; have Oa9 := Lib.hid hO; clear hO; have Xa9 := Lib.hid (box_kept Ya8.out hg NEa.out); have ca_10 := (obj_cells Xa9.out).1 10 _ rfl; have ca_11 := (obj_cells Xa9.out).1 11 _ rfl; have ca_12 := (obj_cells Xa9.out).1 12 _ rfl; have fa := (obj_cells Xa9.out).2.1; clear he hT hg; unfold trV)
  have Ya9 : Hid ((((va9.setCell ⟨ba, 10, none⟩ (.int .i64 roa)).setCell ⟨ba, 11, none⟩ (.int .i64 nxa)).setCell ⟨ba, 12, none⟩ (.slice npa nsa.length nca)).heap[ba]? = some (.cells #[.int .i64 2, .int .i64 xa1, .int .i64 xa2, .int .i64 xa4, .int .i64 xa5, .int .i64 xa6, .bool (xa7 == 1), .slice none 0 0, .slice none 0 0, .string za, .int .i64 roa, .int .i64 nxa, .slice npa nsa.length nca] 28 (0, 0))) := Lib.hid (by rw [heap_setCell_at (heap_setCell_at (heap_setCell_at Xa9.out _) _)]; rfl)
  have Ta9 : Hid (TkAt (((va9.setCell ⟨ba, 10, none⟩ (.int .i64 roa)).setCell ⟨ba, 11, none⟩ (.int .i64 nxa)).setCell ⟨ba, 12, none⟩ (.slice npa nsa.length nca)) tb s qa9 da9) := Lib.hid (Sa9.out.kept (setAll_one va9 ba 10 [.int .i64 roa, .int .i64 nxa, .slice npa nsa.length nca]) (fun g e => by cases e; exact NEa.out))
  have Ga9 : Hid (w0.grownBy (((va9.setCell ⟨ba, 10, none⟩ (.int .i64 roa)).setCell ⟨ba, 11, none⟩ (.int .i64 nxa)).setCell ⟨ba, 12, none⟩ (.slice npa nsa.length nca)) (some tb)) := Lib.hid (grown_trans (grown_trans Ga8.out Ha9.out (fun g e => .inl e)) (setAll_one va9 ba 10 [.int .i64 roa, .int .i64 nxa, .slice npa nsa.length nca]) (fun g e => by cases e; exact .inr La.out))
  have Ka9 : Hid (OwnT (((va9.setCell ⟨ba, 10, none⟩ (.int .i64 roa)).setCell ⟨ba, 11, none⟩ (.int .i64 nxa)).setCell ⟨ba, 12, none⟩ (.slice npa nsa.length nca)) ua8.heap.size (.slice npa nsa.length nca) vsa nsa) := Lib.hid (Oa9.out.kept (setAll_one va9 ba 10 [.int .i64 roa, .int .i64 nxa, .slice npa nsa.length nca]) Xa9.out (by decide) (by decide))
  have Ba9 : Hid (w0.heap.size ≤ ua8.heap.size) := Lib.hid Ga8.out.size
  clear Sa9 Ha9 Xa9 ca_10 ca_11 ca_12 fa Oa9
  generalize ((va9.setCell ⟨ba, 10, none⟩ (.int .i64 roa)).setCell ⟨ba, 11, none⟩ (.int .i64 nxa)).setCell ⟨ba, 12, none⟩ (.slice npa nsa.length nca) = ua9 at Ya9 Ta9 Ga9 Ka9 ⊢
  generalize hus : ua8.heap.size = usa9 at Ka9 Ba9
  clear hus
  clear Ya8 Ta8 Ga8
  have PE : Hid (pMsg c (fromL s 1, false) = (⟨2, xa1, xa2, xa4, xa5, xa6, xa7 == 1, za, roa, nxa, nsa, [], []⟩, fromL s qa9, da9)) := Lib.hid (snap_eq hc1 hc2 Ea1.out Ea2.out Ea4.out Ea5.out Ea6.out Ea7.out Ea8.out Ea9.out)
  have BU : Hid (Below w.heap.size w ua9) := Lib.hid (B0.out.trans (below_grownN Ga9.out (fun g e => by cases e; exact RT.out) B0.out.size))
  have OM : Hid (OwnM ua9 w.heap.size ⟨2, xa1, xa2, xa4, xa5, xa6, xa7 == 1, za, roa, nxa, nsa, [], []⟩ ⟨none, 0, none, 0, npa, nca⟩) := Lib.hid ⟨ownC_none _ _, ⟨[], OwnE.nil _ _⟩, vsa, Ka9.out.mono (Nat.le_trans B0.out.size Ba9.out)⟩
  have PC : Hid (PutC ⟨2, xa1, xa2, xa4, xa5, xa6, xa7 == 1, za, roa, nxa, nsa, [], []⟩ ⟨none, 0, none, 0, npa, nca⟩ ua9) := Lib.hid (put_any _ _ _ (by have := msg_z c (fromL s 1, false) (by show (fromL s 1).length ≤ 1000000; rw [from_len]; omega); rw [PE.out] at this; exact this) OM.out.read)
  have RU : Hid (ua9.heap[rb]? = some (.cells #[.int .i64 0, .int .i64 0, .int .i64 0, .int .i64 0, .int .i64 0, .int .i64 0, .bool false, .slice none 0 0, .slice none 0 0, .string ⟨#[]⟩, .int .i64 0, .int .i64 0, .slice none 0 0] 28 (0, 0))) := Lib.hid (box_kept R0.out Ga9.out NR.out)
  have NO := Lib.hid (fun (us : List Value) W hW hc => get_fin_no (w := w) (rb := rb) BH.out PE.out RB.out us (W := W) hW hc)
  have YES := Lib.hid (fun (us : List Value) W hW hm he => get_fin_yes (s := s) (w := w) (rb := rb) hs RB.out us OM.out RU.out BU.out (W := W) hW hm he)
  have TU := Ta9
  have e0 := (obj_cells Ya9.out).1 0 _ rfl
  have e1 := (obj_cells Ya9.out).1 1 _ rfl
  have e2 := (obj_cells Ya9.out).1 2 _ rfl
  have e3 := (obj_cells Ya9.out).1 3 _ rfl
  have e4 := (obj_cells Ya9.out).1 4 _ rfl
  have e5 := (obj_cells Ya9.out).1 5 _ rfl
  have e6 := (obj_cells Ya9.out).1 6 _ rfl
  have e7 := (obj_cells Ya9.out).1 7 _ rfl
  have e8 := (obj_cells Ya9.out).1 8 _ rfl
  have e9 := (obj_cells Ya9.out).1 9 _ rfl
  have e10 := (obj_cells Ya9.out).1 10 _ rfl
  have e11 := (obj_cells Ya9.out).1 11 _ rfl
  have e12 := (obj_cells Ya9.out).1 12 _ rfl
  unfold PutC msV at PC
  dsimp only at PC
  clear OM PE R0 B0 Z0 BH Ta9
  go_wp2_with fail
  refine PC.out.mono ?_
  rintro e w9 ⟨hb9, hor⟩
  have B9 := Lib.hid hb9
  have X9 := Lib.hid (heap_later Ya9.out hb9)
  have T9 := Lib.hid (TU.out.kept (grown_of_below hb9 none) (fun g e => by cases e))
  have R9 := Lib.hid (heap_later RU.out hb9)
  have BW := Lib.hid (BU.out.trans (hb9.mono BU.out.size))
  clear hb9
  have c2 : w9.cell? ⟨tb, 2, none⟩ = some (.bool da9) := (obj_cells T9.out.obj).1 2 _ rfl
  have r0 := (obj_cells R9.out).1 0 _ rfl
  have r1 := (obj_cells R9.out).1 1 _ rfl
  have r2 := (obj_cells R9.out).1 2 _ rfl
  have r3 := (obj_cells R9.out).1 3 _ rfl
  have r4 := (obj_cells R9.out).1 4 _ rfl
  have r5 := (obj_cells R9.out).1 5 _ rfl
  have r6 := (obj_cells R9.out).1 6 _ rfl
  have r7 := (obj_cells R9.out).1 7 _ rfl
  have r8 := (obj_cells R9.out).1 8 _ rfl
  have r9 := (obj_cells R9.out).1 9 _ rfl
  have r10 := (obj_cells R9.out).1 10 _ rfl
  have r11 := (obj_cells R9.out).1 11 _ rfl
  have r12 := (obj_cells R9.out).1 12 _ rfl
  have rf := (obj_cells R9.out).2.1
  have g0 := (obj_cells X9.out).1 0 _ rfl
  have g1 := (obj_cells X9.out).1 1 _ rfl
  have g2 := (obj_cells X9.out).1 2 _ rfl
  have g3 := (obj_cells X9.out).1 3 _ rfl
  have g4 := (obj_cells X9.out).1 4 _ rfl
  have g5 := (obj_cells X9.out).1 5 _ rfl
  have g6 := (obj_cells X9.out).1 6 _ rfl
  have g7 := (obj_cells X9.out).1 7 _ rfl
  have g8 := (obj_cells X9.out).1 8 _ rfl
  have g9 := (obj_cells X9.out).1 9 _ rfl
  have g10 := (obj_cells X9.out).1 10 _ rfl
  have g11 := (obj_cells X9.out).1 11 _ rfl
  have g12 := (obj_cells X9.out).1 12 _ rfl
  clear e0 e1 e2 e3 e4 e5 e6 e7 e8 e9 e10 e11 e12
  rcases hor with ⟨hm, hl, z9, rfl, hz9⟩ | ⟨hm, rfl⟩
  · have HM := Lib.hid hm; have HZ := Lib.hid hz9; clear hm hl hz9
    by_cases hd : da9 = true
    · have HD := Lib.hid hd
      rw [hd] at c2
      clear hd
      go_wp2_with fail
      refine bodyPost_ret (v := .tuple #[.agg #[.int .i64 0, .int .i64 0, .int .i64 0, .int .i64 0, .int .i64 0, .int .i64 0, .bool false, .slice none 0 0, .slice none 0 0, .string ⟨#[]⟩, .int .i64 0, .int .i64 0, .slice none 0 0], .int .i64 1700]) (by rw [results_cell_tmp rfl]; go_simp) rfl ?_
      exact NO.out [.int .i64 0, .int .i64 0, .int .i64 0, .int .i64 0, .int .i64 0, .int .i64 0, .bool false, .slice none 0 0, .slice none 0 0, .string ⟨#[]⟩, .int .i64 0, .int .i64 0, .slice none 0 0] w9 BW.out (.inl HD.out)
    · have hd2 : da9 = false := by simpa using hd
      rw [hd2] at c2
      clear hd hd2
      by_cases hzs : z9 = s
      · subst hzs
        go_wp2_with fail
        refine bodyPost_ret (v := .tuple #[.agg #[.int .i64 2, .int .i64 xa1, .int .i64 xa2, .int .i64 xa4, .int .i64 xa5, .int .i64 xa6, .bool (xa7 == 1), .slice none 0 0, .slice none 0 0, .string za, .int .i64 roa, .int .i64 nxa, .slice npa nsa.length nca], .int .i64 0]) (by rw [results_cell_tmp rfl]; go_simp) rfl ?_
        exact YES.out [.int .i64 2, .int .i64 xa1, .int .i64 xa2, .int .i64 xa4, .int .i64 xa5, .int .i64 xa6, .bool (xa7 == 1), .slice none 0 0, .slice none 0 0, .string za, .int .i64 roa, .int .i64 nxa, .slice npa nsa.length nca] w9 B9.out HM.out HZ.out.symm
      · have HN : Hid (¬ z9 = s) := Lib.hid hzs
        have k9 : (z9.toList == s.toList) = false := by
          rw [beq_eq_false_iff_ne]
          intro e
          exact hzs (by cases z9; cases s; simpa [ByteArray.toList_eq] using e)
        clear hzs
        go_wp2_with fail
        refine bodyPost_ret (v := .tuple #[.agg #[.int .i64 0, .int .i64 0, .int .i64 0, .int .i64 0, .int .i64 0, .int .i64 0, .bool false, .slice none 0 0, .slice none 0 0, .string ⟨#[]⟩, .int .i64 0, .int .i64 0, .slice none 0 0], .int .i64 1700]) (by rw [results_cell_tmp rfl]; go_simp) rfl ?_
        exact NO.out [.int .i64 0, .int .i64 0, .int .i64 0, .int .i64 0, .int .i64 0, .int .i64 0, .bool false, .slice none 0 0, .slice none 0 0, .string ⟨#[]⟩, .int .i64 0, .int .i64 0, .slice none 0 0] w9 BW.out (.inr (.inr (fun e => HN.out (by
          have e2 := HZ.out.trans e
          cases z9; cases s
          simp [bytesOf] at e2
          exact congrArg _ e2))))
  · have HM := Lib.hid hm; clear hm
    by_cases hd : da9 = true
    · rw [hd] at c2
      clear hd
      go_wp2_with fail
      refine bodyPost_ret (v := .tuple #[.agg #[.int .i64 0, .int .i64 0, .int .i64 0, .int .i64 0, .int .i64 0, .int .i64 0, .bool false, .slice none 0 0, .slice none 0 0, .string ⟨#[]⟩, .int .i64 0, .int .i64 0, .slice none 0 0], .int .i64 1700]) (by rw [results_cell_tmp rfl]; go_simp) rfl ?_
      exact NO.out [.int .i64 0, .int .i64 0, .int .i64 0, .int .i64 0, .int .i64 0, .int .i64 0, .bool false, .slice none 0 0, .slice none 0 0, .string ⟨#[]⟩, .int .i64 0, .int .i64 0, .slice none 0 0] w9 BW.out (.inr (.inl HM.out))
    · have hd2 : da9 = false := by simpa using hd
      rw [hd2] at c2
      clear hd hd2
      go_wp2_with fail
      refine bodyPost_ret (v := .tuple #[.agg #[.int .i64 0, .int .i64 0, .int .i64 0, .int .i64 0, .int .i64 0, .int .i64 0, .bool false, .slice none 0 0, .slice none 0 0, .string ⟨#[]⟩, .int .i64 0, .int .i64 0, .slice none 0 0], .int .i64 1700]) (by rw [results_cell_tmp rfl]; go_simp) rfl ?_
      exact NO.out [.int .i64 0, .int .i64 0, .int .i64 0, .int .i64 0, .int .i64 0, .int .i64 0, .bool false, .slice none 0 0, .slice none 0 0, .string ⟨#[]⟩, .int .i64 0, .int .i64 0, .slice none 0 0] w9 BW.out (.inr (.inl HM.out))

end Go.Proofs.YtjmfjlffcopnnaaGreatDoor
