/-
  The taker's entry: the walk (made by tools/gentt.py). Conditions: as each theorem's premises say.
-/
import Derived.Test.YtjmfjlffcopnnaaGreatDoorPM25
namespace Go.Proofs.YtjmfjlffcopnnaaGreatDoor
open Go.RowKit
open Go.Proofs.YtjmfjlffcopnnaaGreatDoor.K (C)

set_option maxRecDepth 100000 in
set_option maxHeartbeats 8000000 in
theorem tkEntry_any (s : ByteArray) (tb p : Nat) (bad : Bool) (w : World) (hs : s.size ≤ 1000000) (h : TkAt w tb s p bad) : Calls Tryz.prog 32 #[.pointer (some ⟨tb, 0, none⟩)] w (EntT s tb p bad w) := by
  obtain ⟨i6, hi6, hz06, hz16, hz26⟩ := info_parts info68
  have T0 := Lib.hid h
  clear h
  go_enter Tryz.func32, Tryz.ntmps32
  go_upto_region 1 with fail
  have R0 : Hid ((w.alloc (.cells #[.int .i64 0, .int .i64 0, .slice none 0 0, .slice none 0 0] 54)).heap[w.heap.size]? = some (.cells #[.int .i64 0, .int .i64 0, .slice none 0 0, .slice none 0 0] 54 (0, 0))) := Lib.hid (heap_alloc_new w _)
  have T1 := Lib.hid (T0.out.kept (World.grownBy_alloc w (.cells #[.int .i64 0, .int .i64 0, .slice none 0 0, .slice none 0 0] 54) none) (fun g e => by cases e))
  have W1 : Hid (w.grownBy (w.alloc (.cells #[.int .i64 0, .int .i64 0, .slice none 0 0, .slice none 0 0] 54)) (some tb)) := Lib.hid (World.grownBy_alloc w _ _)
  have Z1 : Hid (w.heap.size < (w.alloc (.cells #[.int .i64 0, .int .i64 0, .slice none 0 0, .slice none 0 0] 54)).heap.size) := Lib.hid (by simp)
  have NR : Hid (w.heap.size ≠ tb) := Lib.hid (T0.out.out_of (Nat.le_refl _))
  generalize w.alloc (.cells #[.int .i64 0, .int .i64 0, .slice none 0 0, .slice none 0 0] 54) = w0 at R0 T1 W1 Z1 ⊢
  generalize hrb : w.heap.size = rb at R0 Z1 NR ⊢
  have RB := Lib.hid hrb
  clear hrb
  go_upto_region 2 with (go_at_call 29; refine (num_t s tb p bad w0 hs T1.out).mono ?_; rintro e va1 ⟨xa1, qa1, da1, rfl, he, hT, hg⟩; have Ea1 := Lib.hid he; have Sa1 := Lib.hid hT; have Ha1 := Lib.hid hg; clear he hT hg)
  have Ya1 : Hid ((va1.alloc (.cells #[.int .i64 xa1, .int .i64 0, .slice none 0 0, .slice none 0 0] 54)).heap[va1.heap.size]? = some (.cells #[.int .i64 xa1, .int .i64 0, .slice none 0 0, .slice none 0 0] 54 (0, 0))) := Lib.hid (heap_alloc_new va1 _)
  have Ta1 := Lib.hid (Sa1.out.kept (World.grownBy_alloc va1 (.cells #[.int .i64 xa1, .int .i64 0, .slice none 0 0, .slice none 0 0] 54) none) (fun g e => by cases e))
  have Ga1 : Hid (w0.grownBy (va1.alloc (.cells #[.int .i64 xa1, .int .i64 0, .slice none 0 0, .slice none 0 0] 54)) (some tb)) := Lib.hid (grown_trans Ha1.out (World.grownBy_alloc va1 _ (some tb)) (fun g e => .inl e))
  have La : Hid (w0.heap.size ≤ va1.heap.size) := Lib.hid Ha1.out.size
  have NEa : Hid (va1.heap.size ≠ tb) := Lib.hid (Sa1.out.out_of (Nat.le_refl _))
  clear Sa1 Ha1
  generalize va1.alloc (.cells #[.int .i64 xa1, .int .i64 0, .slice none 0 0, .slice none 0 0] 54) = ua1 at Ya1 Ta1 Ga1 ⊢
  generalize hyb : va1.heap.size = ba at Ya1 La NEa ⊢
  clear hyb
  go_upto_region 3 with (go_at_call 29; refine (num_t s tb qa1 da1 ua1 hs Ta1.out).mono ?_; rintro e va2 ⟨xa2, qa2, da2, rfl, he, hT, hg⟩; have Ea2 := Lib.hid he; have Sa2 := Lib.hid hT; have Ha2 := Lib.hid hg; have Xa2 := Lib.hid (box_kept Ya1.out hg NEa.out); have ca_1 := (obj_cells Xa2.out).1 1 _ rfl; have fa := (obj_cells Xa2.out).2.1 1; clear he hT hg)
  have Ya2 : Hid ((va2.setCell ⟨ba, 1, none⟩ (.int .i64 xa2)).heap[ba]? = some (.cells #[.int .i64 xa1, .int .i64 xa2, .slice none 0 0, .slice none 0 0] 54 (0, 0))) := Lib.hid (by rw [heap_setCell_at Xa2.out]; rfl)
  have Ta2 : Hid (TkAt (va2.setCell ⟨ba, 1, none⟩ (.int .i64 xa2)) tb s qa2 da2) := Lib.hid (Sa2.out.kept (set_grown va2 ba 1 (.int .i64 xa2)) (fun g e => by cases e; exact NEa.out))
  have Ga2 : Hid (w0.grownBy (va2.setCell ⟨ba, 1, none⟩ (.int .i64 xa2)) (some tb)) := Lib.hid (grown_trans (grown_trans Ga1.out Ha2.out (fun g e => .inl e)) (set_grown va2 ba 1 (.int .i64 xa2)) (fun g e => by cases e; exact .inr La.out))
  clear Sa2 Ha2 Xa2 ca_1 fa
  generalize va2.setCell ⟨ba, 1, none⟩ (.int .i64 xa2) = ua2 at Ya2 Ta2 Ga2 ⊢
  clear Ya1 Ta1 Ga1
  go_upto_region 4 with (go_at_call 30; refine (comps_t s tb qa2 da2 ua2 hs Ta2.out).mono ?_; rintro e va3 ⟨cpa, cca, ma, qa3, da3, rfl, hO, he, hT, hg⟩; have Ea3 := Lib.hid he; have Sa3 := Lib.hid hT; have Ha3 := Lib.hid hg; have Oa3 := Lib.hid hO; clear hO; have Xa3 := Lib.hid (box_kept Ya2.out hg NEa.out); have ca_2 := (obj_cells Xa3.out).1 2 _ rfl; have fa := (obj_cells Xa3.out).2.1 2; clear he hT hg)
  have Ya3 : Hid ((va3.setCell ⟨ba, 2, none⟩ (.slice cpa ma.length cca)).heap[ba]? = some (.cells #[.int .i64 xa1, .int .i64 xa2, .slice cpa ma.length cca, .slice none 0 0] 54 (0, 0))) := Lib.hid (by rw [heap_setCell_at Xa3.out]; rfl)
  have Ta3 : Hid (TkAt (va3.setCell ⟨ba, 2, none⟩ (.slice cpa ma.length cca)) tb s qa3 da3) := Lib.hid (Sa3.out.kept (set_grown va3 ba 2 (.slice cpa ma.length cca)) (fun g e => by cases e; exact NEa.out))
  have Ga3 : Hid (w0.grownBy (va3.setCell ⟨ba, 2, none⟩ (.slice cpa ma.length cca)) (some tb)) := Lib.hid (grown_trans (grown_trans Ga2.out Ha3.out (fun g e => .inl e)) (set_grown va3 ba 2 (.slice cpa ma.length cca)) (fun g e => by cases e; exact .inr La.out))
  have Ka3 : Hid (lyC.Own (va3.setCell ⟨ba, 2, none⟩ (.slice cpa ma.length cca)) ua2.heap.size (.slice cpa ma.length cca) ma) := Lib.hid (by
    have h6 : lyC.Own va3 ua2.heap.size (.slice cpa ma.length cca) ma := Oa3.out
    exact h6.kept (set_grown ..) (fun g hg e => by
      have h7 := (h6.lt hg).1
      have h8 := (Array.getElem?_eq_some_iff.1 Ya2.out).1
      have h9 := Option.some.inj e
      omega))
  have Ba3 : Hid (w0.heap.size ≤ ua2.heap.size) := Lib.hid Ga2.out.size
  clear Sa3 Ha3 Xa3 ca_2 fa Oa3
  generalize va3.setCell ⟨ba, 2, none⟩ (.slice cpa ma.length cca) = ua3 at Ya3 Ta3 Ga3 Ka3 ⊢
  generalize hus : ua2.heap.size = usa3 at Ka3 Ba3
  clear hus
  clear Ya2 Ta2 Ga2
  go_upto_region 5 with (go_at_call 31; refine (count_t s tb qa3 da3 ua3 hs Ta3.out).mono ?_; rintro e w3 ⟨K, q3, d3, rfl, hK, he, hT, hg⟩; have E3 := Lib.hid he; have T3 := Lib.hid hT; have H3 := Lib.hid hg; clear he hT hg)
  have G3 : Hid (w0.grownBy w3 (some tb)) := Lib.hid (grown_trans Ga3.out H3.out (fun g e => .inl e))
  have C0 : Hid (EE w w3 s tb q3 d3 rb ba xa1 xa2 cpa cca ma [] (.slice none 0 0) []) := Lib.hid ⟨T3.out, box_kept R0.out G3.out NR.out, box_kept Ya3.out H3.out NEa.out, compsOwn_kept (Ka3.out.mono (by have := Ba3.out; have := Z1.out; have := RB.out; omega)) H3.out Ta3.out.obj (by decide), OwnS.nil _ _, grown_trans W1.out G3.out (fun g e => .inl e), by rw [RB.out]; exact Nat.le_refl _, by have := La.out; have := Z1.out; have := RB.out; omega, by have := La.out; have := Z1.out; omega⟩
  obtain ⟨r, hr⟩ : ∃ r, pRow pStep K [] (fromL s q3, d3) = r := ⟨_, rfl⟩
  have HR := Lib.hid hr
  have TE : Hid (pEnt (fromL s p, bad) = (⟨xa1, xa2, ma, r.1⟩, r.2)) := Lib.hid (ent_eq Ea1.out Ea2.out Ea3.out E3.out (by rw [hr]))
  clear hr Ea1 Ea2 Ea3 E3 T0 R0 T1 Ta3 Ya3 Ga3 Ka3 Ba3 H3 G3 T3 W1 Z1 NR La NEa
  go_wp2_with fail
  go_loopw [5] (fun a wr => ∃ (i p2 : Nat) (b2 : Bool) (acc : List St) (nv : Value) (vs : List Sv), i ≤ K ∧ a = .int .i64 i ∧ Hid (acc.length = i) ∧ Hid (pRow pStep (K - i) acc (fromL s p2, b2) = r) ∧ Hid (EE w wr s tb p2 b2 rb ba xa1 xa2 cpa cca ma acc nv vs)) (fun a _ => K - (intOf a).toNat)
  case atStart => exact ⟨0, q3, d3, [], _, _, by omega, rfl, Lib.hid rfl, HR, C0⟩
  case round =>
    clear C0 HR
    obtain ⟨i, p2, b2, acc, nv, vs, h1, rfl, AL, H, C⟩ := hrel
    have c2 : wr.cell? ⟨tb, 2, none⟩ = some (.bool b2) := (obj_cells C.out.tk.obj).1 2 _ rfl
    obtain ⟨pv, cv, rfl⟩ := C.out.own.row.form
    have HL : Hid (vs.length = i) := Lib.hid (by rw [C.out.own.len]; exact AL.out)
    rw [HL.out] at C
    by_cases q1 : i < K ∧ b2 = false
    · obtain ⟨q1, rfl⟩ := q1
      go_upto_region 8 with fail
      have C1 := C
      clear c2 C
      go_upto_region 9 with (go_at_call 29; refine (num_t s tb p2 false wr hs C1.out.tk).mono ?_; rintro e vn1 ⟨xn1, qn1, dn1, rfl, he, hT, hg⟩; have En1 := Lib.hid he; have Sn1 := Lib.hid hT; have Hn1 := Lib.hid hg; clear he hT hg)
      have Yn1 : Hid ((vn1.alloc (.cells #[.int .i64 xn1, .int .i64 0, .int .i64 0, .int .i64 0, .int .i64 0, .slice none 0 0] 51)).heap[vn1.heap.size]? = some (.cells #[.int .i64 xn1, .int .i64 0, .int .i64 0, .int .i64 0, .int .i64 0, .slice none 0 0] 51 (0, 0))) := Lib.hid (heap_alloc_new vn1 _)
      have Tn1 := Lib.hid (Sn1.out.kept (World.grownBy_alloc vn1 (.cells #[.int .i64 xn1, .int .i64 0, .int .i64 0, .int .i64 0, .int .i64 0, .slice none 0 0] 51) none) (fun g e => by cases e))
      have Gn1 : Hid (wr.grownBy (vn1.alloc (.cells #[.int .i64 xn1, .int .i64 0, .int .i64 0, .int .i64 0, .int .i64 0, .slice none 0 0] 51)) (some tb)) := Lib.hid (grown_trans Hn1.out (World.grownBy_alloc vn1 _ (some tb)) (fun g e => .inl e))
      have Ln : Hid (wr.heap.size ≤ vn1.heap.size) := Lib.hid Hn1.out.size
      have NEn : Hid (vn1.heap.size ≠ tb) := Lib.hid (Sn1.out.out_of (Nat.le_refl _))
      clear Sn1 Hn1
      generalize vn1.alloc (.cells #[.int .i64 xn1, .int .i64 0, .int .i64 0, .int .i64 0, .int .i64 0, .slice none 0 0] 51) = un1 at Yn1 Tn1 Gn1 ⊢
      generalize hyb : vn1.heap.size = bn at Yn1 Ln NEn ⊢
      clear hyb
      go_upto_region 10 with (go_at_call 29; refine (num_t s tb qn1 dn1 un1 hs Tn1.out).mono ?_; rintro e vn2 ⟨xn2, qn2, dn2, rfl, he, hT, hg⟩; have En2 := Lib.hid he; have Sn2 := Lib.hid hT; have Hn2 := Lib.hid hg; have Xn2 := Lib.hid (box_kept Yn1.out hg NEn.out); have cn_1 := (obj_cells Xn2.out).1 1 _ rfl; have fn := (obj_cells Xn2.out).2.1 1; clear he hT hg)
      have Yn2 : Hid ((vn2.setCell ⟨bn, 1, none⟩ (.int .i64 xn2)).heap[bn]? = some (.cells #[.int .i64 xn1, .int .i64 xn2, .int .i64 0, .int .i64 0, .int .i64 0, .slice none 0 0] 51 (0, 0))) := Lib.hid (by rw [heap_setCell_at Xn2.out]; rfl)
      have Tn2 : Hid (TkAt (vn2.setCell ⟨bn, 1, none⟩ (.int .i64 xn2)) tb s qn2 dn2) := Lib.hid (Sn2.out.kept (set_grown vn2 bn 1 (.int .i64 xn2)) (fun g e => by cases e; exact NEn.out))
      have Gn2 : Hid (wr.grownBy (vn2.setCell ⟨bn, 1, none⟩ (.int .i64 xn2)) (some tb)) := Lib.hid (grown_trans (grown_trans Gn1.out Hn2.out (fun g e => .inl e)) (set_grown vn2 bn 1 (.int .i64 xn2)) (fun g e => by cases e; exact .inr Ln.out))
      clear Sn2 Hn2 Xn2 cn_1 fn
      generalize vn2.setCell ⟨bn, 1, none⟩ (.int .i64 xn2) = un2 at Yn2 Tn2 Gn2 ⊢
      clear Yn1 Tn1 Gn1
      go_upto_region 11 with (go_at_call 29; refine (num_t s tb qn2 dn2 un2 hs Tn2.out).mono ?_; rintro e vn3 ⟨xn3, qn3, dn3, rfl, he, hT, hg⟩; have En3 := Lib.hid he; have Sn3 := Lib.hid hT; have Hn3 := Lib.hid hg; have Xn3 := Lib.hid (box_kept Yn2.out hg NEn.out); have cn_2 := (obj_cells Xn3.out).1 2 _ rfl; have fn := (obj_cells Xn3.out).2.1 2; clear he hT hg)
      have Yn3 : Hid ((vn3.setCell ⟨bn, 2, none⟩ (.int .i64 xn3)).heap[bn]? = some (.cells #[.int .i64 xn1, .int .i64 xn2, .int .i64 xn3, .int .i64 0, .int .i64 0, .slice none 0 0] 51 (0, 0))) := Lib.hid (by rw [heap_setCell_at Xn3.out]; rfl)
      have Tn3 : Hid (TkAt (vn3.setCell ⟨bn, 2, none⟩ (.int .i64 xn3)) tb s qn3 dn3) := Lib.hid (Sn3.out.kept (set_grown vn3 bn 2 (.int .i64 xn3)) (fun g e => by cases e; exact NEn.out))
      have Gn3 : Hid (wr.grownBy (vn3.setCell ⟨bn, 2, none⟩ (.int .i64 xn3)) (some tb)) := Lib.hid (grown_trans (grown_trans Gn2.out Hn3.out (fun g e => .inl e)) (set_grown vn3 bn 2 (.int .i64 xn3)) (fun g e => by cases e; exact .inr Ln.out))
      clear Sn3 Hn3 Xn3 cn_2 fn
      generalize vn3.setCell ⟨bn, 2, none⟩ (.int .i64 xn3) = un3 at Yn3 Tn3 Gn3 ⊢
      clear Yn2 Tn2 Gn2
      go_upto_region 12 with (go_at_call 29; refine (num_t s tb qn3 dn3 un3 hs Tn3.out).mono ?_; rintro e vn4 ⟨xn4, qn4, dn4, rfl, he, hT, hg⟩; have En4 := Lib.hid he; have Sn4 := Lib.hid hT; have Hn4 := Lib.hid hg; have Xn4 := Lib.hid (box_kept Yn3.out hg NEn.out); have cn_3 := (obj_cells Xn4.out).1 3 _ rfl; have fn := (obj_cells Xn4.out).2.1 3; clear he hT hg)
      have Yn4 : Hid ((vn4.setCell ⟨bn, 3, none⟩ (.int .i64 xn4)).heap[bn]? = some (.cells #[.int .i64 xn1, .int .i64 xn2, .int .i64 xn3, .int .i64 xn4, .int .i64 0, .slice none 0 0] 51 (0, 0))) := Lib.hid (by rw [heap_setCell_at Xn4.out]; rfl)
      have Tn4 : Hid (TkAt (vn4.setCell ⟨bn, 3, none⟩ (.int .i64 xn4)) tb s qn4 dn4) := Lib.hid (Sn4.out.kept (set_grown vn4 bn 3 (.int .i64 xn4)) (fun g e => by cases e; exact NEn.out))
      have Gn4 : Hid (wr.grownBy (vn4.setCell ⟨bn, 3, none⟩ (.int .i64 xn4)) (some tb)) := Lib.hid (grown_trans (grown_trans Gn3.out Hn4.out (fun g e => .inl e)) (set_grown vn4 bn 3 (.int .i64 xn4)) (fun g e => by cases e; exact .inr Ln.out))
      clear Sn4 Hn4 Xn4 cn_3 fn
      generalize vn4.setCell ⟨bn, 3, none⟩ (.int .i64 xn4) = un4 at Yn4 Tn4 Gn4 ⊢
      clear Yn3 Tn3 Gn3
      go_upto_region 13 with (go_at_call 29; refine (num_t s tb qn4 dn4 un4 hs Tn4.out).mono ?_; rintro e vn5 ⟨xn5, qn5, dn5, rfl, he, hT, hg⟩; have En5 := Lib.hid he; have Sn5 := Lib.hid hT; have Hn5 := Lib.hid hg; have Xn5 := Lib.hid (box_kept Yn4.out hg NEn.out); have cn_4 := (obj_cells Xn5.out).1 4 _ rfl; have fn := (obj_cells Xn5.out).2.1 4; clear he hT hg)
      have Yn5 : Hid ((vn5.setCell ⟨bn, 4, none⟩ (.int .i64 xn5)).heap[bn]? = some (.cells #[.int .i64 xn1, .int .i64 xn2, .int .i64 xn3, .int .i64 xn4, .int .i64 xn5, .slice none 0 0] 51 (0, 0))) := Lib.hid (by rw [heap_setCell_at Xn5.out]; rfl)
      have Tn5 : Hid (TkAt (vn5.setCell ⟨bn, 4, none⟩ (.int .i64 xn5)) tb s qn5 dn5) := Lib.hid (Sn5.out.kept (set_grown vn5 bn 4 (.int .i64 xn5)) (fun g e => by cases e; exact NEn.out))
      have Gn5 : Hid (wr.grownBy (vn5.setCell ⟨bn, 4, none⟩ (.int .i64 xn5)) (some tb)) := Lib.hid (grown_trans (grown_trans Gn4.out Hn5.out (fun g e => .inl e)) (set_grown vn5 bn 4 (.int .i64 xn5)) (fun g e => by cases e; exact .inr Ln.out))
      clear Sn5 Hn5 Xn5 cn_4 fn
      generalize vn5.setCell ⟨bn, 4, none⟩ (.int .i64 xn5) = un5 at Yn5 Tn5 Gn5 ⊢
      clear Yn4 Tn4 Gn4
      go_upto_region 14 with (go_at_call 84; refine (nums_t s tb qn5 dn5 un5 hs Tn5.out).mono ?_; rintro e vn6 ⟨kpn, kcn, ln, qn6, dn6, rfl, hO, he, hT, hg⟩; have En6 := Lib.hid he; have Sn6 := Lib.hid hT; have Hn6 := Lib.hid hg; have On6 := Lib.hid hO; clear hO; obtain ⟨knn, hkn⟩ : ∃ kn, ln.length = kn := ⟨_, rfl⟩; rw [hkn] at On6; rw [hkn]; have KNn := Lib.hid hkn; clear hkn; have Xn6 := Lib.hid (box_kept Yn5.out hg NEn.out); have cn_5 := (obj_cells Xn6.out).1 5 _ rfl; have fn := (obj_cells Xn6.out).2.1 5; clear he hT hg)
      have Yn6 : Hid ((vn6.setCell ⟨bn, 5, none⟩ (.slice kpn knn kcn)).heap[bn]? = some (.cells #[.int .i64 xn1, .int .i64 xn2, .int .i64 xn3, .int .i64 xn4, .int .i64 xn5, .slice kpn knn kcn] 51 (0, 0))) := Lib.hid (by rw [heap_setCell_at Xn6.out]; rfl)
      have Tn6 : Hid (TkAt (vn6.setCell ⟨bn, 5, none⟩ (.slice kpn knn kcn)) tb s qn6 dn6) := Lib.hid (Sn6.out.kept (set_grown vn6 bn 5 (.slice kpn knn kcn)) (fun g e => by cases e; exact NEn.out))
      have Gn6 : Hid (wr.grownBy (vn6.setCell ⟨bn, 5, none⟩ (.slice kpn knn kcn)) (some tb)) := Lib.hid (grown_trans (grown_trans Gn5.out Hn6.out (fun g e => .inl e)) (set_grown vn6 bn 5 (.slice kpn knn kcn)) (fun g e => by cases e; exact .inr Ln.out))
      have Kn6 : Hid (lyI.Own (vn6.setCell ⟨bn, 5, none⟩ (.slice kpn knn kcn)) un5.heap.size (.slice kpn knn kcn) ln) := Lib.hid (by
        have h6 : lyI.Own vn6 un5.heap.size (.slice kpn knn kcn) ln := On6.out
        exact h6.kept (set_grown ..) (fun g hg e => by
          have h7 := (h6.lt hg).1
          have h8 := (Array.getElem?_eq_some_iff.1 Yn5.out).1
          have h9 := Option.some.inj e
          omega))
      have Bn6 : Hid (wr.heap.size ≤ un5.heap.size) := Lib.hid Gn5.out.size
      clear Sn6 Hn6 Xn6 cn_5 fn On6
      generalize vn6.setCell ⟨bn, 5, none⟩ (.slice kpn knn kcn) = un6 at Yn6 Tn6 Gn6 Kn6 ⊢
      generalize hus : un5.heap.size = usn6 at Kn6 Bn6
      clear hus
      clear Yn5 Tn5 Gn5
      have NEQ : Hid (pStep (fromL s p2, false) = (⟨xn1, xn2, xn3, xn4, xn5, ln⟩, (fromL s qn6, dn6))) := Lib.hid (step_eq En1.out En2.out En3.out En4.out En5.out En6.out)
      have H2 : Hid (pRow pStep (K - (i + 1)) (acc ++ [⟨xn1, xn2, xn3, xn4, xn5, ln⟩]) (fromL s qn6, dn6) = r) := Lib.hid (by rw [← H.out]; exact (row_next (by omega) NEQ.out).symm)
      clear NEQ H En1 En2 En3 En4 En5 En6
      have C7 := Lib.hid (C1.out.go Gn6.out Tn6.out)
      have SZ : Hid (w.heap.size ≤ wr.heap.size) := Lib.hid C1.out.grown.size
      have x0 := (obj_cells Yn6.out).1 0 _ rfl
      have x1 := (obj_cells Yn6.out).1 1 _ rfl
      have x2 := (obj_cells Yn6.out).1 2 _ rfl
      have x3 := (obj_cells Yn6.out).1 3 _ rfl
      have x4 := (obj_cells Yn6.out).1 4 _ rfl
      have x5 := (obj_cells Yn6.out).1 5 _ rfl
      have bb2 := (obj_cells C7.out.boxX).1 3 _ rfl
      have BA : Hid (Below un6.heap.size un6 (un6.alloc (.cells #[.int .i64 xn1, .int .i64 xn2, .int .i64 xn3, .int .i64 xn4, .int .i64 xn5, .slice kpn knn kcn] 51))) := Lib.hid (below1 (Below.refl _ _) (Nat.le_refl _) _)
      have OWN : Hid ((un6.alloc (.cells #[.int .i64 xn1, .int .i64 xn2, .int .i64 xn3, .int .i64 xn4, .int .i64 xn5, .slice kpn knn kcn] 51)).ownsRow w.heap.size 51 6 (.slice pv i cv) i (lyS.all vs)) := Lib.hid (by
        have := C7.out.own.row.below BA.out
        unfold Ly.Own at this
        rw [HL.out] at this
        exact this)
      have C8 := Lib.hid (C7.out.go (grown_of_below BA.out (some tb)) (Tn6.out.kept (grown_of_below BA.out none) (fun g e => by cases e)))
      have K8 := Lib.hid (Kn6.out.below BA.out)
      clear C1 Gn6 Tn6 C7 Kn6 Yn6
      go_wp2_with (at_builtin; refine wpList_append_all _ rfl _ _ 52 rfl w.heap.size 51 i6 _ 6 64 Tryz.underlying52 hi6 hz06 hz16 hz26 rfl (by decide) (.slice pv i cv) i (lyS.all vs) rfl OWN.out (some ⟨un6.heap.size, 0, none⟩) 1 1 (Sv.cells ⟨xn1, xn2, xn3, xn4, xn5, kpn, knn, kcn⟩) rfl rfl (fun e => by cases e) (fun ad hp => by cases hp; exact six_new rfl ⟨xn1, xn2, xn3, xn4, xn5, kpn, knn, kcn⟩) (lyS.one ⟨xn1, xn2, xn3, xn4, xn5, kpn, knn, kcn⟩) (by unfold maxLen; omega) (by omega) C8.out.grown.size (i + 1) rfl ?_; intro p9 c9 w9 hown9 hgrow9 hblk9; have G9 := Lib.hid hgrow9; have O9 := Lib.hid hown9; have b9 := box_staysS C8.out.own.row hgrow9 C8.out.boxX (by decide); have bc := (obj_cells b9).1 3 _ rfl; have bf := (obj_cells b9).2.1; clear hown9 hgrow9 hblk9 b9)
      go_roundw
      case rel =>
        refine ⟨i + 1, qn6, dn6, acc ++ [⟨xn1, xn2, xn3, xn4, xn5, ln⟩], .slice p9 (i + 1) c9, vs ++ [⟨xn1, xn2, xn3, xn4, xn5, kpn, knn, kcn⟩], by omega, by go_num, Lib.hid (by rw [List.length_append, AL.out]; rfl), H2, Lib.hid ?_⟩
        refine C8.out.push G9.out ⟨xn1, xn2, xn3, xn4, xn5, kpn, knn, kcn⟩ ⟨xn1, xn2, xn3, xn4, xn5, ln⟩ ⟨rfl, rfl, rfl, rfl, rfl, K8.out.mono (Nat.le_trans SZ.out Bn6.out)⟩ ?_
        unfold Ly.Own
        rw [List.length_append, HL.out, List.length_singleton, all_app, all_one]
        exact O9.out
      case measure => simp [intOf]; omega
    · have RD : Hid (r = (acc, fromL s p2, b2)) := Lib.hid (by
        rw [← H.out]
        exact row_done (by
          by_cases q2 : i < K
          · right
            cases b2 with
            | true => rfl
            | false => exact absurd ⟨q2, rfl⟩ q1
          · left; omega))
      have b0 := (obj_cells C.out.boxX).1 0 _ rfl
      have b1 := (obj_cells C.out.boxX).1 1 _ rfl
      have bx2 := (obj_cells C.out.boxX).1 2 _ rfl
      have bx3 := (obj_cells C.out.boxX).1 3 _ rfl
      have r0 := (obj_cells C.out.boxR).1 0 _ rfl
      have r1 := (obj_cells C.out.boxR).1 1 _ rfl
      have r2 := (obj_cells C.out.boxR).1 2 _ rfl
      have r3 := (obj_cells C.out.boxR).1 3 _ rfl
      have rf := (obj_cells C.out.boxR).2.1
      have FIN : Hid (EntT s tb p bad w (.returned (.agg #[.int .i64 xa1, .int .i64 xa2, .slice cpa ma.length cca, .slice pv i cv])) (setAll wr rb 0 [.int .i64 xa1, .int .i64 xa2, .slice cpa ma.length cca, .slice pv i cv])) := Lib.hid (by
        have g2 := setAll_one wr rb 0 [.int .i64 xa1, .int .i64 xa2, .slice cpa ma.length cca, .slice pv i cv]
        refine ⟨xa1, xa2, cpa, cca, ma, pv, cv, vs, acc, p2, b2, by rw [AL.out]; rfl, by rw [TE.out, RD.out], compsOwn_kept C.out.edit g2 C.out.boxR (by decide), ?_, C.out.tk.kept g2 (fun g e => by cases e; exact type_ne C.out.boxR C.out.tk.obj (by decide)), grown_trans C.out.grown g2 (fun g e => by cases e; exact .inr C.out.newR)⟩
        rw [AL.out]
        exact C.out.own.kept g2 C.out.boxR (by decide) (by decide))
      by_cases q2 : i < K
      · have q3 : b2 = true := by
          cases b2 with
          | true => rfl
          | false => exact absurd ⟨q2, rfl⟩ q1
        subst q3
        clear q1
        go_wp2_with fail
        refine bodyPost_ret (v := .agg #[.int .i64 xa1, .int .i64 xa2, .slice cpa ma.length cca, .slice pv i cv]) (by rw [results_cell1 rfl]; go_simp) rfl ?_
        exact FIN.out
      · clear q1
        go_wp2_with fail
        refine bodyPost_ret (v := .agg #[.int .i64 xa1, .int .i64 xa2, .slice cpa ma.length cca, .slice pv i cv]) (by rw [results_cell1 rfl]; go_simp) rfl ?_
        exact FIN.out

end Go.Proofs.YtjmfjlffcopnnaaGreatDoor
