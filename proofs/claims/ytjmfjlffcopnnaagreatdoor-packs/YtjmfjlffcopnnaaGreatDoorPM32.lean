/-
  GetMsg at the letter of changes: the walk (made by tools/gentt.py). Conditions: as each theorem's premises say.
-/
import Derived.Test.YtjmfjlffcopnnaaGreatDoorPM26
import Derived.Test.YtjmfjlffcopnnaaGreatDoorPM31
import Derived.Test.YtjmfjlffcopnnaaGreatDoorPM27
namespace Go.Proofs.YtjmfjlffcopnnaaGreatDoor
open Go.RowKit
open Go.Proofs.YtjmfjlffcopnnaaGreatDoor.K (C)

/-- A box of another type stays, where the row of entries is written. -/
theorem box_staysE {w w' : World} {base k : Nat} {v : Value} {vs : List Ev} {c : Array Value} {ty : TypeId} (ho : lyE.Own w base v vs) (hg : w.grownBy w' v.ownBlock) (h : w.heap[k]? = some (.cells c ty (0, 0))) (hty : ty ≠ 54) : w'.heap[k]? = some (.cells c ty (0, 0)) :=
  (hg.block k (Array.getElem?_eq_some_iff.1 h).1 (fun e => by
    obtain ⟨cur, hcur⟩ := ho.obj e.symm
    exact type_ne h hcur hty rfl)).trans h
/-- Changes that are being taken: the taker, the message's box, its entries so far. -/
structure GE (w0 wr : World) (s : ByteArray) (tb p : Nat) (bad : Bool) (mb base : Nat) (cl rv : Int) (es : List En) (nv : Value) (vs : List Ev) : Prop where
  tk : TkAt wr tb s p bad
  boxM : wr.heap[mb]? = some (.cells #[.int .i64 1, .int .i64 cl, .int .i64 rv, .int .i64 0, .int .i64 0, .int .i64 0, .bool false, .slice none 0 0, nv, .string ⟨#[]⟩, .int .i64 0, .int .i64 0, .slice none 0 0] 28 (0, 0))
  own : OwnE wr base nv vs es
  grown : w0.grownBy wr (some tb)
  newM : w0.heap.size ≤ mb
  newB : base ≤ w0.heap.size
theorem GE.go {w0 wr W : World} {s : ByteArray} {tb p q mb base : Nat} {bad d : Bool} {cl rv : Int} {es : List En} {nv : Value} {vs : List Ev} (h : GE w0 wr s tb p bad mb base cl rv es nv vs) (hg : wr.grownBy W (some tb)) (ht : TkAt W tb s q d) : GE w0 W s tb q d mb base cl rv es nv vs :=
  ⟨ht, box_kept h.boxM hg (type_ne h.boxM h.tk.obj (by decide)), h.own.kept hg h.tk.obj (by decide) (by decide) (by decide) (by decide), grown_trans h.grown hg (fun g e => .inl e), h.newM, h.newB⟩
theorem GE.push {w0 W w' : World} {s : ByteArray} {tb p mb base : Nat} {bad : Bool} {cl rv : Int} {es : List En} {nv nv' : Value} {vs : List Ev} (h : GE w0 W s tb p bad mb base cl rv es nv vs) (hg : W.grownBy w' nv.ownBlock) (hgB : ∀ g, nv.ownBlock = some g → w0.heap.size ≤ g) (v : Ev) (m : En) (hv : FitE W base v m) (ho : lyE.Own w' base nv' (vs ++ [v])) : GE w0 (w'.setCell ⟨mb, 8, none⟩ nv') s tb p bad mb base cl rv (es ++ [m]) nv' (vs ++ [v]) := by
  have a2 := box_staysE h.own.row hg h.boxM (by decide)
  have a3 := box_staysE h.own.row hg h.tk.obj (by decide)
  have g2 := set_grown w' mb 8 nv'
  refine ⟨⟨box_kept a3 g2 (type_ne a3 a2 (by decide)), h.tk.le⟩, ?_, ?_, ?_, h.newM, h.newB⟩
  · rw [heap_setCell_at a2]; rfl
  · exact (h.own.pushK hg v m hv ho).kept g2 a2 (by decide) (by decide) (by decide) (by decide)
  · exact grown_setNew (grown_trans h.grown hg (fun g e => .inr (hgB g e))) h.newM _

set_option maxRecDepth 100000 in
set_option maxHeartbeats 8000000 in
theorem get_changes (s : ByteArray) (w : World) (h0 : 0 < s.size) (hs : s.size ≤ 1000000) (hc : s[0] = 67) : Calls Tryz.prog 9 #[.string s] w (GetP s w) := by
  have BH : Hid (bytesOf s = 67 :: fromL s 1) := Lib.hid (bytes_head h0 hc)
  have h1 : (0 : Int) < (s.size : Int) := by omega
  have h2 : (s.size : Int) ≤ 1000000 := by omega
  go_enter Tryz.func9, Tryz.ntmps9
  go_upto_region 4 with fail
  have R0 : Hid (((w.alloc (.cells #[.int .i64 0, .int .i64 0, .int .i64 0, .int .i64 0, .int .i64 0, .int .i64 0, .bool false, .slice none 0 0, .slice none 0 0, .string ⟨#[]⟩, .int .i64 0, .int .i64 0, .slice none 0 0] 28)).alloc (.cells #[.string s, .int .i64 1, .bool false] 74)).heap[w.heap.size]? = some (.cells #[.int .i64 0, .int .i64 0, .int .i64 0, .int .i64 0, .int .i64 0, .int .i64 0, .bool false, .slice none 0 0, .slice none 0 0, .string ⟨#[]⟩, .int .i64 0, .int .i64 0, .slice none 0 0] 28 (0, 0))) := Lib.hid (heap_old (heap_alloc_new w _) _)
  have T0 : Hid (TkAt ((w.alloc (.cells #[.int .i64 0, .int .i64 0, .int .i64 0, .int .i64 0, .int .i64 0, .int .i64 0, .bool false, .slice none 0 0, .slice none 0 0, .string ⟨#[]⟩, .int .i64 0, .int .i64 0, .slice none 0 0] 28)).alloc (.cells #[.string s, .int .i64 1, .bool false] 74)) (w.heap.size + 1) s 1 false) := Lib.hid ⟨heap_new (by simp) _ _, by omega⟩
  have B0 : Hid (Below w.heap.size w ((w.alloc (.cells #[.int .i64 0, .int .i64 0, .int .i64 0, .int .i64 0, .int .i64 0, .int .i64 0, .bool false, .slice none 0 0, .slice none 0 0, .string ⟨#[]⟩, .int .i64 0, .int .i64 0, .slice none 0 0] 28)).alloc (.cells #[.string s, .int .i64 1, .bool false] 74))) := Lib.hid (below1 (below1 (Below.refl _ _) (Nat.le_refl _) _) (by simp) _)
  have Z0 : Hid (w.heap.size + 1 < ((w.alloc (.cells #[.int .i64 0, .int .i64 0, .int .i64 0, .int .i64 0, .int .i64 0, .int .i64 0, .bool false, .slice none 0 0, .slice none 0 0, .string ⟨#[]⟩, .int .i64 0, .int .i64 0, .slice none 0 0] 28)).alloc (.cells #[.string s, .int .i64 1, .bool false] 74)).heap.size) := Lib.hid (by simp)
  generalize (w.alloc (.cells #[.int .i64 0, .int .i64 0, .int .i64 0, .int .i64 0, .int .i64 0, .int .i64 0, .bool false, .slice none 0 0, .slice none 0 0, .string ⟨#[]⟩, .int .i64 0, .int .i64 0, .slice none 0 0] 28)).alloc (.cells #[.string s, .int .i64 1, .bool false] 74) = w0 at R0 T0 B0 Z0 ⊢
  have NR : Hid (w.heap.size ≠ w.heap.size + 1) := Lib.hid (by omega)
  have RT : Hid (w.heap.size ≤ w.heap.size + 1) := Lib.hid (by omega)
  generalize htb : w.heap.size + 1 = tb at T0 Z0 NR RT ⊢
  clear htb
  generalize hrb : w.heap.size = rb at R0 NR ⊢
  have RB : Hid (w.heap.size ≤ rb) := Lib.hid (by rw [hrb]; exact Nat.le_refl _)
  clear hrb
  go_upto_region 5 with (go_at_call 29; refine (num_t s tb 1 false w0 hs T0.out).mono ?_; rintro e va1 ⟨xa1, qa1, da1, rfl, he, hT, hg⟩; have Ea1 := Lib.hid he; have Sa1 := Lib.hid hT; have Ha1 := Lib.hid hg; clear he hT hg)
  have Ya1 : Hid ((va1.alloc (.cells #[.int .i64 0, .int .i64 xa1, .int .i64 0, .int .i64 0, .int .i64 0, .int .i64 0, .bool false, .slice none 0 0, .slice none 0 0, .string ⟨#[]⟩, .int .i64 0, .int .i64 0, .slice none 0 0] 28)).heap[va1.heap.size]? = some (.cells #[.int .i64 0, .int .i64 xa1, .int .i64 0, .int .i64 0, .int .i64 0, .int .i64 0, .bool false, .slice none 0 0, .slice none 0 0, .string ⟨#[]⟩, .int .i64 0, .int .i64 0, .slice none 0 0] 28 (0, 0))) := Lib.hid (heap_alloc_new va1 _)
  have Ta1 := Lib.hid (Sa1.out.kept (World.grownBy_alloc va1 (.cells #[.int .i64 0, .int .i64 xa1, .int .i64 0, .int .i64 0, .int .i64 0, .int .i64 0, .bool false, .slice none 0 0, .slice none 0 0, .string ⟨#[]⟩, .int .i64 0, .int .i64 0, .slice none 0 0] 28) none) (fun g e => by cases e))
  have Ga1 : Hid (w0.grownBy (va1.alloc (.cells #[.int .i64 0, .int .i64 xa1, .int .i64 0, .int .i64 0, .int .i64 0, .int .i64 0, .bool false, .slice none 0 0, .slice none 0 0, .string ⟨#[]⟩, .int .i64 0, .int .i64 0, .slice none 0 0] 28)) (some tb)) := Lib.hid (grown_trans Ha1.out (World.grownBy_alloc va1 _ (some tb)) (fun g e => .inl e))
  have La : Hid (w0.heap.size ≤ va1.heap.size) := Lib.hid Ha1.out.size
  have NEa : Hid (va1.heap.size ≠ tb) := Lib.hid (Sa1.out.out_of (Nat.le_refl _))
  clear Sa1 Ha1
  generalize va1.alloc (.cells #[.int .i64 0, .int .i64 xa1, .int .i64 0, .int .i64 0, .int .i64 0, .int .i64 0, .bool false, .slice none 0 0, .slice none 0 0, .string ⟨#[]⟩, .int .i64 0, .int .i64 0, .slice none 0 0] 28) = ua1 at Ya1 Ta1 Ga1 ⊢
  generalize hyb : va1.heap.size = ba at Ya1 La NEa ⊢
  clear hyb
  go_upto_region 6 with (go_at_call 29; refine (num_t s tb qa1 da1 ua1 hs Ta1.out).mono ?_; rintro e va2 ⟨xa2, qa2, da2, rfl, he, hT, hg⟩; have Ea2 := Lib.hid he; have Sa2 := Lib.hid hT; have Ha2 := Lib.hid hg; have Xa2 := Lib.hid (box_kept Ya1.out hg NEa.out); have ca_2 := (obj_cells Xa2.out).1 2 _ rfl; have fa := (obj_cells Xa2.out).2.1 2; clear he hT hg)
  have Ya2 : Hid ((va2.setCell ⟨ba, 2, none⟩ (.int .i64 xa2)).heap[ba]? = some (.cells #[.int .i64 0, .int .i64 xa1, .int .i64 xa2, .int .i64 0, .int .i64 0, .int .i64 0, .bool false, .slice none 0 0, .slice none 0 0, .string ⟨#[]⟩, .int .i64 0, .int .i64 0, .slice none 0 0] 28 (0, 0))) := Lib.hid (by rw [heap_setCell_at Xa2.out]; rfl)
  have Ta2 : Hid (TkAt (va2.setCell ⟨ba, 2, none⟩ (.int .i64 xa2)) tb s qa2 da2) := Lib.hid (Sa2.out.kept (set_grown va2 ba 2 (.int .i64 xa2)) (fun g e => by cases e; exact NEa.out))
  have Ga2 : Hid (w0.grownBy (va2.setCell ⟨ba, 2, none⟩ (.int .i64 xa2)) (some tb)) := Lib.hid (grown_trans (grown_trans Ga1.out Ha2.out (fun g e => .inl e)) (set_grown va2 ba 2 (.int .i64 xa2)) (fun g e => by cases e; exact .inr La.out))
  clear Sa2 Ha2 Xa2 ca_2 fa
  generalize va2.setCell ⟨ba, 2, none⟩ (.int .i64 xa2) = ua2 at Ya2 Ta2 Ga2 ⊢
  clear Ya1 Ta1 Ga1
  have f0 := (obj_cells Ya2.out).2.1 0
  have c0 := (obj_cells Ya2.out).1 0 _ rfl
  go_upto_region 19 with fail
  clear f0 c0
  have Ya3 : Hid ((ua2.setCell ⟨ba, 0, none⟩ (.int .i64 1)).heap[ba]? = some (.cells #[.int .i64 1, .int .i64 xa1, .int .i64 xa2, .int .i64 0, .int .i64 0, .int .i64 0, .bool false, .slice none 0 0, .slice none 0 0, .string ⟨#[]⟩, .int .i64 0, .int .i64 0, .slice none 0 0] 28 (0, 0))) := Lib.hid (by rw [heap_setCell_at Ya2.out]; rfl)
  have Ta3 := Lib.hid (Ta2.out.kept (set_grown ua2 ba 0 (.int .i64 1)) (fun g e => by cases e; exact NEa.out))
  have Ga3 : Hid (w0.grownBy (ua2.setCell ⟨ba, 0, none⟩ (.int .i64 1)) (some tb)) := Lib.hid (grown_setNew Ga2.out La.out _)
  generalize ua2.setCell ⟨ba, 0, none⟩ (.int .i64 1) = ua3 at Ya3 Ta3 Ga3 ⊢
  clear Ya2 Ta2 Ga2
  go_upto_region 20 with (go_at_call 31; refine (count_t s tb qa2 da2 ua3 hs Ta3.out).mono ?_; rintro e w3 ⟨K, q3, d3, rfl, hK, he, hT, hg⟩; have E3 := Lib.hid he; have T3 := Lib.hid hT; have H3 := Lib.hid hg; clear he hT hg)
  have S0 : Hid (w.heap.size ≤ w0.heap.size) := Lib.hid B0.out.size
  have C0 : Hid (GE w0 w3 s tb q3 d3 ba w0.heap.size xa1 xa2 [] (.slice none 0 0) []) := Lib.hid ⟨T3.out, box_kept Ya3.out H3.out NEa.out, OwnE.nil _ _, grown_trans Ga3.out H3.out (fun g e => .inl e), La.out, Nat.le_refl _⟩
  obtain ⟨r, hr⟩ : ∃ r, pRow pEnt K [] (fromL s q3, d3) = r := ⟨_, rfl⟩
  have HR := Lib.hid hr
  have TE : Hid (pMsg 67 (fromL s 1, false) = (⟨1, xa1, xa2, 0, 0, 0, false, ⟨#[]⟩, 0, 0, [], [], r.1⟩, r.2)) := Lib.hid (changes_eq Ea1.out Ea2.out E3.out (by rw [hr]))
  obtain ⟨i6, hi6, hz06, hz16, hz26⟩ := info_parts info54
  clear hr Ea1 Ea2 E3 T0 Ta3 Ya3 Ga3 H3 T3 La NEa h0 h1 h2 hc
  go_wp2_with fail
  go_loopw [7] (fun a wr => ∃ (i p2 : Nat) (b2 : Bool) (acc : List En) (nv : Value) (vs : List Ev), i ≤ K ∧ a = .int .i64 i ∧ Hid (acc.length = i) ∧ Hid (pRow pEnt (K - i) acc (fromL s p2, b2) = r) ∧ Hid (GE w0 wr s tb p2 b2 ba w0.heap.size xa1 xa2 acc nv vs)) (fun a _ => K - (intOf a).toNat)
  case atStart => exact ⟨0, q3, d3, [], _, _, by omega, rfl, Lib.hid rfl, HR, C0⟩
  case round =>
    clear C0 HR
    obtain ⟨i, p2, b2, acc, nv, vs, h1, rfl, AL, H, C⟩ := hrel
    have c2 : wr.cell? ⟨tb, 2, none⟩ = some (.bool b2) := (obj_cells C.out.tk.obj).1 2 _ rfl
    obtain ⟨pv, cv, rfl⟩ := C.out.own.row.form
    have HL : Hid (vs.length = i) := Lib.hid (by rw [C.out.own.len]; exact AL.out)
    rw [HL.out] at C
    by_cases q1 : i < K ∧ b2 = false
    · obtain ⟨q1, rfl⟩ := q1
      go_upto_region 23 with fail
      clear c2
      have T1 := Lib.hid C.out.tk
      have ENT : Hid (∀ W, Below wr.heap.size wr W → Calls Tryz.prog 32 #[.pointer (some ⟨tb, 0, none⟩)] W (EntT s tb p2 false W)) := Lib.hid (fun W hW => tkEntry_any s tb p2 false W hs (T1.out.kept (grown_of_below hW none) (fun g e => by cases e)))
      have m8 := (obj_cells C.out.boxM).1 8 _ rfl
      have CM : Hid (∀ W, wr.grownBy W (some tb) → W.cell? ⟨ba, 8, none⟩ = some (.slice pv i cv)) := Lib.hid (fun W hW => (obj_cells (box_kept C.out.boxM hW (type_ne C.out.boxM C.out.tk.obj (by decide)))).1 8 _ rfl)
      have BD : Hid (Below wr.heap.size wr wr.drew) := Lib.hid (below_drew (Below.refl _ _))
      go_region_law (first
        | (refine step_append_all _ (by rfl) (.tmp 76) (.tmp 79) 23 (by rfl) w0.heap.size 54 i6 _ 4 64 Tryz.underlying23 hi6 hz06 hz16 hz26 rfl (by decide) (.slice pv i cv) i (lyE.all vs) (by rfl) (OWN5.out _ (below1 (Below.refl _ _) (Nat.le_refl _) _)) (some ⟨w5.heap.size, 0, none⟩) 1 1 (Ev.cells ⟨cl, sq, ep, ed.length, ec, np, ss.length, nc⟩) (by rfl) rfl (fun e => by cases e) (fun ad hp => by cases hp; exact four_new rfl ⟨cl, sq, ep, ed.length, ec, np, ss.length, nc⟩) (lyE.one ⟨cl, sq, ep, ed.length, ec, np, ss.length, nc⟩) (by unfold maxLen; omega) (by omega) (Nat.le_trans SZ5.out (by simp)) (i + 1) rfl ?_
           intro p9 c9 w9 hown9 hgrow9 hblk9
           have G9 := Lib.hid hgrow9
           have O9 := Lib.hid hown9
           have b9 := CM9.out w9 hgrow9
           have bc := (obj_cells b9).1 8 _ rfl
           have bf := (obj_cells b9).2.1 8
           clear hown9 hgrow9 hblk9 b9)
        | (go_simp
           go_at_call 32
           refine (ENT.out _ BD.out).mono ?_
           rintro e w5 ⟨cl, sq, ep, ec, ed, np, nc, us, ss, q5, d5, rfl, he, ho1, ho2, hT, hg⟩
           unfold enV
           have E5 := Lib.hid he
           have G5 : Hid (wr.grownBy w5 (some tb)) := Lib.hid (grown_trans (grown_of_below BD.out _) hg (fun g e => .inl e))
           have m85 := CM.out w5 G5.out
           have C5 := Lib.hid (C.out.go G5.out hT)
           have SB : Hid (w0.heap.size ≤ wr.heap.size) := Lib.hid C.out.grown.size
           have FE : Hid (FitE w5 w0.heap.size ⟨cl, sq, ep, ed.length, ec, np, ss.length, nc⟩ ⟨cl, sq, ed, ss⟩) := Lib.hid ⟨rfl, rfl, ho1.mono SB.out, us, ho2.mono SB.out⟩
           have SZ5 : Hid (w0.heap.size ≤ w5.heap.size) := Lib.hid C5.out.grown.size
           have OWN5 : Hid (∀ W, Below w5.heap.size w5 W → W.ownsRow w0.heap.size 54 4 (.slice pv i cv) i (lyE.all vs)) := Lib.hid (fun W hW => by
             have := C5.out.own.row.below hW
             unfold Ly.Own at this
             rw [HL.out] at this
             exact this)
           have BA : Below w5.heap.size w5 (w5.alloc (.cells #[.int .i64 cl, .int .i64 sq, .slice ep ed.length ec, .slice np ss.length nc] 54)) := below1 (Below.refl _ _) (Nat.le_refl _) _
           have C8 : Hid (GE w0 (w5.alloc (.cells #[.int .i64 cl, .int .i64 sq, .slice ep ed.length ec, .slice np ss.length nc] 54)) s tb q5 d5 ba w0.heap.size xa1 xa2 acc (.slice pv i cv) vs) := Lib.hid (C5.out.go (grown_of_below BA (some tb)) (hT.kept (grown_of_below BA none) (fun g e => by cases e)))
           have F8 : Hid (FitE (w5.alloc (.cells #[.int .i64 cl, .int .i64 sq, .slice ep ed.length ec, .slice np ss.length nc] 54)) w0.heap.size ⟨cl, sq, ep, ed.length, ec, np, ss.length, nc⟩ ⟨cl, sq, ed, ss⟩) := Lib.hid (FE.out.below BA)
           have CM9 := Lib.hid (fun w9 (hg9 : (w5.alloc (.cells #[.int .i64 cl, .int .i64 sq, .slice ep ed.length ec, .slice np ss.length nc] 54)).grownBy w9 (Value.slice pv i cv).ownBlock) => box_staysE C8.out.own.row hg9 C8.out.boxM (by decide))
           have m86 := (obj_cells C8.out.boxM).1 8 _ rfl
           clear he ho1 ho2 hT hg BA))
      all_goals
        have NEQ : Hid (pRow pEnt (K - (i + 1)) (acc ++ [⟨cl, sq, ed, ss⟩]) (fromL s q5, d5) = r) := Lib.hid (by rw [← H.out]; exact (row_next (by omega) E5.out).symm)
        have PU := Lib.hid (C8.out.push G9.out (fun g e => (C8.out.own.row.lt e).1) ⟨cl, sq, ep, ed.length, ec, np, ss.length, nc⟩ ⟨cl, sq, ed, ss⟩ F8.out (nv' := .slice p9 (i + 1) c9) (by
          unfold Ly.Own
          rw [List.length_append, HL.out, List.length_singleton, all_app, all_one]
          exact O9.out))
        clear m8 m85 m86 bc bf CM CM9 C8 F8 OWN5 SZ5 FE C5 G5 ENT BD T1 G9 O9 E5 H
        go_wp2_with fail
        go_roundw
        case rel => exact ⟨i + 1, q5, d5, acc ++ [⟨cl, sq, ed, ss⟩], .slice p9 (i + 1) c9, vs ++ [⟨cl, sq, ep, ed.length, ec, np, ss.length, nc⟩], by omega, by go_num, Lib.hid (by rw [List.length_append, AL.out]; rfl), NEQ, PU⟩
        case measure => simp [intOf]; omega
    · have RD : Hid (r = (acc, fromL s p2, b2)) := Lib.hid (by
        rw [← H.out]
        exact row_done (by
          by_cases q2 : i < K
          · right
            cases b2 with
            | true => rfl
            | false => exact absurd ⟨q2, rfl⟩ q1
          · left; omega))
      have AL2 := AL.out
      subst AL2
      have Tz := Lib.hid C.out.tk
      have Yz := Lib.hid C.out.boxM
      have Gz := Lib.hid C.out.grown
      have Oz := Lib.hid C.out.own
      clear AL HL C H
      by_cases q2 : acc.length < K
      · have q3 : b2 = true := by
          cases b2 with
          | true => rfl
          | false => exact absurd ⟨q2, rfl⟩ q1
        clear q1
        have PE : Hid (pMsg 67 (fromL s 1, false) = (⟨1, xa1, xa2, 0, 0, 0, false, ⟨#[]⟩, 0, 0, [], [], acc⟩, fromL s p2, b2)) := Lib.hid (by rw [TE.out, RD.out])
        have BU : Hid (Below w.heap.size w wr) := Lib.hid (B0.out.trans (below_grownN Gz.out (fun g e => by cases e; exact RT.out) B0.out.size))
        have OM : Hid (OwnM wr w.heap.size ⟨1, xa1, xa2, 0, 0, 0, false, ⟨#[]⟩, 0, 0, [], [], acc⟩ ⟨none, 0, pv, cv, none, 0⟩) := Lib.hid ⟨ownC_none _ _, ⟨vs, Oz.out.mono S0.out⟩, [], ownT_none _ _⟩
        have PC : Hid (PutC ⟨1, xa1, xa2, 0, 0, 0, false, ⟨#[]⟩, 0, 0, [], [], acc⟩ ⟨none, 0, pv, cv, none, 0⟩ wr) := Lib.hid (put_any _ _ _ (by have := msg_z 67 (fromL s 1, false) (by show (fromL s 1).length ≤ 1000000; rw [from_len]; omega); rw [PE.out] at this; exact this) OM.out.read)
        have RU : Hid (wr.heap[rb]? = some (.cells #[.int .i64 0, .int .i64 0, .int .i64 0, .int .i64 0, .int .i64 0, .int .i64 0, .bool false, .slice none 0 0, .slice none 0 0, .string ⟨#[]⟩, .int .i64 0, .int .i64 0, .slice none 0 0] 28 (0, 0))) := Lib.hid (box_kept R0.out Gz.out NR.out)
        have NO := Lib.hid (fun (us : List Value) W hW hc => get_fin_no (w := w) (rb := rb) BH.out PE.out RB.out us (W := W) hW hc)
        have YES := Lib.hid (fun (us : List Value) W hW hm he => get_fin_yes (s := s) (w := w) (rb := rb) hs RB.out us OM.out RU.out BU.out (W := W) hW hm he)
        have TU := Tz
        have e0 := (obj_cells Yz.out).1 0 _ rfl
        have e1 := (obj_cells Yz.out).1 1 _ rfl
        have e2 := (obj_cells Yz.out).1 2 _ rfl
        have e3 := (obj_cells Yz.out).1 3 _ rfl
        have e4 := (obj_cells Yz.out).1 4 _ rfl
        have e5 := (obj_cells Yz.out).1 5 _ rfl
        have e6 := (obj_cells Yz.out).1 6 _ rfl
        have e7 := (obj_cells Yz.out).1 7 _ rfl
        have e8 := (obj_cells Yz.out).1 8 _ rfl
        have e9 := (obj_cells Yz.out).1 9 _ rfl
        have e10 := (obj_cells Yz.out).1 10 _ rfl
        have e11 := (obj_cells Yz.out).1 11 _ rfl
        have e12 := (obj_cells Yz.out).1 12 _ rfl
        unfold PutC msV at PC
        dsimp only at PC
        clear OM PE R0 B0 Z0 BH Tz
        go_wp2_with fail
        refine PC.out.mono ?_
        rintro e w9 ⟨hb9, hor⟩
        have B9 := Lib.hid hb9
        have X9 := Lib.hid (heap_later Yz.out hb9)
        have T9 := Lib.hid (TU.out.kept (grown_of_below hb9 none) (fun g e => by cases e))
        have R9 := Lib.hid (heap_later RU.out hb9)
        have BW := Lib.hid (BU.out.trans (hb9.mono BU.out.size))
        clear hb9
        have c2 : w9.cell? ⟨tb, 2, none⟩ = some (.bool b2) := (obj_cells T9.out.obj).1 2 _ rfl
        have r0 := (obj_cells R9.out).1 0 _ rfl
        have r1 := (obj_cells R9.out).1 1 _ rfl
        have r2 := (obj_cells R9.out).1 2 _ rfl
        have r3 := (obj_cells R9.out).1 3 _ rfl
        have r4 := (obj_cells R9.out).1 4 _ rfl
        have r5 := (obj_cells R9.out).1 5 _ rfl
        have r6 := (obj_cells R9.out).1 6 _ rfl
        have r7 := (obj_cells R9.out).1 7 _ rfl
        have r8 := (obj_cells R9.out).1 8 _ rfl
        have r9 := (obj_cells R9.out).1 9 _ rfl
        have r10 := (obj_cells R9.out).1 10 _ rfl
        have r11 := (obj_cells R9.out).1 11 _ rfl
        have r12 := (obj_cells R9.out).1 12 _ rfl
        have rf := (obj_cells R9.out).2.1
        have g0 := (obj_cells X9.out).1 0 _ rfl
        have g1 := (obj_cells X9.out).1 1 _ rfl
        have g2 := (obj_cells X9.out).1 2 _ rfl
        have g3 := (obj_cells X9.out).1 3 _ rfl
        have g4 := (obj_cells X9.out).1 4 _ rfl
        have g5 := (obj_cells X9.out).1 5 _ rfl
        have g6 := (obj_cells X9.out).1 6 _ rfl
        have g7 := (obj_cells X9.out).1 7 _ rfl
        have g8 := (obj_cells X9.out).1 8 _ rfl
        have g9 := (obj_cells X9.out).1 9 _ rfl
        have g10 := (obj_cells X9.out).1 10 _ rfl
        have g11 := (obj_cells X9.out).1 11 _ rfl
        have g12 := (obj_cells X9.out).1 12 _ rfl
        clear e0 e1 e2 e3 e4 e5 e6 e7 e8 e9 e10 e11 e12
        rcases hor with ⟨hm, hl, z9, rfl, hz9⟩ | ⟨hm, rfl⟩
        · have HM := Lib.hid hm; have HZ := Lib.hid hz9; clear hm hl hz9
          by_cases hd : b2 = true
          · have HD := Lib.hid hd
            rw [hd] at c2
            clear hd
            go_wp2_with fail
            refine bodyPost_ret (v := .tuple #[.agg #[.int .i64 0, .int .i64 0, .int .i64 0, .int .i64 0, .int .i64 0, .int .i64 0, .bool false, .slice none 0 0, .slice none 0 0, .string ⟨#[]⟩, .int .i64 0, .int .i64 0, .slice none 0 0], .int .i64 1700]) (by rw [results_cell_tmp rfl]; go_simp) rfl ?_
            exact NO.out [.int .i64 0, .int .i64 0, .int .i64 0, .int .i64 0, .int .i64 0, .int .i64 0, .bool false, .slice none 0 0, .slice none 0 0, .string ⟨#[]⟩, .int .i64 0, .int .i64 0, .slice none 0 0] w9 BW.out (.inl HD.out)
          · have hd2 : b2 = false := by simpa using hd
            rw [hd2] at c2
            clear hd hd2
            by_cases hzs : z9 = s
            · subst hzs
              go_wp2_with fail
              refine bodyPost_ret (v := .tuple #[.agg #[.int .i64 1, .int .i64 xa1, .int .i64 xa2, .int .i64 0, .int .i64 0, .int .i64 0, .bool false, .slice none 0 0, .slice pv acc.length cv, .string ⟨#[]⟩, .int .i64 0, .int .i64 0, .slice none 0 0], .int .i64 0]) (by rw [results_cell_tmp rfl]; go_simp) rfl ?_
              exact YES.out [.int .i64 1, .int .i64 xa1, .int .i64 xa2, .int .i64 0, .int .i64 0, .int .i64 0, .bool false, .slice none 0 0, .slice pv acc.length cv, .string ⟨#[]⟩, .int .i64 0, .int .i64 0, .slice none 0 0] w9 B9.out HM.out HZ.out.symm
            · have HN : Hid (¬ z9 = s) := Lib.hid hzs
              have k9 : (z9.toList == s.toList) = false := by
                rw [beq_eq_false_iff_ne]
                intro e
                exact hzs (by cases z9; cases s; simpa [ByteArray.toList_eq] using e)
              clear hzs
              go_wp2_with fail
              refine bodyPost_ret (v := .tuple #[.agg #[.int .i64 0, .int .i64 0, .int .i64 0, .int .i64 0, .int .i64 0, .int .i64 0, .bool false, .slice none 0 0, .slice none 0 0, .string ⟨#[]⟩, .int .i64 0, .int .i64 0, .slice none 0 0], .int .i64 1700]) (by rw [results_cell_tmp rfl]; go_simp) rfl ?_
              exact NO.out [.int .i64 0, .int .i64 0, .int .i64 0, .int .i64 0, .int .i64 0, .int .i64 0, .bool false, .slice none 0 0, .slice none 0 0, .string ⟨#[]⟩, .int .i64 0, .int .i64 0, .slice none 0 0] w9 BW.out (.inr (.inr (fun e => HN.out (by
                have e2 := HZ.out.trans e
                cases z9; cases s
                simp [bytesOf] at e2
                exact congrArg _ e2))))
        · have HM := Lib.hid hm; clear hm
          by_cases hd : b2 = true
          · rw [hd] at c2
            clear hd
            go_wp2_with fail
            refine bodyPost_ret (v := .tuple #[.agg #[.int .i64 0, .int .i64 0, .int .i64 0, .int .i64 0, .int .i64 0, .int .i64 0, .bool false, .slice none 0 0, .slice none 0 0, .string ⟨#[]⟩, .int .i64 0, .int .i64 0, .slice none 0 0], .int .i64 1700]) (by rw [results_cell_tmp rfl]; go_simp) rfl ?_
            exact NO.out [.int .i64 0, .int .i64 0, .int .i64 0, .int .i64 0, .int .i64 0, .int .i64 0, .bool false, .slice none 0 0, .slice none 0 0, .string ⟨#[]⟩, .int .i64 0, .int .i64 0, .slice none 0 0] w9 BW.out (.inr (.inl HM.out))
          · have hd2 : b2 = false := by simpa using hd
            rw [hd2] at c2
            clear hd hd2
            go_wp2_with fail
            refine bodyPost_ret (v := .tuple #[.agg #[.int .i64 0, .int .i64 0, .int .i64 0, .int .i64 0, .int .i64 0, .int .i64 0, .bool false, .slice none 0 0, .slice none 0 0, .string ⟨#[]⟩, .int .i64 0, .int .i64 0, .slice none 0 0], .int .i64 1700]) (by rw [results_cell_tmp rfl]; go_simp) rfl ?_
            exact NO.out [.int .i64 0, .int .i64 0, .int .i64 0, .int .i64 0, .int .i64 0, .int .i64 0, .bool false, .slice none 0 0, .slice none 0 0, .string ⟨#[]⟩, .int .i64 0, .int .i64 0, .slice none 0 0] w9 BW.out (.inr (.inl HM.out))
      · clear q1
        have PE : Hid (pMsg 67 (fromL s 1, false) = (⟨1, xa1, xa2, 0, 0, 0, false, ⟨#[]⟩, 0, 0, [], [], acc⟩, fromL s p2, b2)) := Lib.hid (by rw [TE.out, RD.out])
        have BU : Hid (Below w.heap.size w wr) := Lib.hid (B0.out.trans (below_grownN Gz.out (fun g e => by cases e; exact RT.out) B0.out.size))
        have OM : Hid (OwnM wr w.heap.size ⟨1, xa1, xa2, 0, 0, 0, false, ⟨#[]⟩, 0, 0, [], [], acc⟩ ⟨none, 0, pv, cv, none, 0⟩) := Lib.hid ⟨ownC_none _ _, ⟨vs, Oz.out.mono S0.out⟩, [], ownT_none _ _⟩
        have PC : Hid (PutC ⟨1, xa1, xa2, 0, 0, 0, false, ⟨#[]⟩, 0, 0, [], [], acc⟩ ⟨none, 0, pv, cv, none, 0⟩ wr) := Lib.hid (put_any _ _ _ (by have := msg_z 67 (fromL s 1, false) (by show (fromL s 1).length ≤ 1000000; rw [from_len]; omega); rw [PE.out] at this; exact this) OM.out.read)
        have RU : Hid (wr.heap[rb]? = some (.cells #[.int .i64 0, .int .i64 0, .int .i64 0, .int .i64 0, .int .i64 0, .int .i64 0, .bool false, .slice none 0 0, .slice none 0 0, .string ⟨#[]⟩, .int .i64 0, .int .i64 0, .slice none 0 0] 28 (0, 0))) := Lib.hid (box_kept R0.out Gz.out NR.out)
        have NO := Lib.hid (fun (us : List Value) W hW hc => get_fin_no (w := w) (rb := rb) BH.out PE.out RB.out us (W := W) hW hc)
        have YES := Lib.hid (fun (us : List Value) W hW hm he => get_fin_yes (s := s) (w := w) (rb := rb) hs RB.out us OM.out RU.out BU.out (W := W) hW hm he)
        have TU := Tz
        have e0 := (obj_cells Yz.out).1 0 _ rfl
        have e1 := (obj_cells Yz.out).1 1 _ rfl
        have e2 := (obj_cells Yz.out).1 2 _ rfl
        have e3 := (obj_cells Yz.out).1 3 _ rfl
        have e4 := (obj_cells Yz.out).1 4 _ rfl
        have e5 := (obj_cells Yz.out).1 5 _ rfl
        have e6 := (obj_cells Yz.out).1 6 _ rfl
        have e7 := (obj_cells Yz.out).1 7 _ rfl
        have e8 := (obj_cells Yz.out).1 8 _ rfl
        have e9 := (obj_cells Yz.out).1 9 _ rfl
        have e10 := (obj_cells Yz.out).1 10 _ rfl
        have e11 := (obj_cells Yz.out).1 11 _ rfl
        have e12 := (obj_cells Yz.out).1 12 _ rfl
        unfold PutC msV at PC
        dsimp only at PC
        clear OM PE R0 B0 Z0 BH Tz
        go_wp2_with fail
        refine PC.out.mono ?_
        rintro e w9 ⟨hb9, hor⟩
        have B9 := Lib.hid hb9
        have X9 := Lib.hid (heap_later Yz.out hb9)
        have T9 := Lib.hid (TU.out.kept (grown_of_below hb9 none) (fun g e => by cases e))
        have R9 := Lib.hid (heap_later RU.out hb9)
        have BW := Lib.hid (BU.out.trans (hb9.mono BU.out.size))
        clear hb9
        have c2 : w9.cell? ⟨tb, 2, none⟩ = some (.bool b2) := (obj_cells T9.out.obj).1 2 _ rfl
        have r0 := (obj_cells R9.out).1 0 _ rfl
        have r1 := (obj_cells R9.out).1 1 _ rfl
        have r2 := (obj_cells R9.out).1 2 _ rfl
        have r3 := (obj_cells R9.out).1 3 _ rfl
        have r4 := (obj_cells R9.out).1 4 _ rfl
        have r5 := (obj_cells R9.out).1 5 _ rfl
        have r6 := (obj_cells R9.out).1 6 _ rfl
        have r7 := (obj_cells R9.out).1 7 _ rfl
        have r8 := (obj_cells R9.out).1 8 _ rfl
        have r9 := (obj_cells R9.out).1 9 _ rfl
        have r10 := (obj_cells R9.out).1 10 _ rfl
        have r11 := (obj_cells R9.out).1 11 _ rfl
        have r12 := (obj_cells R9.out).1 12 _ rfl
        have rf := (obj_cells R9.out).2.1
        have g0 := (obj_cells X9.out).1 0 _ rfl
        have g1 := (obj_cells X9.out).1 1 _ rfl
        have g2 := (obj_cells X9.out).1 2 _ rfl
        have g3 := (obj_cells X9.out).1 3 _ rfl
        have g4 := (obj_cells X9.out).1 4 _ rfl
        have g5 := (obj_cells X9.out).1 5 _ rfl
        have g6 := (obj_cells X9.out).1 6 _ rfl
        have g7 := (obj_cells X9.out).1 7 _ rfl
        have g8 := (obj_cells X9.out).1 8 _ rfl
        have g9 := (obj_cells X9.out).1 9 _ rfl
        have g10 := (obj_cells X9.out).1 10 _ rfl
        have g11 := (obj_cells X9.out).1 11 _ rfl
        have g12 := (obj_cells X9.out).1 12 _ rfl
        clear e0 e1 e2 e3 e4 e5 e6 e7 e8 e9 e10 e11 e12
        rcases hor with ⟨hm, hl, z9, rfl, hz9⟩ | ⟨hm, rfl⟩
        · have HM := Lib.hid hm; have HZ := Lib.hid hz9; clear hm hl hz9
          by_cases hd : b2 = true
          · have HD := Lib.hid hd
            rw [hd] at c2
            clear hd
            go_wp2_with fail
            refine bodyPost_ret (v := .tuple #[.agg #[.int .i64 0, .int .i64 0, .int .i64 0, .int .i64 0, .int .i64 0, .int .i64 0, .bool false, .slice none 0 0, .slice none 0 0, .string ⟨#[]⟩, .int .i64 0, .int .i64 0, .slice none 0 0], .int .i64 1700]) (by rw [results_cell_tmp rfl]; go_simp) rfl ?_
            exact NO.out [.int .i64 0, .int .i64 0, .int .i64 0, .int .i64 0, .int .i64 0, .int .i64 0, .bool false, .slice none 0 0, .slice none 0 0, .string ⟨#[]⟩, .int .i64 0, .int .i64 0, .slice none 0 0] w9 BW.out (.inl HD.out)
          · have hd2 : b2 = false := by simpa using hd
            rw [hd2] at c2
            clear hd hd2
            by_cases hzs : z9 = s
            · subst hzs
              go_wp2_with fail
              refine bodyPost_ret (v := .tuple #[.agg #[.int .i64 1, .int .i64 xa1, .int .i64 xa2, .int .i64 0, .int .i64 0, .int .i64 0, .bool false, .slice none 0 0, .slice pv acc.length cv, .string ⟨#[]⟩, .int .i64 0, .int .i64 0, .slice none 0 0], .int .i64 0]) (by rw [results_cell_tmp rfl]; go_simp) rfl ?_
              exact YES.out [.int .i64 1, .int .i64 xa1, .int .i64 xa2, .int .i64 0, .int .i64 0, .int .i64 0, .bool false, .slice none 0 0, .slice pv acc.length cv, .string ⟨#[]⟩, .int .i64 0, .int .i64 0, .slice none 0 0] w9 B9.out HM.out HZ.out.symm
            · have HN : Hid (¬ z9 = s) := Lib.hid hzs
              have k9 : (z9.toList == s.toList) = false := by
                rw [beq_eq_false_iff_ne]
                intro e
                exact hzs (by cases z9; cases s; simpa [ByteArray.toList_eq] using e)
              clear hzs
              go_wp2_with fail
              refine bodyPost_ret (v := .tuple #[.agg #[.int .i64 0, .int .i64 0, .int .i64 0, .int .i64 0, .int .i64 0, .int .i64 0, .bool false, .slice none 0 0, .slice none 0 0, .string ⟨#[]⟩, .int .i64 0, .int .i64 0, .slice none 0 0], .int .i64 1700]) (by rw [results_cell_tmp rfl]; go_simp) rfl ?_
              exact NO.out [.int .i64 0, .int .i64 0, .int .i64 0, .int .i64 0, .int .i64 0, .int .i64 0, .bool false, .slice none 0 0, .slice none 0 0, .string ⟨#[]⟩, .int .i64 0, .int .i64 0, .slice none 0 0] w9 BW.out (.inr (.inr (fun e => HN.out (by
                have e2 := HZ.out.trans e
                cases z9; cases s
                simp [bytesOf] at e2
                exact congrArg _ e2))))
        · have HM := Lib.hid hm; clear hm
          by_cases hd : b2 = true
          · rw [hd] at c2
            clear hd
            go_wp2_with fail
            refine bodyPost_ret (v := .tuple #[.agg #[.int .i64 0, .int .i64 0, .int .i64 0, .int .i64 0, .int .i64 0, .int .i64 0, .bool false, .slice none 0 0, .slice none 0 0, .string ⟨#[]⟩, .int .i64 0, .int .i64 0, .slice none 0 0], .int .i64 1700]) (by rw [results_cell_tmp rfl]; go_simp) rfl ?_
            exact NO.out [.int .i64 0, .int .i64 0, .int .i64 0, .int .i64 0, .int .i64 0, .int .i64 0, .bool false, .slice none 0 0, .slice none 0 0, .string ⟨#[]⟩, .int .i64 0, .int .i64 0, .slice none 0 0] w9 BW.out (.inr (.inl HM.out))
          · have hd2 : b2 = false := by simpa using hd
            rw [hd2] at c2
            clear hd hd2
            go_wp2_with fail
            refine bodyPost_ret (v := .tuple #[.agg #[.int .i64 0, .int .i64 0, .int .i64 0, .int .i64 0, .int .i64 0, .int .i64 0, .bool false, .slice none 0 0, .slice none 0 0, .string ⟨#[]⟩, .int .i64 0, .int .i64 0, .slice none 0 0], .int .i64 1700]) (by rw [results_cell_tmp rfl]; go_simp) rfl ?_
            exact NO.out [.int .i64 0, .int .i64 0, .int .i64 0, .int .i64 0, .int .i64 0, .int .i64 0, .bool false, .slice none 0 0, .slice none 0 0, .string ⟨#[]⟩, .int .i64 0, .int .i64 0, .slice none 0 0] w9 BW.out (.inr (.inl HM.out))
end Go.Proofs.YtjmfjlffcopnnaaGreatDoor
