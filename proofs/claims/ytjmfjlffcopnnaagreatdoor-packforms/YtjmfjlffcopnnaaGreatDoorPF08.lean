/-
  The walk of pair. Conditions: as each theorem's premises say.
-/
import Derived.Test.YtjmfjlffcopnnaaGreatDoorPF07
namespace Go.Proofs.YtjmfjlffcopnnaaGreatDoor
open Go.RowKit

/-- A token's box is written over. -/
theorem re_tok {W : World} {base pb b i en : Nat} {ts : List Tk} {tv nv : Value} {vs : List Nv} {ns : List Nd} {a : Tk} (H : PS W base pb ts i en tv nv vs ns) (hb : W.heap[b]? = some (tkO a)) (htv : tv.ownBlock ≠ some b) (hbase : base ≤ b) (c : Tk) :
    PS (setAll W b 0 (Tk.cells c)) base pb ts i en tv nv vs ns ∧ (setAll W b 0 (Tk.cells c)).heap[b]? = some (tkO c) ∧ Below base W (setAll W b 0 (Tk.cells c)) := by
  have hg := setAll_one W b 0 (Tk.cells c)
  have hlt := (Array.getElem?_eq_some_iff.1 hb).1
  have hpb : pb ≠ b := type_ne H.obj hb (by decide)
  refine ⟨⟨?_, H.new, H.toks.kept hg (fun g hg' e => ?_), H.nodes.kept hg hb (by decide) (by decide)⟩, ?_, below_grown hg hbase (by omega)⟩
  · exact (hg.block pb (Array.getElem?_eq_some_iff.1 H.obj).1 (fun e => hpb (Option.some.inj e))).trans H.obj
  · cases e; exact htv hg'
  · simp only [setAll, Tk.cells]
    rw [heap_setCell_at (heap_setCell_at (heap_setCell_at hb _) _) _]
    rfl
theorem pos_eq {ts r : List Tk} {t : Tk} {i j : Nat} (h : ts.drop i = t :: r) (h' : ts.drop j = r) (hj : j ≤ ts.length) : j = i + 1 := by
  have e1 := congrArg List.length h
  have e2 := congrArg List.length h'
  rw [List.length_drop] at e1 e2
  rw [List.length_cons] at e1
  omega
theorem gro_kids {ns : List Nd} {x : Nat} {m : Nd} (hm : ns[x]? = some m) (hk : m.kids = []) (F : Fo) : ∃ m', (gro ns x F)[x]? = some m' ∧ m'.kids.length ≤ F.size := by
  refine ⟨_, gro_get hm F, ?_⟩
  rw [hk, List.nil_append]
  exact ids_le F _

set_option maxRecDepth 100000 in
set_option maxHeartbeats 1000000 in
theorem pair_Anone {base pb : Nat} {ts : List Tk} {en fr tt : Nat} {ns : List Nd} {w : World} {x : Nat} {m : Nd} {d : Nat} (h : PL w base pb ts (⟨6, fr, tt⟩ :: []) en ns) (hr : Rm 2997 ts (⟨6, fr, tt⟩ :: []) en ns) (hm : ns[x]? = some m) (hk : m.kids = []) (hd12 : d ≤ 12) :
    Calls Tryz.prog 150 #[.pointer (some ⟨pb, 0, none⟩), .int .i64 x, .int .i64 d] w (VPost (.returned (.tuple #[])) base pb ts [] en (clN (gro ns x (((Fo.app (Fo.cons 4 fr tt Fo.nil Fo.nil) (lackF en .nil))).app (lackF en .nil))) x (max tt (((((Fo.app (Fo.cons 4 fr tt Fo.nil Fo.nil) (lackF en .nil))).app (lackF en .nil))).last 0) : Nat)) w) := by
  obtain ⟨i, hi, hd, tv, nv, vs, h⟩ := h
  obtain ⟨ht, hd1, hlt⟩ := drop_cons hd
  have hroom := hr.2.1
  have h300 := hr.1
  rw [List.length_cons] at hroom
  have hx := (List.getElem?_eq_some_iff.1 hm).1
  have H := Lib.hid h; clear h
  have D := Lib.hid hd; have D1 := Lib.hid hd1; clear hd hd1
  have R := Lib.hid hr; clear hr
  have TVL : Hid (∀ g, tv.ownBlock = some g → g < w.heap.size) := Lib.hid (fun g hg => (H.out.toks.lt hg).2)
  have BASE : Hid (base ≤ w.heap.size) := Lib.hid (Nat.le_trans H.out.new (Nat.le_of_lt H.out.cells.2.2.2.2.2.2.2))
  have PV := Lib.hid (show PL w base pb ts _ en ns from ⟨i, hi, D.out, tv, nv, vs, H.out⟩)
  have RV := Lib.hid (R.out.mono (B' := 3000) (ns' := ns) (by omega))
  have KT := Lib.hid (kid_tree ns x hx 4 fr tt .nil)
  have GA := Lib.hid (gro_app ns x hx)
  have GK := Lib.hid (gro_kids hm hk)
  have END := Lib.hid D1.out
  have LEFT : Hid (ts.drop (i + 1) = []) := Lib.hid D1.out
  have POSL : Hid (i + 1 ≤ ts.length) := Lib.hid hlt
  go_enter Tryz.func150, Tryz.ntmps150
  go_wp2_with fail
  rw [dplus]
  refine (value_6 (d := d + 1) PV.out RV.out).mono ?_
  rintro e w1 ⟨rfl, ⟨i', hi', hdr', hp1⟩, hb1, hk1⟩
  obtain rfl := pos_eq D.out hdr' hi'
  clear hdr' hi'
  have H1 := Lib.hid hp1; have B1 := Lib.hid hb1; have K1 := Lib.hid hk1; clear hp1 hb1 hk1
  go_wp2_with fail
  refine (kid_any H1.out x m (get_app hm _) (by rw [hk]; simp) ns.length).mono ?_
  rintro e w2 ⟨rfl, hp1, hb1, hk1⟩
  have B2 := Lib.hid (B1.out.trans hb1); have K2 := Lib.hid (K1.out.trans hk1); clear hb1 hk1 H1 B1 K1
  rw [show kidN (ns ++ [⟨ns.length, (4 : Nat), fr, tt, []⟩]) x ns.length = gro ns x (.cons 4 fr tt .nil .nil) from KT.out] at hp1
  obtain ⟨tv2, nv2, vs2, hp1⟩ := hp1
  obtain rfl := keeps_tv K2.out H.out hp1
  have H2 := Lib.hid hp1; clear hp1
  obtain ⟨g, cap, rfl, hg0, hg1, hcap⟩ := H2.out.toks.formS (by intro e; rw [e] at hlt; simp at hlt)
  have t2 : w2.cell? ⟨g, i * 3 + 2, none⟩ = some (.int .i64 tt) := H2.out.toks.at ht 2 _ rfl
  obtain ⟨c0, c1, c2, c3, c4, c5, cf, hpb⟩ := H2.out.cells
  have q1 : IntKind.i64.wrap (((i + 1 : Nat) : Int) - 1) = (i : Int) := by rw [IntWalk.i64_in _ (by omega)]; omega
  have q2 : IntKind.i64.wrap ((i : Int) + 1 - 1) = (i : Int) := by rw [IntWalk.i64_in _ (by omega)]; omega
  have q3 : (0 : Int) ≤ (i : Int) := by omega
  have q4 : (i : Int) < (ts.length : Int) := by omega
  go_wp2_with fail
  go_quiet (fail)
  clear t2 c0 c1 c2 c3 c4 c5 cf q1 q2 q3 q4
  have D2 := Lib.hid (dr_below w2 nq)
  have H3 := Lib.hid (H2.out.below D2.out)
  have B3 := Lib.hid (B2.out.trans (D2.out.mono (Nat.le_trans BASE.out B2.out.size)))
  have K3 := Lib.hid (K2.out.trans (keeps_below D2.out))
  have NB : Hid (w.heap.size ≤ (w2.drewN nq).heap.size) := Lib.hid B2.out.size
  clear B2 K2 D2 H2
  generalize w2.drewN nq = w3 at H3 B3 K3 NB ⊢
  go_wp2_with fail
  refine (next_no H3.out (by have := congrArg List.length D1.out; rw [List.length_drop] at this; simp at this; omega) (by omega)).mono ?_
  rintro e w4 ⟨rfl, hb1⟩
  have TT := Lib.hid (see_tok H3.out hb1 ⟨0, en, en⟩)
  have NB4 : Hid (w.heap.size ≤ w4.heap.size) := Lib.hid (Nat.le_trans NB.out hb1.size)
  clear hb1
  go_wp2_with fail
  change Calls Tryz.prog 60 _ (w4.alloc (tkO ⟨0, en, en⟩)) _
  generalize w4.heap.size = b at *
  generalize w4.alloc (tkO ⟨0, en, en⟩) = X at TT ⊢
  obtain ⟨m1, hm1, hk1⟩ := GK.out (Fo.cons 4 fr tt Fo.nil Fo.nil)
  simp only [Fo.size] at hk1
  refine (lack_any TT.out.1 (by rw [gro_len]; simp only [Fo.size]; omega) x m1 hm1 (by omega) en).mono ?_
  rintro e w5 ⟨rfl, hp1, hb1, hk1⟩
  rw [GA.out] at hp1
  have BX := Lib.hid (hk1.1 _ _ TT.out.2.2.2)
  have B5 := Lib.hid (B3.out.trans (TT.out.2.1.trans hb1)); have K5 := Lib.hid (K3.out.trans (TT.out.2.2.1.trans hk1)); clear hb1 hk1 hm1
  go_wp2_with fail
  obtain ⟨tv5, nv5, vs5, hp1⟩ := hp1
  obtain rfl := keeps_tv K5.out H.out hp1
  have H5 := Lib.hid hp1; clear hp1 H3 B3 K3 NB TT
  refine (next_no H5.out (by have := congrArg List.length END.out; rw [List.length_drop] at this; simp at this; omega) (by omega)).mono ?_
  rintro e w6 ⟨rfl, hb1⟩
  have BX6 := Lib.hid (show w6.heap[b]? = some (tkO ⟨0, en, en⟩) from (hb1.block b (Array.getElem?_eq_some_iff.1 BX.out).1).trans BX.out)
  have H6 := Lib.hid (H5.out.below hb1)
  have B6 := Lib.hid (B5.out.trans (hb1.mono (Nat.le_trans BASE.out B5.out.size)))
  have K6 := Lib.hid (K5.out.trans (keeps_below hb1))
  clear hb1 BX B5 K5
  obtain ⟨x0, x1, x2⟩ := tk_cells BX6.out
  have xf := (obj_cells BX6.out).2.1
  have RT := Lib.hid (re_tok H6.out BX6.out (fun e => by have := TVL.out _ e; have := NB4.out; omega) (Nat.le_trans BASE.out NB4.out) ⟨0, en, en⟩)
  have K7 : Hid (Keeps w (setAll w6 b 0 (Tk.cells ⟨0, en, en⟩))) := Lib.hid (keeps_new (keeps_new (keeps_new K6.out NB4.out _) NB4.out _) NB4.out _)
  go_wp2_with fail
  change Calls Tryz.prog 60 _ (setAll w6 b 0 (Tk.cells ⟨0, en, en⟩)) _
  generalize setAll w6 b 0 (Tk.cells ⟨0, en, en⟩) = w7 at RT K7 ⊢
  clear x0 x1 x2 xf
  obtain ⟨m2, hm2, hk2⟩ := GK.out (Fo.app (Fo.cons 4 fr tt Fo.nil Fo.nil) (lackF en .nil))
  simp only [Fo.size, Fo.size_app, lack_size] at hk2
  refine (lack_any ⟨_, _, _, RT.out.1⟩ (by rw [gro_len]; simp only [Fo.size, Fo.size_app, lack_size]; omega) x m2 hm2 (by omega) en).mono ?_
  rintro e w8 ⟨rfl, hp1, hb1, hk1⟩
  rw [GA.out] at hp1
  have H8 := Lib.hid hp1; have B8 := Lib.hid (B6.out.trans (RT.out.2.2.trans hb1)); have K8 := Lib.hid (K7.out.trans hk1); clear hp1 hb1 hk1 hm2
  go_wp2_with fail
  refine (close_any x (((Fo.app (Fo.cons 4 fr tt Fo.nil Fo.nil) (lackF en .nil))).app (lackF en .nil)) H8.out m hm hk (by simp only [Fo.size, Fo.size_app, lack_size]; omega) tt).mono ?_
  rintro e wz ⟨rfl, hp1, hb1, hk1⟩
  have HZ := Lib.hid hp1; have BZ := Lib.hid (B8.out.trans hb1); have KZ := Lib.hid (K8.out.trans hk1); clear hp1 hb1 hk1
  go_wp2_with fail
  go_end0
  exact ⟨rfl, ⟨_, POSL.out, LEFT.out, HZ.out⟩, BZ.out, KZ.out⟩

set_option maxRecDepth 100000 in
set_option maxHeartbeats 1000000 in
theorem pair_Bnone {base pb : Nat} {ts : List Tk} {en fr tt : Nat} {fu tu : Nat} {ns : List Nd} {w : World} {x : Nat} {m : Nd} {d : Nat} (h : PL w base pb ts (⟨6, fr, tt⟩ :: [⟨4, fu, tu⟩]) en ns) (hr : Rm 2997 ts (⟨6, fr, tt⟩ :: [⟨4, fu, tu⟩]) en ns) (hm : ns[x]? = some m) (hk : m.kids = []) (hd12 : d ≤ 12) :
    Calls Tryz.prog 150 #[.pointer (some ⟨pb, 0, none⟩), .int .i64 x, .int .i64 d] w (VPost (.returned (.tuple #[])) base pb ts [] en (clN (gro ns x (((Fo.cons 4 fr tt Fo.nil Fo.nil)).app (lackF en .nil))) x (max tu (((((Fo.cons 4 fr tt Fo.nil Fo.nil)).app (lackF en .nil))).last 0) : Nat)) w) := by
  obtain ⟨i, hi, hd, tv, nv, vs, h⟩ := h
  obtain ⟨ht, hd1, hlt⟩ := drop_cons hd
  have hroom := hr.2.1
  have h300 := hr.1
  rw [List.length_cons] at hroom
  have hx := (List.getElem?_eq_some_iff.1 hm).1
  have H := Lib.hid h; clear h
  have D := Lib.hid hd; have D1 := Lib.hid hd1; clear hd hd1
  have R := Lib.hid hr; clear hr
  have TVL : Hid (∀ g, tv.ownBlock = some g → g < w.heap.size) := Lib.hid (fun g hg => (H.out.toks.lt hg).2)
  have BASE : Hid (base ≤ w.heap.size) := Lib.hid (Nat.le_trans H.out.new (Nat.le_of_lt H.out.cells.2.2.2.2.2.2.2))
  have PV := Lib.hid (show PL w base pb ts _ en ns from ⟨i, hi, D.out, tv, nv, vs, H.out⟩)
  have RV := Lib.hid (R.out.mono (B' := 3000) (ns' := ns) (by omega))
  have KT := Lib.hid (kid_tree ns x hx 4 fr tt .nil)
  have GA := Lib.hid (gro_app ns x hx)
  have GK := Lib.hid (gro_kids hm hk)
  obtain ⟨hut, hd2, hlt2⟩ := drop_cons D1.out
  have UT := Lib.hid hut; clear hut
  have LEFT := Lib.hid hd2; clear hd2
  have POSL : Hid (i + 1 + 1 ≤ ts.length) := Lib.hid hlt2
  have END := Lib.hid LEFT.out
  simp only [List.length_cons, List.length_nil] at hroom
  go_enter Tryz.func150, Tryz.ntmps150
  go_wp2_with fail
  rw [dplus]
  refine (value_6 (d := d + 1) PV.out RV.out).mono ?_
  rintro e w1 ⟨rfl, ⟨i', hi', hdr', hp1⟩, hb1, hk1⟩
  obtain rfl := pos_eq D.out hdr' hi'
  clear hdr' hi'
  have H1 := Lib.hid hp1; have B1 := Lib.hid hb1; have K1 := Lib.hid hk1; clear hp1 hb1 hk1
  go_wp2_with fail
  refine (kid_any H1.out x m (get_app hm _) (by rw [hk]; simp) ns.length).mono ?_
  rintro e w2 ⟨rfl, hp1, hb1, hk1⟩
  have B2 := Lib.hid (B1.out.trans hb1); have K2 := Lib.hid (K1.out.trans hk1); clear hb1 hk1 H1 B1 K1
  rw [show kidN (ns ++ [⟨ns.length, (4 : Nat), fr, tt, []⟩]) x ns.length = gro ns x (.cons 4 fr tt .nil .nil) from KT.out] at hp1
  obtain ⟨tv2, nv2, vs2, hp1⟩ := hp1
  obtain rfl := keeps_tv K2.out H.out hp1
  have H2 := Lib.hid hp1; clear hp1
  obtain ⟨g, cap, rfl, hg0, hg1, hcap⟩ := H2.out.toks.formS (by intro e; rw [e] at hlt; simp at hlt)
  have t2 : w2.cell? ⟨g, i * 3 + 2, none⟩ = some (.int .i64 tt) := H2.out.toks.at ht 2 _ rfl
  obtain ⟨c0, c1, c2, c3, c4, c5, cf, hpb⟩ := H2.out.cells
  have q1 : IntKind.i64.wrap (((i + 1 : Nat) : Int) - 1) = (i : Int) := by rw [IntWalk.i64_in _ (by omega)]; omega
  have q2 : IntKind.i64.wrap ((i : Int) + 1 - 1) = (i : Int) := by rw [IntWalk.i64_in _ (by omega)]; omega
  have q3 : (0 : Int) ≤ (i : Int) := by omega
  have q4 : (i : Int) < (ts.length : Int) := by omega
  go_wp2_with fail
  go_quiet (fail)
  clear t2 c0 c1 c2 c3 c4 c5 cf q1 q2 q3 q4
  have D2 := Lib.hid (dr_below w2 nq)
  have H3 := Lib.hid (H2.out.below D2.out)
  have B3 := Lib.hid (B2.out.trans (D2.out.mono (Nat.le_trans BASE.out B2.out.size)))
  have K3 := Lib.hid (K2.out.trans (keeps_below D2.out))
  have NB : Hid (w.heap.size ≤ (w2.drewN nq).heap.size) := Lib.hid B2.out.size
  clear B2 K2 D2 H2
  generalize w2.drewN nq = w3 at H3 B3 K3 NB ⊢
  go_wp2_with fail
  refine (next_yes H3.out UT.out).mono ?_
  rintro e w4 ⟨rfl, hb1⟩
  have TT := Lib.hid (take_tok H3.out hb1 ⟨4, fu, tu⟩)
  have NB4 : Hid (w.heap.size ≤ w4.heap.size) := Lib.hid (Nat.le_trans NB.out hb1.size)
  have H4 := Lib.hid (H3.out.below hb1)
  clear hb1
  obtain ⟨c0, c1, c2, c3, c4, c5, cf, hpb'⟩ := H4.out.cells
  go_wp2_with fail
  change Calls Tryz.prog 54 _ ((w4.setCell ⟨pb, 1, none⟩ (.int .i64 (((i + 1 : Nat) : Int) + 1))).alloc (tkO ⟨4, fu, tu⟩)) _
  generalize w4.heap.size = b at *
  generalize (w4.setCell ⟨pb, 1, none⟩ (.int .i64 (((i + 1 : Nat) : Int) + 1))).alloc (tkO ⟨4, fu, tu⟩) = w5 at TT ⊢
  clear c0 c1 c2 c3 c4 c5 cf
  have hp1 := TT.out.1
  have BX := Lib.hid TT.out.2.2.2
  have B5 := Lib.hid (B3.out.trans TT.out.2.1); have K5 := Lib.hid (K3.out.trans TT.out.2.2.1)
  obtain ⟨tv5, nv5, vs5, hp1⟩ := hp1
  obtain rfl := keeps_tv K5.out H.out hp1
  have H5 := Lib.hid hp1; clear hp1 H3 B3 K3 NB TT
  refine (next_no H5.out (by have := congrArg List.length END.out; rw [List.length_drop] at this; simp at this; omega) (by omega)).mono ?_
  rintro e w6 ⟨rfl, hb1⟩
  have BX6 := Lib.hid (show w6.heap[b]? = some (tkO ⟨4, fu, tu⟩) from (hb1.block b (Array.getElem?_eq_some_iff.1 BX.out).1).trans BX.out)
  have H6 := Lib.hid (H5.out.below hb1)
  have B6 := Lib.hid (B5.out.trans (hb1.mono (Nat.le_trans BASE.out B5.out.size)))
  have K6 := Lib.hid (K5.out.trans (keeps_below hb1))
  clear hb1 BX B5 K5
  obtain ⟨x0, x1, x2⟩ := tk_cells BX6.out
  have xf := (obj_cells BX6.out).2.1
  have RT := Lib.hid (re_tok H6.out BX6.out (fun e => by have := TVL.out _ e; have := NB4.out; omega) (Nat.le_trans BASE.out NB4.out) ⟨0, en, en⟩)
  have K7 : Hid (Keeps w (setAll w6 b 0 (Tk.cells ⟨0, en, en⟩))) := Lib.hid (keeps_new (keeps_new (keeps_new K6.out NB4.out _) NB4.out _) NB4.out _)
  go_wp2_with fail
  change Calls Tryz.prog 60 _ (setAll w6 b 0 (Tk.cells ⟨0, en, en⟩)) _
  generalize setAll w6 b 0 (Tk.cells ⟨0, en, en⟩) = w7 at RT K7 ⊢
  clear x0 x1 x2 xf
  obtain ⟨m2, hm2, hk2⟩ := GK.out (Fo.cons 4 fr tt Fo.nil Fo.nil)
  simp only [Fo.size] at hk2
  refine (lack_any ⟨_, _, _, RT.out.1⟩ (by rw [gro_len]; simp only [Fo.size]; omega) x m2 hm2 (by omega) en).mono ?_
  rintro e w8 ⟨rfl, hp1, hb1, hk1⟩
  rw [GA.out] at hp1
  have H8 := Lib.hid hp1; have B8 := Lib.hid (B6.out.trans (RT.out.2.2.trans hb1)); have K8 := Lib.hid (K7.out.trans hk1); clear hp1 hb1 hk1 hm2
  go_wp2_with fail
  refine (close_any x (((Fo.cons 4 fr tt Fo.nil Fo.nil)).app (lackF en .nil)) H8.out m hm hk (by simp only [Fo.size, Fo.size_app, lack_size]; omega) tu).mono ?_
  rintro e wz ⟨rfl, hp1, hb1, hk1⟩
  have HZ := Lib.hid hp1; have BZ := Lib.hid (B8.out.trans hb1); have KZ := Lib.hid (K8.out.trans hk1); clear hp1 hb1 hk1
  go_wp2_with fail
  go_end0
  exact ⟨rfl, ⟨_, POSL.out, LEFT.out, HZ.out⟩, BZ.out, KZ.out⟩

set_option maxRecDepth 100000 in
set_option maxHeartbeats 1000000 in
theorem pair_Byes {n : Nat} {base pb : Nat} {ts : List Tk} {en fr tt : Nat} {fu tu : Nat} {q : List Tk} {v : Tk} {ns : List Nd} {w : World} {x : Nat} {m : Nd} {d : Nat} (hV : ValC n) (hst : starts v (d + 1) = true) (hn : 4 * ((⟨4, fu, tu⟩ :: v :: q)).length ≤ n) (h : PL w base pb ts (⟨6, fr, tt⟩ :: (⟨4, fu, tu⟩ :: v :: q)) en ns) (hr : Rm 2997 ts (⟨6, fr, tt⟩ :: (⟨4, fu, tu⟩ :: v :: q)) en ns) (hm : ns[x]? = some m) (hk : m.kids = []) (hd12 : d ≤ 12) :
    Calls Tryz.prog 150 #[.pointer (some ⟨pb, 0, none⟩), .int .i64 x, .int .i64 d] w (VPost (.returned (.tuple #[])) base pb ts (valF n en (d + 1) (v :: q)).2 en (clN (gro ns x (((Fo.cons 4 fr tt Fo.nil Fo.nil)).app (valF n en (d + 1) (v :: q)).1)) x (max tu (((((Fo.cons 4 fr tt Fo.nil Fo.nil)).app (valF n en (d + 1) (v :: q)).1)).last 0) : Nat)) w) := by
  have V := Lib.hid hV; clear hV
  have NST := Lib.hid hst; clear hst
  obtain ⟨i, hi, hd, tv, nv, vs, h⟩ := h
  obtain ⟨ht, hd1, hlt⟩ := drop_cons hd
  have hroom := hr.2.1
  have h300 := hr.1
  rw [List.length_cons] at hroom
  have hx := (List.getElem?_eq_some_iff.1 hm).1
  have H := Lib.hid h; clear h
  have D := Lib.hid hd; have D1 := Lib.hid hd1; clear hd hd1
  have R := Lib.hid hr; clear hr
  have TVL : Hid (∀ g, tv.ownBlock = some g → g < w.heap.size) := Lib.hid (fun g hg => (H.out.toks.lt hg).2)
  have BASE : Hid (base ≤ w.heap.size) := Lib.hid (Nat.le_trans H.out.new (Nat.le_of_lt H.out.cells.2.2.2.2.2.2.2))
  have PV := Lib.hid (show PL w base pb ts _ en ns from ⟨i, hi, D.out, tv, nv, vs, H.out⟩)
  have RV := Lib.hid (R.out.mono (B' := 3000) (ns' := ns) (by omega))
  have KT := Lib.hid (kid_tree ns x hx 4 fr tt .nil)
  have GA := Lib.hid (gro_app ns x hx)
  have GK := Lib.hid (gro_kids hm hk)
  obtain ⟨hut, hd2, hlt2⟩ := drop_cons D1.out
  have UT := Lib.hid hut; clear hut
  have LEFT := Lib.hid hd2; clear hd2
  have POSL : Hid (i + 1 + 1 ≤ ts.length) := Lib.hid hlt2
  obtain ⟨hvt, -, hlt3⟩ := drop_cons LEFT.out
  have VT := Lib.hid hvt; clear hvt
  have SR : Hid (∃ lo, Srt en lo (v :: q)) := Lib.hid (by obtain ⟨-, -, lo, h⟩ := R.out; exact ⟨_, h.2.2.2.2⟩)
  have LQ : Hid (4 * (q.length + 1) ≤ n ∧ q.length + 1 ≤ 500) := Lib.hid (by simp only [List.length_cons] at hn hroom; omega)
  clear hn
  simp only [List.length_cons] at hroom
  go_enter Tryz.func150, Tryz.ntmps150
  go_wp2_with fail
  rw [dplus]
  refine (value_6 (d := d + 1) PV.out RV.out).mono ?_
  rintro e w1 ⟨rfl, ⟨i', hi', hdr', hp1⟩, hb1, hk1⟩
  obtain rfl := pos_eq D.out hdr' hi'
  clear hdr' hi'
  have H1 := Lib.hid hp1; have B1 := Lib.hid hb1; have K1 := Lib.hid hk1; clear hp1 hb1 hk1
  go_wp2_with fail
  refine (kid_any H1.out x m (get_app hm _) (by rw [hk]; simp) ns.length).mono ?_
  rintro e w2 ⟨rfl, hp1, hb1, hk1⟩
  have B2 := Lib.hid (B1.out.trans hb1); have K2 := Lib.hid (K1.out.trans hk1); clear hb1 hk1 H1 B1 K1
  rw [show kidN (ns ++ [⟨ns.length, (4 : Nat), fr, tt, []⟩]) x ns.length = gro ns x (.cons 4 fr tt .nil .nil) from KT.out] at hp1
  obtain ⟨tv2, nv2, vs2, hp1⟩ := hp1
  obtain rfl := keeps_tv K2.out H.out hp1
  have H2 := Lib.hid hp1; clear hp1
  obtain ⟨g, cap, rfl, hg0, hg1, hcap⟩ := H2.out.toks.formS (by intro e; rw [e] at hlt; simp at hlt)
  have t2 : w2.cell? ⟨g, i * 3 + 2, none⟩ = some (.int .i64 tt) := H2.out.toks.at ht 2 _ rfl
  obtain ⟨c0, c1, c2, c3, c4, c5, cf, hpb⟩ := H2.out.cells
  have q1 : IntKind.i64.wrap (((i + 1 : Nat) : Int) - 1) = (i : Int) := by rw [IntWalk.i64_in _ (by omega)]; omega
  have q2 : IntKind.i64.wrap ((i : Int) + 1 - 1) = (i : Int) := by rw [IntWalk.i64_in _ (by omega)]; omega
  have q3 : (0 : Int) ≤ (i : Int) := by omega
  have q4 : (i : Int) < (ts.length : Int) := by omega
  go_wp2_with fail
  go_quiet (fail)
  clear t2 c0 c1 c2 c3 c4 c5 cf q1 q2 q3 q4
  have D2 := Lib.hid (dr_below w2 nq)
  have H3 := Lib.hid (H2.out.below D2.out)
  have B3 := Lib.hid (B2.out.trans (D2.out.mono (Nat.le_trans BASE.out B2.out.size)))
  have K3 := Lib.hid (K2.out.trans (keeps_below D2.out))
  have NB : Hid (w.heap.size ≤ (w2.drewN nq).heap.size) := Lib.hid B2.out.size
  clear B2 K2 D2 H2
  generalize w2.drewN nq = w3 at H3 B3 K3 NB ⊢
  go_wp2_with fail
  refine (next_yes H3.out UT.out).mono ?_
  rintro e w4 ⟨rfl, hb1⟩
  have TT := Lib.hid (take_tok H3.out hb1 ⟨4, fu, tu⟩)
  have NB4 : Hid (w.heap.size ≤ w4.heap.size) := Lib.hid (Nat.le_trans NB.out hb1.size)
  have H4 := Lib.hid (H3.out.below hb1)
  clear hb1
  obtain ⟨c0, c1, c2, c3, c4, c5, cf, hpb'⟩ := H4.out.cells
  go_wp2_with fail
  change Calls Tryz.prog 54 _ ((w4.setCell ⟨pb, 1, none⟩ (.int .i64 (((i + 1 : Nat) : Int) + 1))).alloc (tkO ⟨4, fu, tu⟩)) _
  generalize w4.heap.size = b at *
  generalize (w4.setCell ⟨pb, 1, none⟩ (.int .i64 (((i + 1 : Nat) : Int) + 1))).alloc (tkO ⟨4, fu, tu⟩) = w5 at TT ⊢
  clear c0 c1 c2 c3 c4 c5 cf
  have hp1 := TT.out.1
  have BX := Lib.hid TT.out.2.2.2
  have B5 := Lib.hid (B3.out.trans TT.out.2.1); have K5 := Lib.hid (K3.out.trans TT.out.2.2.1)
  obtain ⟨tv5, nv5, vs5, hp1⟩ := hp1
  obtain rfl := keeps_tv K5.out H.out hp1
  have H5 := Lib.hid hp1; clear hp1 H3 B3 K3 NB TT
  refine (next_yes H5.out VT.out).mono ?_
  rintro e w6 ⟨rfl, hb1⟩
  have BX6 := Lib.hid (show w6.heap[b]? = some (tkO ⟨4, fu, tu⟩) from (hb1.block b (Array.getElem?_eq_some_iff.1 BX.out).1).trans BX.out)
  have H6 := Lib.hid (H5.out.below hb1)
  have B6 := Lib.hid (B5.out.trans (hb1.mono (Nat.le_trans BASE.out B5.out.size)))
  have K6 := Lib.hid (K5.out.trans (keeps_below hb1))
  clear hb1 BX B5 K5
  obtain ⟨x0, x1, x2⟩ := tk_cells BX6.out
  have xf := (obj_cells BX6.out).2.1
  have RT := Lib.hid (re_tok H6.out BX6.out (fun e => by have := TVL.out _ e; have := NB4.out; omega) (Nat.le_trans BASE.out NB4.out) v)
  have K7 : Hid (Keeps w (setAll w6 b 0 (Tk.cells v))) := Lib.hid (keeps_new (keeps_new (keeps_new K6.out NB4.out _) NB4.out _) NB4.out _)
  go_wp2_with (go_at_call 55; change Calls Tryz.prog 55 _ (setAll w6 b 0 (Tk.cells v)) _; rw [dplus]; refine (starts_any v (d + 1) _).mono ?_; rintro e w7 ⟨rfl, hb7⟩; rw [NST.out]; have B7 := Lib.hid hb7; clear hb7; obtain ⟨y0, y1, y2⟩ := tk_cells ((B7.out.block b (Array.getElem?_eq_some_iff.1 RT.out.2.1).1).trans RT.out.2.1))
  have H7 := Lib.hid (RT.out.1.below B7.out)
  clear x0 x1 x2 xf
  obtain ⟨m2, hm2, hk2⟩ := GK.out (Fo.cons 4 fr tt Fo.nil Fo.nil)
  simp only [Fo.size] at hk2
  have GL := Lib.hid (gro_len ns x (Fo.cons 4 fr tt Fo.nil Fo.nil))
  rw [dplus]
  refine (V.out base pb ts en v q (gro ns x (Fo.cons 4 fr tt Fo.nil Fo.nil)) w7 (d + 1) ⟨_, POSL.out, LEFT.out, _, _, _, H7.out⟩ ⟨h300, by rw [GL.out]; simp only [Fo.size]; have := LQ.out; simp only [List.length_cons] at *; omega, SR.out⟩ (by have := LQ.out; omega) NST.out (by omega)).mono ?_
  rintro e w8 ⟨rfl, ⟨j, hj, hdj, hp1⟩, hb1, hk1⟩
  have H8 := Lib.hid hp1; have B8 := Lib.hid (B6.out.trans (RT.out.2.2.trans ((B7.out.mono (Nat.le_trans BASE.out (Nat.le_trans B6.out.size RT.out.2.2.size))).trans hb1))); have K8 := Lib.hid (K7.out.trans ((keeps_below B7.out).trans hk1)); have DJ := Lib.hid hdj; clear hp1 hb1 hk1 hdj
  have KT2 : Hid (kidN (gro ns x (Fo.cons 4 fr tt Fo.nil Fo.nil) ++ (valF n en (d + 1) (v :: q)).1.flat nid (gro ns x (Fo.cons 4 fr tt Fo.nil Fo.nil)).length) x (gro ns x (Fo.cons 4 fr tt Fo.nil Fo.nil)).length = gro ns x (((Fo.cons 4 fr tt Fo.nil Fo.nil)).app (valF n en (d + 1) (v :: q)).1)) := Lib.hid (by
    obtain ⟨kd', fr', tt', k', e'⟩ := val_one n en (d + 1) v q
    rw [e', ← GA.out (Fo.cons 4 fr tt Fo.nil Fo.nil) (Fo.cons kd' fr' tt' k' Fo.nil)]
    exact kid_tree (gro ns x (Fo.cons 4 fr tt Fo.nil Fo.nil)) x (by rw [gro_len]; omega) kd' fr' tt' k')
  have SZ : Hid ((valF n en (d + 1) (v :: q)).1.size ≤ 4000) := Lib.hid (by
    obtain ⟨lo, hs⟩ := SR.out
    have := ((all_ok n).1 en (d + 1) lo v q hs).2
    have := LQ.out
    omega)
  generalize (valF n en (d + 1) (v :: q)).1 = VF at *
  go_wp2_with fail
  refine (kid_any H8.out x m2 (get_app hm2 _) (by omega) (gro ns x (Fo.cons 4 fr tt Fo.nil Fo.nil)).length).mono ?_
  rintro e w9 ⟨rfl, hp1, hb1, hk1⟩
  rw [KT2.out] at hp1
  have H9 := Lib.hid hp1; have B9 := Lib.hid (B8.out.trans hb1); have K9 := Lib.hid (K8.out.trans hk1); clear hp1 hb1 hk1 hm2 H8 B8 K8
  go_wp2_with fail
  refine (close_any x (((Fo.cons 4 fr tt Fo.nil Fo.nil)).app VF) H9.out m hm hk (by have := SZ.out; simp only [Fo.size, Fo.size_app]; omega) tu).mono ?_
  rintro e wz ⟨rfl, hp1, hb1, hk1⟩
  have HZ := Lib.hid hp1; have BZ := Lib.hid (B9.out.trans hb1); have KZ := Lib.hid (K9.out.trans hk1); clear hp1 hb1 hk1
  go_wp2_with fail
  go_end0
  exact ⟨rfl, ⟨j, hj, DJ.out, HZ.out⟩, BZ.out, KZ.out⟩

set_option maxRecDepth 100000 in
set_option maxHeartbeats 1000000 in
theorem pair_Bno {base pb : Nat} {ts : List Tk} {en fr tt : Nat} {fu tu : Nat} {q : List Tk} {v : Tk} {ns : List Nd} {w : World} {x : Nat} {m : Nd} {d : Nat} (hst : starts v (d + 1) = false) (h : PL w base pb ts (⟨6, fr, tt⟩ :: (⟨4, fu, tu⟩ :: v :: q)) en ns) (hr : Rm 2997 ts (⟨6, fr, tt⟩ :: (⟨4, fu, tu⟩ :: v :: q)) en ns) (hm : ns[x]? = some m) (hk : m.kids = []) (hd12 : d ≤ 12) :
    Calls Tryz.prog 150 #[.pointer (some ⟨pb, 0, none⟩), .int .i64 x, .int .i64 d] w (VPost (.returned (.tuple #[])) base pb ts (v :: q) en (clN (gro ns x (((Fo.cons 4 fr tt Fo.nil Fo.nil)).app (lackF v.fr .nil))) x (max tu (((((Fo.cons 4 fr tt Fo.nil Fo.nil)).app (lackF v.fr .nil))).last 0) : Nat)) w) := by
  have NST := Lib.hid hst; clear hst
  obtain ⟨i, hi, hd, tv, nv, vs, h⟩ := h
  obtain ⟨ht, hd1, hlt⟩ := drop_cons hd
  have hroom := hr.2.1
  have h300 := hr.1
  rw [List.length_cons] at hroom
  have hx := (List.getElem?_eq_some_iff.1 hm).1
  have H := Lib.hid h; clear h
  have D := Lib.hid hd; have D1 := Lib.hid hd1; clear hd hd1
  have R := Lib.hid hr; clear hr
  have TVL : Hid (∀ g, tv.ownBlock = some g → g < w.heap.size) := Lib.hid (fun g hg => (H.out.toks.lt hg).2)
  have BASE : Hid (base ≤ w.heap.size) := Lib.hid (Nat.le_trans H.out.new (Nat.le_of_lt H.out.cells.2.2.2.2.2.2.2))
  have PV := Lib.hid (show PL w base pb ts _ en ns from ⟨i, hi, D.out, tv, nv, vs, H.out⟩)
  have RV := Lib.hid (R.out.mono (B' := 3000) (ns' := ns) (by omega))
  have KT := Lib.hid (kid_tree ns x hx 4 fr tt .nil)
  have GA := Lib.hid (gro_app ns x hx)
  have GK := Lib.hid (gro_kids hm hk)
  obtain ⟨hut, hd2, hlt2⟩ := drop_cons D1.out
  have UT := Lib.hid hut; clear hut
  have LEFT := Lib.hid hd2; clear hd2
  have POSL : Hid (i + 1 + 1 ≤ ts.length) := Lib.hid hlt2
  obtain ⟨hvt, -, hlt3⟩ := drop_cons LEFT.out
  have VT := Lib.hid hvt; clear hvt
  simp only [List.length_cons] at hroom
  go_enter Tryz.func150, Tryz.ntmps150
  go_wp2_with fail
  rw [dplus]
  refine (value_6 (d := d + 1) PV.out RV.out).mono ?_
  rintro e w1 ⟨rfl, ⟨i', hi', hdr', hp1⟩, hb1, hk1⟩
  obtain rfl := pos_eq D.out hdr' hi'
  clear hdr' hi'
  have H1 := Lib.hid hp1; have B1 := Lib.hid hb1; have K1 := Lib.hid hk1; clear hp1 hb1 hk1
  go_wp2_with fail
  refine (kid_any H1.out x m (get_app hm _) (by rw [hk]; simp) ns.length).mono ?_
  rintro e w2 ⟨rfl, hp1, hb1, hk1⟩
  have B2 := Lib.hid (B1.out.trans hb1); have K2 := Lib.hid (K1.out.trans hk1); clear hb1 hk1 H1 B1 K1
  rw [show kidN (ns ++ [⟨ns.length, (4 : Nat), fr, tt, []⟩]) x ns.length = gro ns x (.cons 4 fr tt .nil .nil) from KT.out] at hp1
  obtain ⟨tv2, nv2, vs2, hp1⟩ := hp1
  obtain rfl := keeps_tv K2.out H.out hp1
  have H2 := Lib.hid hp1; clear hp1
  obtain ⟨g, cap, rfl, hg0, hg1, hcap⟩ := H2.out.toks.formS (by intro e; rw [e] at hlt; simp at hlt)
  have t2 : w2.cell? ⟨g, i * 3 + 2, none⟩ = some (.int .i64 tt) := H2.out.toks.at ht 2 _ rfl
  obtain ⟨c0, c1, c2, c3, c4, c5, cf, hpb⟩ := H2.out.cells
  have q1 : IntKind.i64.wrap (((i + 1 : Nat) : Int) - 1) = (i : Int) := by rw [IntWalk.i64_in _ (by omega)]; omega
  have q2 : IntKind.i64.wrap ((i : Int) + 1 - 1) = (i : Int) := by rw [IntWalk.i64_in _ (by omega)]; omega
  have q3 : (0 : Int) ≤ (i : Int) := by omega
  have q4 : (i : Int) < (ts.length : Int) := by omega
  go_wp2_with fail
  go_quiet (fail)
  clear t2 c0 c1 c2 c3 c4 c5 cf q1 q2 q3 q4
  have D2 := Lib.hid (dr_below w2 nq)
  have H3 := Lib.hid (H2.out.below D2.out)
  have B3 := Lib.hid (B2.out.trans (D2.out.mono (Nat.le_trans BASE.out B2.out.size)))
  have K3 := Lib.hid (K2.out.trans (keeps_below D2.out))
  have NB : Hid (w.heap.size ≤ (w2.drewN nq).heap.size) := Lib.hid B2.out.size
  clear B2 K2 D2 H2
  generalize w2.drewN nq = w3 at H3 B3 K3 NB ⊢
  go_wp2_with fail
  refine (next_yes H3.out UT.out).mono ?_
  rintro e w4 ⟨rfl, hb1⟩
  have TT := Lib.hid (take_tok H3.out hb1 ⟨4, fu, tu⟩)
  have NB4 : Hid (w.heap.size ≤ w4.heap.size) := Lib.hid (Nat.le_trans NB.out hb1.size)
  have H4 := Lib.hid (H3.out.below hb1)
  clear hb1
  obtain ⟨c0, c1, c2, c3, c4, c5, cf, hpb'⟩ := H4.out.cells
  go_wp2_with fail
  change Calls Tryz.prog 54 _ ((w4.setCell ⟨pb, 1, none⟩ (.int .i64 (((i + 1 : Nat) : Int) + 1))).alloc (tkO ⟨4, fu, tu⟩)) _
  generalize w4.heap.size = b at *
  generalize (w4.setCell ⟨pb, 1, none⟩ (.int .i64 (((i + 1 : Nat) : Int) + 1))).alloc (tkO ⟨4, fu, tu⟩) = w5 at TT ⊢
  clear c0 c1 c2 c3 c4 c5 cf
  have hp1 := TT.out.1
  have BX := Lib.hid TT.out.2.2.2
  have B5 := Lib.hid (B3.out.trans TT.out.2.1); have K5 := Lib.hid (K3.out.trans TT.out.2.2.1)
  obtain ⟨tv5, nv5, vs5, hp1⟩ := hp1
  obtain rfl := keeps_tv K5.out H.out hp1
  have H5 := Lib.hid hp1; clear hp1 H3 B3 K3 NB TT
  refine (next_yes H5.out VT.out).mono ?_
  rintro e w6 ⟨rfl, hb1⟩
  have BX6 := Lib.hid (show w6.heap[b]? = some (tkO ⟨4, fu, tu⟩) from (hb1.block b (Array.getElem?_eq_some_iff.1 BX.out).1).trans BX.out)
  have H6 := Lib.hid (H5.out.below hb1)
  have B6 := Lib.hid (B5.out.trans (hb1.mono (Nat.le_trans BASE.out B5.out.size)))
  have K6 := Lib.hid (K5.out.trans (keeps_below hb1))
  clear hb1 BX B5 K5
  obtain ⟨x0, x1, x2⟩ := tk_cells BX6.out
  have xf := (obj_cells BX6.out).2.1
  have RT := Lib.hid (re_tok H6.out BX6.out (fun e => by have := TVL.out _ e; have := NB4.out; omega) (Nat.le_trans BASE.out NB4.out) v)
  have K7 : Hid (Keeps w (setAll w6 b 0 (Tk.cells v))) := Lib.hid (keeps_new (keeps_new (keeps_new K6.out NB4.out _) NB4.out _) NB4.out _)
  go_wp2_with (go_at_call 55; change Calls Tryz.prog 55 _ (setAll w6 b 0 (Tk.cells v)) _; rw [dplus]; refine (starts_any v (d + 1) _).mono ?_; rintro e w7 ⟨rfl, hb7⟩; rw [NST.out]; have B7 := Lib.hid hb7; clear hb7; obtain ⟨y0, y1, y2⟩ := tk_cells ((B7.out.block b (Array.getElem?_eq_some_iff.1 RT.out.2.1).1).trans RT.out.2.1))
  have H7 := Lib.hid (RT.out.1.below B7.out)
  clear x0 x1 x2 xf
  obtain ⟨m2, hm2, hk2⟩ := GK.out (Fo.cons 4 fr tt Fo.nil Fo.nil)
  simp only [Fo.size] at hk2
  refine (lack_any ⟨_, _, _, H7.out⟩ (by rw [gro_len]; simp only [Fo.size]; omega) x m2 hm2 (by omega) v.fr).mono ?_
  rintro e w8 ⟨rfl, hp1, hb1, hk1⟩
  rw [GA.out] at hp1
  have H8 := Lib.hid hp1; have B8 := Lib.hid (B6.out.trans (RT.out.2.2.trans ((B7.out.mono (Nat.le_trans BASE.out (Nat.le_trans B6.out.size RT.out.2.2.size))).trans hb1))); have K8 := Lib.hid (K7.out.trans ((keeps_below B7.out).trans hk1)); clear hp1 hb1 hk1 hm2
  go_wp2_with fail
  refine (close_any x (((Fo.cons 4 fr tt Fo.nil Fo.nil)).app (lackF v.fr .nil)) H8.out m hm hk (by simp only [Fo.size, Fo.size_app, lack_size]; omega) tu).mono ?_
  rintro e wz ⟨rfl, hp1, hb1, hk1⟩
  have HZ := Lib.hid hp1; have BZ := Lib.hid (B8.out.trans hb1); have KZ := Lib.hid (K8.out.trans hk1); clear hp1 hb1 hk1
  go_wp2_with fail
  go_end0
  exact ⟨rfl, ⟨_, POSL.out, LEFT.out, HZ.out⟩, BZ.out, KZ.out⟩

set_option maxRecDepth 100000 in
set_option maxHeartbeats 1000000 in
theorem pair_Cyes {n : Nat} {base pb : Nat} {ts : List Tk} {en fr tt : Nat} {u : Tk} {q : List Tk} {ns : List Nd} {w : World} {x : Nat} {m : Nd} {d : Nat} (h4 : u.k ≠ 4) (hV : ValC n) (hst : starts u (d + 1) = true) (hn : 4 * ((u :: q)).length ≤ n) (h : PL w base pb ts (⟨6, fr, tt⟩ :: (u :: q)) en ns) (hr : Rm 2997 ts (⟨6, fr, tt⟩ :: (u :: q)) en ns) (hm : ns[x]? = some m) (hk : m.kids = []) (hd12 : d ≤ 12) :
    Calls Tryz.prog 150 #[.pointer (some ⟨pb, 0, none⟩), .int .i64 x, .int .i64 d] w (VPost (.returned (.tuple #[])) base pb ts (valF n en (d + 1) (u :: q)).2 en (clN (gro ns x (((Fo.app (Fo.cons 4 fr tt Fo.nil Fo.nil) (lackF u.fr .nil))).app (valF n en (d + 1) (u :: q)).1)) x (max tt (((((Fo.app (Fo.cons 4 fr tt Fo.nil Fo.nil) (lackF u.fr .nil))).app (valF n en (d + 1) (u :: q)).1)).last 0) : Nat)) w) := by
  have V := Lib.hid hV; clear hV
  have NST := Lib.hid hst; clear hst
  have q4 : ((u.k : Int) == 4) = false := by simp; omega
  obtain ⟨i, hi, hd, tv, nv, vs, h⟩ := h
  obtain ⟨ht, hd1, hlt⟩ := drop_cons hd
  have hroom := hr.2.1
  have h300 := hr.1
  rw [List.length_cons] at hroom
  have hx := (List.getElem?_eq_some_iff.1 hm).1
  have H := Lib.hid h; clear h
  have D := Lib.hid hd; have D1 := Lib.hid hd1; clear hd hd1
  have R := Lib.hid hr; clear hr
  have TVL : Hid (∀ g, tv.ownBlock = some g → g < w.heap.size) := Lib.hid (fun g hg => (H.out.toks.lt hg).2)
  have BASE : Hid (base ≤ w.heap.size) := Lib.hid (Nat.le_trans H.out.new (Nat.le_of_lt H.out.cells.2.2.2.2.2.2.2))
  have PV := Lib.hid (show PL w base pb ts _ en ns from ⟨i, hi, D.out, tv, nv, vs, H.out⟩)
  have RV := Lib.hid (R.out.mono (B' := 3000) (ns' := ns) (by omega))
  have KT := Lib.hid (kid_tree ns x hx 4 fr tt .nil)
  have GA := Lib.hid (gro_app ns x hx)
  have GK := Lib.hid (gro_kids hm hk)
  obtain ⟨hut, -, hlt2⟩ := drop_cons D1.out
  have UT := Lib.hid hut; clear hut
  have LEFT := Lib.hid D1.out
  have POSL : Hid (i + 1 ≤ ts.length) := Lib.hid hlt
  have VT := Lib.hid UT.out
  have SR : Hid (∃ lo, Srt en lo (u :: q)) := Lib.hid (by obtain ⟨-, -, lo, h⟩ := R.out; exact ⟨_, h.2.2⟩)
  have LQ : Hid (4 * (q.length + 1) ≤ n ∧ q.length + 1 ≤ 500) := Lib.hid (by simp only [List.length_cons] at hn hroom; omega)
  clear hn
  simp only [List.length_cons] at hroom
  go_enter Tryz.func150, Tryz.ntmps150
  go_wp2_with fail
  rw [dplus]
  refine (value_6 (d := d + 1) PV.out RV.out).mono ?_
  rintro e w1 ⟨rfl, ⟨i', hi', hdr', hp1⟩, hb1, hk1⟩
  obtain rfl := pos_eq D.out hdr' hi'
  clear hdr' hi'
  have H1 := Lib.hid hp1; have B1 := Lib.hid hb1; have K1 := Lib.hid hk1; clear hp1 hb1 hk1
  go_wp2_with fail
  refine (kid_any H1.out x m (get_app hm _) (by rw [hk]; simp) ns.length).mono ?_
  rintro e w2 ⟨rfl, hp1, hb1, hk1⟩
  have B2 := Lib.hid (B1.out.trans hb1); have K2 := Lib.hid (K1.out.trans hk1); clear hb1 hk1 H1 B1 K1
  rw [show kidN (ns ++ [⟨ns.length, (4 : Nat), fr, tt, []⟩]) x ns.length = gro ns x (.cons 4 fr tt .nil .nil) from KT.out] at hp1
  obtain ⟨tv2, nv2, vs2, hp1⟩ := hp1
  obtain rfl := keeps_tv K2.out H.out hp1
  have H2 := Lib.hid hp1; clear hp1
  obtain ⟨g, cap, rfl, hg0, hg1, hcap⟩ := H2.out.toks.formS (by intro e; rw [e] at hlt; simp at hlt)
  have t2 : w2.cell? ⟨g, i * 3 + 2, none⟩ = some (.int .i64 tt) := H2.out.toks.at ht 2 _ rfl
  obtain ⟨c0, c1, c2, c3, c4, c5, cf, hpb⟩ := H2.out.cells
  have q1 : IntKind.i64.wrap (((i + 1 : Nat) : Int) - 1) = (i : Int) := by rw [IntWalk.i64_in _ (by omega)]; omega
  have q2 : IntKind.i64.wrap ((i : Int) + 1 - 1) = (i : Int) := by rw [IntWalk.i64_in _ (by omega)]; omega
  have q3 : (0 : Int) ≤ (i : Int) := by omega
  have q4 : (i : Int) < (ts.length : Int) := by omega
  go_wp2_with fail
  go_quiet (fail)
  clear t2 c0 c1 c2 c3 c4 c5 cf q1 q2 q3 q4
  have D2 := Lib.hid (dr_below w2 nq)
  have H3 := Lib.hid (H2.out.below D2.out)
  have B3 := Lib.hid (B2.out.trans (D2.out.mono (Nat.le_trans BASE.out B2.out.size)))
  have K3 := Lib.hid (K2.out.trans (keeps_below D2.out))
  have NB : Hid (w.heap.size ≤ (w2.drewN nq).heap.size) := Lib.hid B2.out.size
  clear B2 K2 D2 H2
  generalize w2.drewN nq = w3 at H3 B3 K3 NB ⊢
  go_wp2_with fail
  refine (next_yes H3.out UT.out).mono ?_
  rintro e w4 ⟨rfl, hb1⟩
  have TT := Lib.hid (see_tok H3.out hb1 u)
  have NB4 : Hid (w.heap.size ≤ w4.heap.size) := Lib.hid (Nat.le_trans NB.out hb1.size)
  clear hb1
  go_wp2_with fail
  change Calls Tryz.prog 60 _ (w4.alloc (tkO u)) _
  generalize w4.heap.size = b at *
  generalize w4.alloc (tkO u) = X at TT ⊢
  obtain ⟨m1, hm1, hk1⟩ := GK.out (Fo.cons 4 fr tt Fo.nil Fo.nil)
  simp only [Fo.size] at hk1
  refine (lack_any TT.out.1 (by rw [gro_len]; simp only [Fo.size]; omega) x m1 hm1 (by omega) u.fr).mono ?_
  rintro e w5 ⟨rfl, hp1, hb1, hk1⟩
  rw [GA.out] at hp1
  have BX := Lib.hid (hk1.1 _ _ TT.out.2.2.2)
  have B5 := Lib.hid (B3.out.trans (TT.out.2.1.trans hb1)); have K5 := Lib.hid (K3.out.trans (TT.out.2.2.1.trans hk1)); clear hb1 hk1 hm1
  go_wp2_with fail
  obtain ⟨tv5, nv5, vs5, hp1⟩ := hp1
  obtain rfl := keeps_tv K5.out H.out hp1
  have H5 := Lib.hid hp1; clear hp1 H3 B3 K3 NB TT
  refine (next_yes H5.out VT.out).mono ?_
  rintro e w6 ⟨rfl, hb1⟩
  have BX6 := Lib.hid (show w6.heap[b]? = some (tkO u) from (hb1.block b (Array.getElem?_eq_some_iff.1 BX.out).1).trans BX.out)
  have H6 := Lib.hid (H5.out.below hb1)
  have B6 := Lib.hid (B5.out.trans (hb1.mono (Nat.le_trans BASE.out B5.out.size)))
  have K6 := Lib.hid (K5.out.trans (keeps_below hb1))
  clear hb1 BX B5 K5
  obtain ⟨x0, x1, x2⟩ := tk_cells BX6.out
  have xf := (obj_cells BX6.out).2.1
  have RT := Lib.hid (re_tok H6.out BX6.out (fun e => by have := TVL.out _ e; have := NB4.out; omega) (Nat.le_trans BASE.out NB4.out) u)
  have K7 : Hid (Keeps w (setAll w6 b 0 (Tk.cells u))) := Lib.hid (keeps_new (keeps_new (keeps_new K6.out NB4.out _) NB4.out _) NB4.out _)
  go_wp2_with (go_at_call 55; change Calls Tryz.prog 55 _ (setAll w6 b 0 (Tk.cells u)) _; rw [dplus]; refine (starts_any u (d + 1) _).mono ?_; rintro e w7 ⟨rfl, hb7⟩; rw [NST.out]; have B7 := Lib.hid hb7; clear hb7; obtain ⟨y0, y1, y2⟩ := tk_cells ((B7.out.block b (Array.getElem?_eq_some_iff.1 RT.out.2.1).1).trans RT.out.2.1))
  have H7 := Lib.hid (RT.out.1.below B7.out)
  clear x0 x1 x2 xf
  obtain ⟨m2, hm2, hk2⟩ := GK.out (Fo.app (Fo.cons 4 fr tt Fo.nil Fo.nil) (lackF u.fr .nil))
  simp only [Fo.size, Fo.size_app, lack_size] at hk2
  have GL := Lib.hid (gro_len ns x (Fo.app (Fo.cons 4 fr tt Fo.nil Fo.nil) (lackF u.fr .nil)))
  rw [dplus]
  refine (V.out base pb ts en u q (gro ns x (Fo.app (Fo.cons 4 fr tt Fo.nil Fo.nil) (lackF u.fr .nil))) w7 (d + 1) ⟨_, POSL.out, LEFT.out, _, _, _, H7.out⟩ ⟨h300, by rw [GL.out]; simp only [Fo.size, Fo.size_app, lack_size]; have := LQ.out; simp only [List.length_cons] at *; omega, SR.out⟩ (by have := LQ.out; omega) NST.out (by omega)).mono ?_
  rintro e w8 ⟨rfl, ⟨j, hj, hdj, hp1⟩, hb1, hk1⟩
  have H8 := Lib.hid hp1; have B8 := Lib.hid (B6.out.trans (RT.out.2.2.trans ((B7.out.mono (Nat.le_trans BASE.out (Nat.le_trans B6.out.size RT.out.2.2.size))).trans hb1))); have K8 := Lib.hid (K7.out.trans ((keeps_below B7.out).trans hk1)); have DJ := Lib.hid hdj; clear hp1 hb1 hk1 hdj
  have KT2 : Hid (kidN (gro ns x (Fo.app (Fo.cons 4 fr tt Fo.nil Fo.nil) (lackF u.fr .nil)) ++ (valF n en (d + 1) (u :: q)).1.flat nid (gro ns x (Fo.app (Fo.cons 4 fr tt Fo.nil Fo.nil) (lackF u.fr .nil))).length) x (gro ns x (Fo.app (Fo.cons 4 fr tt Fo.nil Fo.nil) (lackF u.fr .nil))).length = gro ns x (((Fo.app (Fo.cons 4 fr tt Fo.nil Fo.nil) (lackF u.fr .nil))).app (valF n en (d + 1) (u :: q)).1)) := Lib.hid (by
    obtain ⟨kd', fr', tt', k', e'⟩ := val_one n en (d + 1) u q
    rw [e', ← GA.out (Fo.app (Fo.cons 4 fr tt Fo.nil Fo.nil) (lackF u.fr .nil)) (Fo.cons kd' fr' tt' k' Fo.nil)]
    exact kid_tree (gro ns x (Fo.app (Fo.cons 4 fr tt Fo.nil Fo.nil) (lackF u.fr .nil))) x (by rw [gro_len]; omega) kd' fr' tt' k')
  have SZ : Hid ((valF n en (d + 1) (u :: q)).1.size ≤ 4000) := Lib.hid (by
    obtain ⟨lo, hs⟩ := SR.out
    have := ((all_ok n).1 en (d + 1) lo u q hs).2
    have := LQ.out
    omega)
  generalize (valF n en (d + 1) (u :: q)).1 = VF at *
  go_wp2_with fail
  refine (kid_any H8.out x m2 (get_app hm2 _) (by omega) (gro ns x (Fo.app (Fo.cons 4 fr tt Fo.nil Fo.nil) (lackF u.fr .nil))).length).mono ?_
  rintro e w9 ⟨rfl, hp1, hb1, hk1⟩
  rw [KT2.out] at hp1
  have H9 := Lib.hid hp1; have B9 := Lib.hid (B8.out.trans hb1); have K9 := Lib.hid (K8.out.trans hk1); clear hp1 hb1 hk1 hm2 H8 B8 K8
  go_wp2_with fail
  refine (close_any x (((Fo.app (Fo.cons 4 fr tt Fo.nil Fo.nil) (lackF u.fr .nil))).app VF) H9.out m hm hk (by have := SZ.out; simp only [Fo.size, Fo.size_app, lack_size]; omega) tt).mono ?_
  rintro e wz ⟨rfl, hp1, hb1, hk1⟩
  have HZ := Lib.hid hp1; have BZ := Lib.hid (B9.out.trans hb1); have KZ := Lib.hid (K9.out.trans hk1); clear hp1 hb1 hk1
  go_wp2_with fail
  go_end0
  exact ⟨rfl, ⟨j, hj, DJ.out, HZ.out⟩, BZ.out, KZ.out⟩

set_option maxRecDepth 100000 in
set_option maxHeartbeats 1000000 in
theorem pair_Cno {base pb : Nat} {ts : List Tk} {en fr tt : Nat} {u : Tk} {q : List Tk} {ns : List Nd} {w : World} {x : Nat} {m : Nd} {d : Nat} (h4 : u.k ≠ 4) (hst : starts u (d + 1) = false) (h : PL w base pb ts (⟨6, fr, tt⟩ :: (u :: q)) en ns) (hr : Rm 2997 ts (⟨6, fr, tt⟩ :: (u :: q)) en ns) (hm : ns[x]? = some m) (hk : m.kids = []) (hd12 : d ≤ 12) :
    Calls Tryz.prog 150 #[.pointer (some ⟨pb, 0, none⟩), .int .i64 x, .int .i64 d] w (VPost (.returned (.tuple #[])) base pb ts (u :: q) en (clN (gro ns x (((Fo.app (Fo.cons 4 fr tt Fo.nil Fo.nil) (lackF u.fr .nil))).app (lackF u.fr .nil))) x (max tt (((((Fo.app (Fo.cons 4 fr tt Fo.nil Fo.nil) (lackF u.fr .nil))).app (lackF u.fr .nil))).last 0) : Nat)) w) := by
  have NST := Lib.hid hst; clear hst
  have q4 : ((u.k : Int) == 4) = false := by simp; omega
  obtain ⟨i, hi, hd, tv, nv, vs, h⟩ := h
  obtain ⟨ht, hd1, hlt⟩ := drop_cons hd
  have hroom := hr.2.1
  have h300 := hr.1
  rw [List.length_cons] at hroom
  have hx := (List.getElem?_eq_some_iff.1 hm).1
  have H := Lib.hid h; clear h
  have D := Lib.hid hd; have D1 := Lib.hid hd1; clear hd hd1
  have R := Lib.hid hr; clear hr
  have TVL : Hid (∀ g, tv.ownBlock = some g → g < w.heap.size) := Lib.hid (fun g hg => (H.out.toks.lt hg).2)
  have BASE : Hid (base ≤ w.heap.size) := Lib.hid (Nat.le_trans H.out.new (Nat.le_of_lt H.out.cells.2.2.2.2.2.2.2))
  have PV := Lib.hid (show PL w base pb ts _ en ns from ⟨i, hi, D.out, tv, nv, vs, H.out⟩)
  have RV := Lib.hid (R.out.mono (B' := 3000) (ns' := ns) (by omega))
  have KT := Lib.hid (kid_tree ns x hx 4 fr tt .nil)
  have GA := Lib.hid (gro_app ns x hx)
  have GK := Lib.hid (gro_kids hm hk)
  obtain ⟨hut, -, hlt2⟩ := drop_cons D1.out
  have UT := Lib.hid hut; clear hut
  have LEFT := Lib.hid D1.out
  have POSL : Hid (i + 1 ≤ ts.length) := Lib.hid hlt
  have VT := Lib.hid UT.out
  simp only [List.length_cons] at hroom
  go_enter Tryz.func150, Tryz.ntmps150
  go_wp2_with fail
  rw [dplus]
  refine (value_6 (d := d + 1) PV.out RV.out).mono ?_
  rintro e w1 ⟨rfl, ⟨i', hi', hdr', hp1⟩, hb1, hk1⟩
  obtain rfl := pos_eq D.out hdr' hi'
  clear hdr' hi'
  have H1 := Lib.hid hp1; have B1 := Lib.hid hb1; have K1 := Lib.hid hk1; clear hp1 hb1 hk1
  go_wp2_with fail
  refine (kid_any H1.out x m (get_app hm _) (by rw [hk]; simp) ns.length).mono ?_
  rintro e w2 ⟨rfl, hp1, hb1, hk1⟩
  have B2 := Lib.hid (B1.out.trans hb1); have K2 := Lib.hid (K1.out.trans hk1); clear hb1 hk1 H1 B1 K1
  rw [show kidN (ns ++ [⟨ns.length, (4 : Nat), fr, tt, []⟩]) x ns.length = gro ns x (.cons 4 fr tt .nil .nil) from KT.out] at hp1
  obtain ⟨tv2, nv2, vs2, hp1⟩ := hp1
  obtain rfl := keeps_tv K2.out H.out hp1
  have H2 := Lib.hid hp1; clear hp1
  obtain ⟨g, cap, rfl, hg0, hg1, hcap⟩ := H2.out.toks.formS (by intro e; rw [e] at hlt; simp at hlt)
  have t2 : w2.cell? ⟨g, i * 3 + 2, none⟩ = some (.int .i64 tt) := H2.out.toks.at ht 2 _ rfl
  obtain ⟨c0, c1, c2, c3, c4, c5, cf, hpb⟩ := H2.out.cells
  have q1 : IntKind.i64.wrap (((i + 1 : Nat) : Int) - 1) = (i : Int) := by rw [IntWalk.i64_in _ (by omega)]; omega
  have q2 : IntKind.i64.wrap ((i : Int) + 1 - 1) = (i : Int) := by rw [IntWalk.i64_in _ (by omega)]; omega
  have q3 : (0 : Int) ≤ (i : Int) := by omega
  have q4 : (i : Int) < (ts.length : Int) := by omega
  go_wp2_with fail
  go_quiet (fail)
  clear t2 c0 c1 c2 c3 c4 c5 cf q1 q2 q3 q4
  have D2 := Lib.hid (dr_below w2 nq)
  have H3 := Lib.hid (H2.out.below D2.out)
  have B3 := Lib.hid (B2.out.trans (D2.out.mono (Nat.le_trans BASE.out B2.out.size)))
  have K3 := Lib.hid (K2.out.trans (keeps_below D2.out))
  have NB : Hid (w.heap.size ≤ (w2.drewN nq).heap.size) := Lib.hid B2.out.size
  clear B2 K2 D2 H2
  generalize w2.drewN nq = w3 at H3 B3 K3 NB ⊢
  go_wp2_with fail
  refine (next_yes H3.out UT.out).mono ?_
  rintro e w4 ⟨rfl, hb1⟩
  have TT := Lib.hid (see_tok H3.out hb1 u)
  have NB4 : Hid (w.heap.size ≤ w4.heap.size) := Lib.hid (Nat.le_trans NB.out hb1.size)
  clear hb1
  go_wp2_with fail
  change Calls Tryz.prog 60 _ (w4.alloc (tkO u)) _
  generalize w4.heap.size = b at *
  generalize w4.alloc (tkO u) = X at TT ⊢
  obtain ⟨m1, hm1, hk1⟩ := GK.out (Fo.cons 4 fr tt Fo.nil Fo.nil)
  simp only [Fo.size] at hk1
  refine (lack_any TT.out.1 (by rw [gro_len]; simp only [Fo.size]; omega) x m1 hm1 (by omega) u.fr).mono ?_
  rintro e w5 ⟨rfl, hp1, hb1, hk1⟩
  rw [GA.out] at hp1
  have BX := Lib.hid (hk1.1 _ _ TT.out.2.2.2)
  have B5 := Lib.hid (B3.out.trans (TT.out.2.1.trans hb1)); have K5 := Lib.hid (K3.out.trans (TT.out.2.2.1.trans hk1)); clear hb1 hk1 hm1
  go_wp2_with fail
  obtain ⟨tv5, nv5, vs5, hp1⟩ := hp1
  obtain rfl := keeps_tv K5.out H.out hp1
  have H5 := Lib.hid hp1; clear hp1 H3 B3 K3 NB TT
  refine (next_yes H5.out VT.out).mono ?_
  rintro e w6 ⟨rfl, hb1⟩
  have BX6 := Lib.hid (show w6.heap[b]? = some (tkO u) from (hb1.block b (Array.getElem?_eq_some_iff.1 BX.out).1).trans BX.out)
  have H6 := Lib.hid (H5.out.below hb1)
  have B6 := Lib.hid (B5.out.trans (hb1.mono (Nat.le_trans BASE.out B5.out.size)))
  have K6 := Lib.hid (K5.out.trans (keeps_below hb1))
  clear hb1 BX B5 K5
  obtain ⟨x0, x1, x2⟩ := tk_cells BX6.out
  have xf := (obj_cells BX6.out).2.1
  have RT := Lib.hid (re_tok H6.out BX6.out (fun e => by have := TVL.out _ e; have := NB4.out; omega) (Nat.le_trans BASE.out NB4.out) u)
  have K7 : Hid (Keeps w (setAll w6 b 0 (Tk.cells u))) := Lib.hid (keeps_new (keeps_new (keeps_new K6.out NB4.out _) NB4.out _) NB4.out _)
  go_wp2_with (go_at_call 55; change Calls Tryz.prog 55 _ (setAll w6 b 0 (Tk.cells u)) _; rw [dplus]; refine (starts_any u (d + 1) _).mono ?_; rintro e w7 ⟨rfl, hb7⟩; rw [NST.out]; have B7 := Lib.hid hb7; clear hb7; obtain ⟨y0, y1, y2⟩ := tk_cells ((B7.out.block b (Array.getElem?_eq_some_iff.1 RT.out.2.1).1).trans RT.out.2.1))
  have H7 := Lib.hid (RT.out.1.below B7.out)
  clear x0 x1 x2 xf
  obtain ⟨m2, hm2, hk2⟩ := GK.out (Fo.app (Fo.cons 4 fr tt Fo.nil Fo.nil) (lackF u.fr .nil))
  simp only [Fo.size, Fo.size_app, lack_size] at hk2
  refine (lack_any ⟨_, _, _, H7.out⟩ (by rw [gro_len]; simp only [Fo.size, Fo.size_app, lack_size]; omega) x m2 hm2 (by omega) u.fr).mono ?_
  rintro e w8 ⟨rfl, hp1, hb1, hk1⟩
  rw [GA.out] at hp1
  have H8 := Lib.hid hp1; have B8 := Lib.hid (B6.out.trans (RT.out.2.2.trans ((B7.out.mono (Nat.le_trans BASE.out (Nat.le_trans B6.out.size RT.out.2.2.size))).trans hb1))); have K8 := Lib.hid (K7.out.trans ((keeps_below B7.out).trans hk1)); clear hp1 hb1 hk1 hm2
  go_wp2_with fail
  refine (close_any x (((Fo.app (Fo.cons 4 fr tt Fo.nil Fo.nil) (lackF u.fr .nil))).app (lackF u.fr .nil)) H8.out m hm hk (by simp only [Fo.size, Fo.size_app, lack_size]; omega) tt).mono ?_
  rintro e wz ⟨rfl, hp1, hb1, hk1⟩
  have HZ := Lib.hid hp1; have BZ := Lib.hid (B8.out.trans hb1); have KZ := Lib.hid (K8.out.trans hk1); clear hp1 hb1 hk1
  go_wp2_with fail
  go_end0
  exact ⟨rfl, ⟨_, POSL.out, LEFT.out, HZ.out⟩, BZ.out, KZ.out⟩

theorem pair_step {n : Nat} (hV : ValC n) : PrC (n + 1) := by
  intro base pb ts en t r ns w x m d fr T ks hp hr hn hm hk h6 hd hF
  obtain ⟨k, fr0, tt⟩ := t
  dsimp only at h6
  subst h6
  obtain ⟨n', rfl⟩ : ∃ n', n = n' + 1 := ⟨n - 1, by omega⟩
  have hv : valF (n' + 1) en (d + 1) (⟨6, fr0, tt⟩ :: r) = (.cons 4 fr0 tt .nil .nil, r) := by rw [val_is]; rfl
  rw [pr_eq, hv] at hF ⊢
  dsimp only at hF ⊢
  cases r with
  | nil =>
    injection hF with _ _ e3 e4 _
    rw [← e3, ← e4]
    exact pair_Anone hp hr hm hk hd
  | cons u q =>
    by_cases h4 : u.k = 4
    · obtain ⟨uk, fu, tu⟩ := u
      dsimp only at h4
      subst h4
      have hc : colonF tt (⟨4, fu, tu⟩ :: q) = (true, tu, q) := rfl
      rw [hc] at hF ⊢
      dsimp only at hF ⊢
      injection hF with _ _ e3 e4 _
      rw [← e3, ← e4]
      cases q with
      | nil => exact pair_Bnone hp hr hm hk hd
      | cons v q =>
        have hy : pvF (n' + 1) en d (v :: q) = if starts v (d + 1) then valF (n' + 1) en (d + 1) (v :: q) else (lackF v.fr .nil, v :: q) := rfl
        rw [hy]
        cases hst : starts v (d + 1) with
        | true => exact pair_Byes hV hst (by simp only [List.length_cons] at hn ⊢; omega) hp hr hm hk hd
        | false => exact pair_Bno hst hp hr hm hk hd
    · have hc : colonF tt (u :: q) = (false, tt, u :: q) := by
        show (if u.k == 4 then (true, Tk.to u, q) else (false, tt, u :: q)) = _
        rw [if_neg (by simpa using h4)]
      rw [hc] at hF ⊢
      dsimp only at hF ⊢
      injection hF with _ _ e3 e4 _
      rw [← e3, ← e4]
      have hy : pvF (n' + 1) en d (u :: q) = if starts u (d + 1) then valF (n' + 1) en (d + 1) (u :: q) else (lackF u.fr .nil, u :: q) := rfl
      rw [hy]
      cases hst : starts u (d + 1) with
      | true => exact pair_Cyes h4 hV hst (by simp only [List.length_cons] at hn ⊢; omega) hp hr hm hk hd
      | false => exact pair_Cno h4 hst hp hr hm hk hd

end Go.Proofs.YtjmfjlffcopnnaaGreatDoor
