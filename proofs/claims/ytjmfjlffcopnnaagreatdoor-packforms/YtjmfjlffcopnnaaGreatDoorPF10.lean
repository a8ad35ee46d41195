/-
  The walk of the reference's Parse. Conditions: as each theorem's premises say.
-/
import Derived.Test.YtjmfjlffcopnnaaGreatDoorPF09
import Derived.Deep.RegionLawGrows
namespace Go.Proofs.YtjmfjlffcopnnaaGreatDoor
open Go.RowKit

theorem PS.objT {w W : World} {base pb i en : Nat} {ts : List Tk} {tv nv : Value} {vs : List Nv} {ns : List Nd} (h : PS w base pb ts i en tv nv vs ns) (hg : w.grownBy W tv.ownBlock) : W.heap[pb]? = some (.cells #[tv, .int .i64 i, .int .i64 en, .int .i64 0, .int .i64 0, nv] 97 (0, 0)) :=
  (hg.block pb (Array.getElem?_eq_some_iff.1 h.obj).1 (fun e => by
    obtain ⟨cur, hcur⟩ := h.toks.obj e.symm
    exact type_ne h.obj hcur (by decide) rfl)).trans h.obj
/-- One token more. -/
theorem PS.pushT {w W : World} {base pb i en g cap : Nat} {ts : List Tk} {tv : Value} (h : PS w base pb ts i en tv (.slice none 0 0) [] []) (hg : w.grownBy W tv.ownBlock) (t : Tk)
    (hr : W.ownsRow base 99 3 (.slice (some ⟨g, 0, none⟩) (ts.length + 1) cap) (ts.length + 1) (lyT.all ts ++ Tk.cells t)) :
    PS (W.setCell ⟨pb, 0, none⟩ (.slice (some ⟨g, 0, none⟩) (ts.length + 1) cap)) base pb (ts ++ [t]) i en (.slice (some ⟨g, 0, none⟩) (ts.length + 1) cap) (.slice none 0 0) [] [] := by
  have ho : W.heap[pb]? = some (.cells #[tv, .int .i64 i, .int .i64 en, .int .i64 0, .int .i64 0, .slice none 0 0] 97 (0, 0)) :=
    (hg.block pb (Array.getElem?_eq_some_iff.1 h.obj).1 (fun e => by
      obtain ⟨cur, hcur⟩ := h.toks.obj e.symm
      exact type_ne h.obj hcur (by decide) rfl)).trans h.obj
  have ht : lyT.Own W base (.slice (some ⟨g, 0, none⟩) (ts.length + 1) cap) (ts ++ [t]) := by
    unfold Ly.Own
    rw [List.length_append, List.length_singleton, all_app, all_one]
    exact hr
  exact ⟨by rw [heap_setCell_at ho]; rfl, h.new, toks_kept ht (set_grown ..) ho (by decide), ⟨Ly.Own.nil _ _, rfl, fun i v n hv => by simp at hv, fun i j v u g hv => by simp at hv⟩⟩

theorem PS.start (w : World) (en : Nat) : PS (w.alloc (.cells #[.slice none 0 0, .int .i64 0, .int .i64 en, .int .i64 0, .int .i64 0, .slice none 0 0] 97)) w.heap.size w.heap.size [] 0 en (.slice none 0 0) (.slice none 0 0) [] [] :=
  ⟨heap_alloc_new w _, Nat.le_refl _, Ly.Own.nil _ _, ⟨Ly.Own.nil _ _, rfl, fun i v n hv => by simp at hv, fun i j v u g hv => by simp at hv⟩⟩
theorem three_newB {w : World} {H : Nat} (hH : w.heap.size = H) (t : Tk) : ∀ j u, (Tk.cells t)[j]? = some u → (w.alloc (.cells #[.int .i64 t.k, .int .i64 t.fr, .int .i64 (Tk.to t)] 99)).cell? ((⟨H, 0, none⟩ : Addr).add j) = some u := three_new hH t.k t.fr (Tk.to t)
theorem filter_step {l : List Tk} {j : Nat} {t : Tk} (h : l[j]? = some t) : (l.take (j + 1)).filter fineT = if fineT t then (l.take j).filter fineT ++ [t] else (l.take j).filter fineT := by
  rw [List.take_add_one, h, List.filter_append]
  cases hf : fineT t <;> simp [hf]

-- tops
/-- What the root's loop holds. -/
structure TL (w : World) (base pb : Nat) (ts : List Tk) (en : Nat) (ns : List Nd) (tot : Fo) (wr : World) (k : Nat) (one : Bool) (i : Nat) (left : List Tk) (F : Fo) : Prop where
  le : i ≤ ts.length
  drop : ts.drop i = left
  ps : PSx wr base pb ts i en (gro ns 0 F)
  eq : F.app (topF k en one left) = tot
  fuel : left.length ≤ k
  srt : ∃ lo, Srt en lo left
  room : F.size + 6 * left.length ≤ 6 * ts.length
  below : Below base w wr
def TLx (w : World) (base pb : Nat) (ts : List Tk) (en : Nat) (ns : List Nd) (tot : Fo) (v : Value) (wr : World) : Prop := ∃ k one i left F, v = .bool one ∧ TL w base pb ts en ns tot wr k one i left F
theorem top_nil (k e : Nat) (one : Bool) : topF k e one [] = if one then .nil else lackF e .nil := by cases k <;> rfl
theorem top_is (k e : Nat) (one : Bool) (t : Tk) (r : List Tk) : topF (k + 1) e one (t :: r) =
    (if !starts t 1 then .cons 7 t.fr (Tk.to t) .nil (topF k e one r)
    else if one then .cons 7 t.fr (max (Tk.to t) ((valF (4 * (r.length + 1)) e 1 (t :: r)).1.last 0)) (valF (4 * (r.length + 1)) e 1 (t :: r)).1 (topF k e one (valF (4 * (r.length + 1)) e 1 (t :: r)).2)
    else (valF (4 * (r.length + 1)) e 1 (t :: r)).1.app (topF k e true (valF (4 * (r.length + 1)) e 1 (t :: r)).2)) := rfl
section
variable {w wr W : World} {base pb : Nat} {ts : List Tk} {en : Nat} {ns : List Nd} {tot : Fo} {k i : Nat} {one : Bool} {F : Fo} {t : Tk} {r : List Tk}
theorem TL.pos (L : TL w base pb ts en ns tot wr k one i (t :: r) F) : ∃ k', k = k' + 1 := ⟨k - 1, by have := L.fuel; rw [List.length_cons] at this; omega⟩
theorem TL.none (L : TL w base pb ts en ns tot wr k one i [] F) : tot = F.app (if one then .nil else lackF en .nil) := by rw [← L.eq, top_nil]
theorem TL.stray (L : TL w base pb ts en ns tot wr (k + 1) one i (t :: r) F) (hs : starts t 1 = false) (hps : PSx W base pb ts (i + 1) en (gro ns 0 (F.app (.cons 7 t.fr (Tk.to t) .nil .nil)))) (hb : Below base wr W) : TL w base pb ts en ns tot W k one (i + 1) r (F.app (.cons 7 t.fr (Tk.to t) .nil .nil)) := by
  obtain ⟨h1, h2, h3⟩ := drop_cons L.drop
  have f := L.fuel
  have g := L.room
  rw [List.length_cons] at f g
  refine ⟨h3, h2, hps, ?_, by omega, ⟨_, L.srt.choose_spec.2.2⟩, ?_, L.below.trans hb⟩
  · rw [← L.eq, top_is, if_pos (by simp [hs]), Fo.app_app]; rfl
  · rw [Fo.size_app]; simp only [Fo.size]; omega
/-- What a value at the root adds. -/
def tpF (one : Bool) (t : Tk) (X : Fo) : Fo := if one then .cons 7 t.fr (max (Tk.to t) (X.last 0)) X .nil else X
theorem TL.value (L : TL w base pb ts en ns tot wr (k + 1) one i (t :: r) F) (hs : starts t 1 = true) {j : Nat} (hj : j ≤ ts.length) (hdj : ts.drop j = (valF (4 * (r.length + 1)) en 1 (t :: r)).2)
    (hps : PSx W base pb ts j en (gro ns 0 (F.app (tpF one t (valF (4 * (r.length + 1)) en 1 (t :: r)).1)))) (hb : Below base wr W) :
    TL w base pb ts en ns tot W k true j (valF (4 * (r.length + 1)) en 1 (t :: r)).2 (F.app (tpF one t (valF (4 * (r.length + 1)) en 1 (t :: r)).1)) ∧ i + 1 ≤ j := by
  obtain ⟨lo, hsr⟩ := L.srt
  have ho := (all_ok (4 * (r.length + 1))).1 en 1 lo t r hsr
  obtain ⟨h1, h2, h3⟩ := drop_cons L.drop
  have f := L.fuel
  have g := L.room
  rw [List.length_cons] at f g
  have l1 := congrArg List.length hdj
  have l2 := congrArg List.length h2
  rw [List.length_drop] at l1 l2
  refine ⟨⟨hj, hdj, hps, ?_, by omega, ⟨_, ho.1.choose_spec.2.1⟩, ?_, L.below.trans hb⟩, by omega⟩
  · rw [← L.eq, top_is, if_neg (by simp [hs]), Fo.app_app]
    unfold tpF
    cases one <;> rfl
  · rw [Fo.size_app]
    unfold tpF
    cases one
    · simp only [Bool.false_eq_true, if_false]; omega
    · simp only [if_true, Fo.size]; omega
theorem TLx.of {k' i' : Nat} {one' : Bool} {left' : List Tk} {F' : Fo} {v : Value} (hv : v = .bool one') (L : TL w base pb ts en ns tot W k' one' i' left' F') : TLx w base pb ts en ns tot v W := ⟨k', one', i', left', F', hv, L⟩
end
/-- The end of Parse: the nodes stay as they are. -/
theorem fin_tree {X : World} {base pb i en rb : Nat} {ts : List Tk} {tv nv : Value} {vs : List Nv} {ns : List Nd} {c : Array Value} (H : PS X base pb ts i en tv nv vs ns) (hr : X.heap[rb]? = some (.cells c 26 (0, 0))) (a : Value) (us : List Value) :
    OwnT (setAll (X.setCell ⟨pb, 4, none⟩ a) rb 0 us) base nv vs ns := by
  have h1 : OwnT (X.setCell ⟨pb, 4, none⟩ a) base nv vs ns := H.nodes.kept (set_grown ..) H.obj (by decide) (by decide)
  have hne : rb ≠ pb := type_ne hr H.obj (by decide)
  have h2 : (X.setCell ⟨pb, 4, none⟩ a).heap[rb]? = some (.cells c 26 (0, 0)) := ((set_grown X pb 4 a).block rb (Array.getElem?_eq_some_iff.1 hr).1 (fun e => hne (Option.some.inj e))).trans hr
  exact h1.kept (setAll_one ..) h2 (by decide) (by decide)
theorem OwnT.mono {w : World} {base base' : Nat} {nv : Value} {vs : List Nv} {ns : List Nd} (h : OwnT w base nv vs ns) (hb : base' ≤ base) : OwnT w base' nv vs ns :=
  ⟨h.row.mono hb, h.len, fun i v n hv hn => by
    obtain ⟨a, b, c, d, e⟩ := h.fit i v n hv hn
    exact ⟨a, b, c, d, e.mono hb⟩, h.apart⟩
/-- What Parse answers. -/
def ParPost (l : List UInt8) (w : World) (e : Ending) (w' : World) : Prop := ∃ p cap vs, e = .returned (.tuple #[.agg #[.int .i64 0, .int .i64 (parN l).length, .slice p (parN l).length cap], .int .i64 0]) ∧ OwnT w' w.heap.size (.slice p (parN l).length cap) vs (parN l) ∧ Below w.heap.size w w'
theorem par_gro (l : List UInt8) (N : Nat) (hN : N = l.length) : gro [⟨(0 : Nat), (0 : Nat), (0 : Nat), N, []⟩] 0 (parK l) = parN l := by
  subst hN
  show [_] ++ (parK l).flat nid 1 = _ :: ((parK l).flat nid 1 ++ [])
  rw [List.append_nil]
  rfl

set_option maxRecDepth 100000 in
set_option maxHeartbeats 2000000 in
theorem parse_yes (s : ByteArray) (w : World) (hs : s.size ≤ 300) : Calls Tryz.prog 16 #[.string s] w (ParPost s.data.toList w) := by
  obtain ⟨i0, hi, hz0, hz1, hz2⟩ := info_parts info49
  have hlen := tkF_len (s := s) s.size 0 (by omega)
  go_enter Tryz.func16, Tryz.ntmps16
  go_wp2_with fail
  refine (tokens_yes s _ hs).mono ?_
  rintro e w1 ⟨p, cap, rfl, ho, hb1⟩
  have O := Lib.hid ho; have B1 := Lib.hid hb1; clear ho hb1
  go_upto_block 0 with fail
  have P0 := Lib.hid (PS.start w1 s.size)
  have BP := Lib.hid ((Below.refl w1.heap.size w1).alloc (Nat.le_refl _) (.cells #[.slice none 0 0, .int .i64 0, .int .i64 s.size, .int .i64 0, .int .i64 0, .slice none 0 0] 97))
  go_cut [7] (fun _ wx => ∃ tv, Hid (PS wx w1.heap.size w1.heap.size ((tkF s 0).filter fineT) 0 s.size tv (.slice none 0 0) [] []) ∧ Hid (Below w1.heap.size w1 wx))
  case first =>
    go_wp2_with fail
    go_loopw [7] (fun v wr => ∃ (j : Nat) (tv : Value), j ≤ (tkF s 0).length ∧ v = .int .i64 j ∧ Hid (PS wr w1.heap.size w1.heap.size (((tkF s 0).take j).filter fineT) 0 s.size tv (.slice none 0 0) [] []) ∧ Hid (Below w1.heap.size w1 wr)) (fun v _ => (tkF s 0).length - (intOf v).toNat)
    case atStart => exact ⟨0, _, by omega, rfl, P0, BP⟩
    case round =>
      clear P0 BP
      obtain ⟨j, tv, hj, rfl, P, B⟩ := hrel
      by_cases hlt : j < (tkF s 0).length
      · obtain ⟨t, ht⟩ : ∃ t, (tkF s 0)[j]? = some t := ⟨_, List.getElem?_eq_getElem hlt⟩
        have FS := Lib.hid (filter_step ht)
        obtain ⟨g, o, rfl, hat⟩ := O.out.row j t ht
        have t0 : wr.cell? ⟨g, o + j * 3, none⟩ = some (.int .i64 t.k) := cell_later B.out (hat 0 _ rfl)
        have t1 : wr.cell? ⟨g, o + j * 3 + 1, none⟩ = some (.int .i64 t.fr) := cell_later B.out (hat 1 _ rfl)
        have t2 : wr.cell? ⟨g, o + j * 3 + 2, none⟩ = some (.int .i64 (Tk.to t)) := cell_later B.out (hat 2 _ rfl)
        have hlt2 : (j : Int) < ((tkF s 0).length : Int) := by omega
        have hj0 : (0 : Int) ≤ (j : Int) := by omega
        clear hat ht
        by_cases h10 : t.k = 10
        · have q1 : ((t.k : Int) != 10) = false := by simp; omega
          have P' : Hid (PS wr w1.heap.size w1.heap.size (((tkF s 0).take (j + 1)).filter fineT) 0 s.size tv (.slice none 0 0) [] []) := Lib.hid (by
            rw [FS.out, if_neg (by simp [fineT, h10])]; exact P.out)
          clear h10
          go_wp2_with fail
          go_roundw
          case rel => exact ⟨j + 1, tv, by omega, by go_num, P', B⟩
          case measure => simp [intOf]; omega
        · have q1 : ((t.k : Int) != 10) = true := by simp; omega
          by_cases h9 : t.k = 9
          · have q2 : ((t.k : Int) != 9) = false := by simp; omega
            have P' : Hid (PS wr w1.heap.size w1.heap.size (((tkF s 0).take (j + 1)).filter fineT) 0 s.size tv (.slice none 0 0) [] []) := Lib.hid (by
              rw [FS.out, if_neg (by simp [fineT, h9])]; exact P.out)
            clear h9 h10
            go_wp2_with fail
            go_roundw
            case rel => exact ⟨j + 1, tv, by omega, by go_num, P', B⟩
            case measure => simp [intOf]; omega
          · have q2 : ((t.k : Int) != 9) = true := by simp; omega
            have FS2 : Hid (((tkF s 0).take (j + 1)).filter fineT = ((tkF s 0).take j).filter fineT ++ [t]) := Lib.hid (by
              rw [FS.out, if_pos (by simp [fineT, h9, h10])])
            have LN : (((tkF s 0).take j).filter fineT).length ≤ 300 := by
              have := List.length_filter_le fineT ((tkF s 0).take j)
              rw [List.length_take] at this
              omega
            clear h9 h10 FS
            generalize ((tkF s 0).take j).filter fineT = fs at *
            obtain ⟨p2, cap2, rfl⟩ := P.out.toks.form
            obtain ⟨c0, c1, c2, c3, c4, c5, cf, hpb⟩ := P.out.cells
            generalize hM : fs.length = M at *
            have HM := Lib.hid hM; clear hM
            have OW : Hid (∀ W, Below wr.heap.size wr W → W.ownsRow w1.heap.size 99 3 (.slice p2 M cap2) M (lyT.all fs)) := Lib.hid (fun W hW => by
              have := P.out.toks.below hW
              unfold Ly.Own at this
              rw [HM.out] at this
              exact this)
            go_wp2_with fail
            go_region_law ((refine step_append_lies _ (by rfl) (.tmp 48) (.tmp 53) 92 (by rfl) w1.heap.size 99 i0 _ 3 24 Tryz.underlying92 hi hz0 hz1 hz2 rfl (by decide) (.slice p2 M cap2) M (lyT.all fs) (by rfl) (OW.out _ (below_drew (below1 (Below.refl _ _) (Nat.le_refl _) _))) ⟨wr.heap.size, 0, none⟩ 1 1 (Tk.cells t) (by rfl) rfl (three_newB rfl t) (lyT.one t) (by decide) (by unfold maxLen; omega) (by omega) (Nat.le_trans B.out.size (by simp)) (wr.heap.size + 1) (by simp) ?_; intro g2 cap2 w6 hown hgrow hgg hlt2; have HO := Lib.hid hown; have HG := Lib.hid (grown_trans (grown_of_below (below_drew (below1 (Below.refl wr.heap.size wr) (Nat.le_refl _) _)) _) hgrow (fun g h => .inl h)); clear hown hgrow hgg; have Hob := Lib.hid (P.out.objT HG.out); have d0 := (obj_cells Hob.out).1 0 _ rfl; have df := (obj_cells Hob.out).2.1))
            all_goals
              go_wp2_with fail
              go_roundw
              case rel =>
                have hm := HM.out
                subst hm
                refine ⟨j + 1, _, by omega, by go_num, Lib.hid (by rw [FS2.out]; exact P.out.pushT HG.out t HO.out), Lib.hid ?_⟩
                exact below_set (B.out.trans (below_grownN HG.out (fun g hg => (P.out.toks.lt hg).1) B.out.size)) (Nat.le_refl _) _
              case measure => simp [intOf]; omega
      · have P' : Hid (PS wr w1.heap.size w1.heap.size ((tkF s 0).filter fineT) 0 s.size tv (.slice none 0 0) [] []) := Lib.hid (by
          have := P.out
          rwa [List.take_of_length_le (by omega)] at this)
        go_wp2_with fail
        go_meet
        exact ⟨tv, P', B⟩
  case rest =>
    obtain ⟨tv, P, B⟩ := hcut
    clear P0 BP O
    have FT : Hid ((tkF s 0).filter fineT = fine s.data.toList) := Lib.hid (by unfold fine; rw [tkF_toks])
    have SRT := Lib.hid (fine_srt s.data.toList)
    have SL : Hid (s.data.toList.length = s.size) := Lib.hid (by simp)
    have TOT : Hid (topF ((tkF s 0).filter fineT).length s.size false ((tkF s 0).filter fineT) = parK s.data.toList) := Lib.hid (by rw [FT.out]; unfold parK; rw [SL.out])
    have SRT2 : Hid (Srt s.size 0 ((tkF s 0).filter fineT)) := Lib.hid (by rw [FT.out, ← SL.out]; exact SRT.out.1)
    have PG := Lib.hid (par_gro s.data.toList s.size SL.out.symm)
    have LF : ((tkF s 0).filter fineT).length ≤ 300 := by
      have := List.length_filter_le fineT (tkF s 0)
      omega
    clear FT SRT SL hlen
    have RB : Hid (∀ W, Below w1.heap.size w1 W → W.heap[w.heap.size]? = some (.cells #[.int .i64 0, .int .i64 0, .slice none 0 0] 26 (0, 0))) := Lib.hid (fun W hW => by
      have h0 := B1.out.block w.heap.size (by simp)
      have hlt : w.heap.size < w1.heap.size := by have := B1.out.size; simp at this; omega
      exact (hW.block w.heap.size hlt).trans (h0.trans (heap_alloc_new w _)))
    have WB : Hid (∀ W, Below w1.heap.size w1 W → Below w.heap.size w W) := Lib.hid (fun W hW => by
      have hlt : w.heap.size ≤ w1.heap.size := by have := B1.out.size; simp at this; omega
      exact ((((Below.refl w.heap.size w).alloc (Nat.le_refl _) _).trans (B1.out.mono (by simp))).trans (hW.mono hlt)))
    have WLT : w.heap.size < w1.heap.size := by have := B1.out.size; simp at this; omega
    generalize (tkF s 0).filter fineT = fts at *
    generalize parK s.data.toList = tot at *
    generalize hb : w1.heap.size = base at *
    have HB := Lib.hid hb; clear hb
    go_wp2_with fail
    refine (node_any ⟨tv, _, _, P.out⟩ (by simp) 0 0 s.size).mono ?_
    rintro e w2 ⟨rfl, hp2, hb2, hk2⟩
    have START : Hid (TLx w1 base base fts s.size [⟨(0 : Nat), (0 : Nat), (0 : Nat), s.size, []⟩] tot (.bool false) w2) := Lib.hid (by
      refine ⟨fts.length, false, 0, fts, .nil, rfl, by omega, rfl, ?_, ?_, Nat.le_refl _, ⟨0, SRT2.out⟩, by simp only [Fo.size]; omega, B.out.trans hb2⟩
      · rw [gro_nil]; exact hp2
      · rw [TOT.out]; rfl)
    clear hp2 hb2 hk2 P TOT
    have GA := Lib.hid (gro_app [⟨(0 : Nat), (0 : Nat), (0 : Nat), s.size, []⟩] 0 (by simp))
    have GK := Lib.hid (gro_kids (ns := [⟨(0 : Nat), (0 : Nat), (0 : Nat), s.size, []⟩]) (x := 0) rfl rfl)
    generalize hns : ([⟨(0 : Nat), (0 : Nat), (0 : Nat), s.size, []⟩] : List Nd) = ns0 at *
    have NL : ns0.length = 1 := by rw [← hns]; rfl
    have NL2 := Lib.hid NL
    clear hns NL
    go_wp2_with fail
    go_loopw [9] (fun v wr => TLx w1 base base fts s.size ns0 tot v wr) (fun _ wr => fts.length - (intOf ((wr.cell? ⟨base, 1, none⟩).getD undef)).toNat)
    case atStart => exact START.out
    case round =>
      clear START
      obtain ⟨k, one, i, left, F, rfl, L⟩ := hrel
      have TL := Lib.hid L; clear L
      have FR := TL.out.room
      obtain ⟨m1, hm1, hk1⟩ := GK.out F
      have GL : Hid ((gro ns0 0 F).length = F.size + 1) := Lib.hid (by rw [gro_len, NL2.out]; omega)
      obtain ⟨tv2, nv, vs, hps⟩ := TL.out.ps
      have H := Lib.hid hps; clear hps
      have hil := TL.out.le
      have C1 : Hid (wr.cell? ⟨base, 1, none⟩ = some (.int .i64 i)) := Lib.hid H.out.cells.2.1
      cases left with
      | nil =>
        have DR := Lib.hid TL.out.drop
        have TT0 := Lib.hid TL.out.none
        simp only [List.length_nil] at FR
        cases one with
        | true =>
          have TE : Hid (gro ns0 0 F = parN s.data.toList) := Lib.hid (by rw [← PG.out, TT0.out]; simp [Fo.app_nil])
          go_wp2_with fail
          refine (next_no H.out (by have := congrArg List.length DR.out; rw [List.length_drop] at this; simp at this; omega) (by omega)).mono ?_
          rintro e w3 ⟨rfl, hb1⟩
          have BX : Hid (Below base w1 (w3.alloc (tkO ⟨0, s.size, s.size⟩))) := Lib.hid (TL.out.below.trans (see_tok H.out hb1 ⟨0, s.size, s.size⟩).2.1)
          have HX : Hid (PS (w3.alloc (tkO ⟨0, s.size, s.size⟩)) base base fts i s.size tv2 nv vs (gro ns0 0 F)) := Lib.hid (H.out.below (hb1.alloc hb1.size _))
          clear hb1
          go_upto_region 20 with fail
          change Code.wp _ _ _ _ (w3.alloc (tkO ⟨0, s.size, s.size⟩))
          generalize w3.alloc (tkO ⟨0, s.size, s.size⟩) = X at BX HX ⊢
          rw [TE.out] at HX
          clear H
          obtain ⟨p9, cap9, rfl⟩ := HX.out.nodes.row.form
          have VL := Lib.hid HX.out.nodes.len
          obtain ⟨c0, c1, c2, c3, c4, c5, cf, hpb⟩ := HX.out.cells
          have RX := Lib.hid (RB.out X BX.out)
          obtain ⟨r0, r1, r2⟩ := obj_cells RX.out
          have r00 := r0 0 _ rfl
          have r01 := r0 1 _ rfl
          have r02 := r0 2 _ rfl
          clear r0
          have FT := Lib.hid (fin_tree HX.out RX.out)
          have XB := Lib.hid (WB.out X BX.out)
          go_wp2_with fail
          refine bodyPost_ret (v := .tuple #[.agg #[.int .i64 0, .int .i64 vs.length, .slice p9 vs.length cap9], .int .i64 0]) (by rw [results_cell_tmp rfl]; go_simp) rfl ?_
          refine ⟨p9, cap9, vs, by rw [← VL.out], ?_, ?_⟩
          · rw [← VL.out]
            exact (FT.out (.int .i64 vs.length) [.int .i64 0, .int .i64 vs.length, .slice p9 vs.length cap9]).mono (Nat.le_of_lt WLT)
          · exact below_set (below_set (below_set (below_set XB.out (Nat.le_of_lt WLT) _) (Nat.le_refl _) _) (Nat.le_refl _) _) (Nat.le_refl _) _
        | false =>
          have TE : Hid (gro ns0 0 (F.app (lackF s.size .nil)) = parN s.data.toList) := Lib.hid (by rw [← PG.out, TT0.out]; rfl)
          go_wp2_with fail
          refine (next_no H.out (by have := congrArg List.length DR.out; rw [List.length_drop] at this; simp at this; omega) (by omega)).mono ?_
          rintro e w3 ⟨rfl, hb1⟩
          have TT := Lib.hid (see_tok H.out hb1 ⟨0, s.size, s.size⟩); clear hb1
          go_wp2_with fail
          change Calls Tryz.prog 60 _ (w3.alloc (tkO ⟨0, s.size, s.size⟩)) _
          generalize w3.alloc (tkO ⟨0, s.size, s.size⟩) = X0 at TT ⊢
          refine (lack_any TT.out.1 (by rw [GL.out]; omega) 0 m1 hm1 (by omega) s.size).mono ?_
          rintro e X ⟨rfl, hp3, hb3, hk3⟩
          rw [GA.out] at hp3
          have BX : Hid (Below base w1 X) := Lib.hid (TL.out.below.trans (TT.out.2.1.trans hb3))
          obtain ⟨tv3, nv3, vs3, hp3⟩ := hp3
          have HX := Lib.hid hp3
          clear hp3 hb3 hk3
          rw [TE.out] at HX
          clear H
          obtain ⟨p9, cap9, rfl⟩ := HX.out.nodes.row.form
          have VL := Lib.hid HX.out.nodes.len
          obtain ⟨c0, c1, c2, c3, c4, c5, cf, hpb⟩ := HX.out.cells
          have RX := Lib.hid (RB.out X BX.out)
          obtain ⟨r0, r1, r2⟩ := obj_cells RX.out
          have r00 := r0 0 _ rfl
          have r01 := r0 1 _ rfl
          have r02 := r0 2 _ rfl
          clear r0
          have FT := Lib.hid (fin_tree HX.out RX.out)
          have XB := Lib.hid (WB.out X BX.out)
          go_wp2_with fail
          refine bodyPost_ret (v := .tuple #[.agg #[.int .i64 0, .int .i64 vs3.length, .slice p9 vs3.length cap9], .int .i64 0]) (by rw [results_cell_tmp rfl]; go_simp) rfl ?_
          refine ⟨p9, cap9, vs3, by rw [← VL.out], ?_, ?_⟩
          · rw [← VL.out]
            exact (FT.out (.int .i64 vs3.length) [.int .i64 0, .int .i64 vs3.length, .slice p9 vs3.length cap9]).mono (Nat.le_of_lt WLT)
          · exact below_set (below_set (below_set (below_set XB.out (Nat.le_of_lt WLT) _) (Nat.le_refl _) _) (Nat.le_refl _) _) (Nat.le_refl _) _
      | cons t r =>
        obtain ⟨k, rfl⟩ := TL.out.pos
        obtain ⟨ht, hd1, hlt⟩ := drop_cons TL.out.drop
        have HT := Lib.hid ht; have D1 := Lib.hid hd1; clear ht hd1
        have DR := Lib.hid TL.out.drop
        have SR := Lib.hid TL.out.srt
        simp only [List.length_cons] at FR
        have hbl : base ≤ wr.heap.size := Nat.le_trans H.out.new (Nat.le_of_lt H.out.cells.2.2.2.2.2.2.2)
        cases hs : starts t 1 with
        | false =>
          have HS := Lib.hid hs; clear hs
          go_wp2_with fail
          refine (next_yes H.out HT.out).mono ?_
          rintro e w3 ⟨rfl, hb1⟩
          have TT := Lib.hid (see_tok H.out hb1 t); clear hb1
          go_wp2_with (go_at_call 55; change Calls Tryz.prog 55 _ (w3.alloc (tkO t)) _; refine (starts_any t 1 _).mono ?_; rintro e w4 ⟨rfl, hb2⟩; rw [HS.out]; have B4 := Lib.hid hb2; clear hb2)
          have P2 : Hid (PSx w4 base base fts i s.size (gro ns0 0 F)) := Lib.hid (by obtain ⟨a, b, c, h⟩ := TT.out.1; exact ⟨a, b, c, h.below B4.out⟩)
          refine (stray_any P2.out (by rw [GL.out]; omega) 0 m1 hm1 (by omega) t HT.out (by omega)).mono ?_
          rintro e w5 ⟨rfl, hp3, hb3, hk3⟩
          rw [GA.out] at hp3
          have H3 := Lib.hid hp3; have B3 := Lib.hid (TT.out.2.1.trans ((B4.out.mono (Nat.le_trans hbl TT.out.2.1.size)).trans hb3)); clear hp3 hb3 hk3
          go_wp2_with fail
          go_roundw
          case rel => exact TLx.of (one' := one) rfl (TL.out.stray HS.out H3.out B3.out)
          case measure => exact meas H3.out.cells.1 C1.out (by omega) hlt
        | true =>
          have HS := Lib.hid hs; clear hs
          cases one with
          | true =>
            go_wp2_with fail
            refine (next_yes H.out HT.out).mono ?_
            rintro e w3 ⟨rfl, hb1⟩
            have TT := Lib.hid (see_tok H.out hb1 t); clear hb1
            go_wp2_with (go_at_call 55; change Calls Tryz.prog 55 _ (w3.alloc (tkO t)) _; refine (starts_any t 1 _).mono ?_; rintro e w4 ⟨rfl, hb2⟩; rw [HS.out]; have B4 := Lib.hid hb2; clear hb2)
            have P2 : Hid (PSx w4 base base fts i s.size (gro ns0 0 F)) := Lib.hid (by obtain ⟨a, b, c, h⟩ := TT.out.1; exact ⟨a, b, c, h.below B4.out⟩)
            refine (wrapped_any (all_calls (4 * (r.length + 1))).1 (d := 1) ⟨i, hil, DR.out, P2.out⟩ ⟨LF, by rw [GL.out, List.length_cons]; omega, SR.out⟩ (Nat.le_refl _) HS.out (by omega) hm1 (by omega)).mono ?_
            rintro e w5 ⟨rfl, ⟨j, hj, hdj, hp4⟩, hb4, hk4⟩
            rw [GA.out] at hp4
            have LN := Lib.hid (TL.out.value HS.out hj hdj hp4 (TT.out.2.1.trans ((B4.out.mono (Nat.le_trans hbl TT.out.2.1.size)).trans hb4)))
            clear hp4 hb4 hk4 hdj
            go_wp2_with fail
            go_roundw
            case rel => exact TLx.of (one' := true) rfl LN.out.1
            case measure => exact meas LN.out.1.ps.cells.1 C1.out LN.out.2 hlt
          | false =>
            go_wp2_with fail
            refine (next_yes H.out HT.out).mono ?_
            rintro e w3 ⟨rfl, hb1⟩
            have TT := Lib.hid (see_tok H.out hb1 t); clear hb1
            go_wp2_with (go_at_call 55; change Calls Tryz.prog 55 _ (w3.alloc (tkO t)) _; refine (starts_any t 1 _).mono ?_; rintro e w4 ⟨rfl, hb2⟩; rw [HS.out]; have B4 := Lib.hid hb2; clear hb2)
            have P2 : Hid (PSx w4 base base fts i s.size (gro ns0 0 F)) := Lib.hid (by obtain ⟨a, b, c, h⟩ := TT.out.1; exact ⟨a, b, c, h.below B4.out⟩)
            refine ((all_calls (4 * (r.length + 1))).1 base base fts s.size t r (gro ns0 0 F) w4 1 ⟨i, hil, DR.out, P2.out⟩ ⟨LF, by rw [GL.out, List.length_cons]; omega, SR.out⟩ (Nat.le_refl _) HS.out (by omega)).mono ?_
            rintro e w5 ⟨rfl, ⟨j, hj, hdj, hp4⟩, hb4, hk4⟩
            have H5 := Lib.hid hp4; have B5 := Lib.hid (TT.out.2.1.trans ((B4.out.mono (Nat.le_trans hbl TT.out.2.1.size)).trans hb4)); have DJ := Lib.hid hdj; clear hp4 hb4 hk4 hdj
            have KT : Hid (kidN (gro ns0 0 F ++ (valF (4 * (r.length + 1)) s.size 1 (t :: r)).1.flat nid (gro ns0 0 F).length) 0 (gro ns0 0 F).length = gro ns0 0 (F.app (tpF false t (valF (4 * (r.length + 1)) s.size 1 (t :: r)).1))) := Lib.hid (by
              obtain ⟨kd', fr', tt', k', e'⟩ := val_one (4 * (r.length + 1)) s.size 1 t r
              rw [e']
              show _ = gro ns0 0 (F.app (Fo.cons kd' fr' tt' k' .nil))
              rw [← GA.out]
              exact kid_tree (gro ns0 0 F) 0 (by rw [GL.out]; omega) kd' fr' tt' k')
            go_wp2_with fail
            refine (kid_any H5.out 0 m1 (get_app hm1 _) (by omega) (gro ns0 0 F).length).mono ?_
            rintro e w6 ⟨rfl, hp5, hb5, hk5⟩
            rw [KT.out] at hp5
            have LN := Lib.hid (TL.out.value HS.out hj DJ.out hp5 (B5.out.trans hb5))
            clear hp5 hb5 hk5
            go_wp2_with fail
            go_roundw
            case rel => exact TLx.of (one' := true) rfl LN.out.1
            case measure => exact meas LN.out.1.ps.cells.1 C1.out LN.out.2 hlt

end Go.Proofs.YtjmfjlffcopnnaaGreatDoor
