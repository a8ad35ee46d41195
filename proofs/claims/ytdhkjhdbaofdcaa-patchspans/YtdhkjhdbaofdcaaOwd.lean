/-
  The walk of owned: each node of a row gets a list of children of its own. Conditions: as each theorem's premises say.
-/
import Derived.Test.YtdhkjhdbaofdcaaDrB
import Derived.Test.YtdhkjhdbaofdcaaCoB
namespace Go.Proofs.Ytdhkjhdbaofdcaa
open Go.RowKit

theorem take_past {α : Type} (A B : List α) (n k : Nat) (h : A.length = n) : (A ++ B).take (n + k) = A ++ B.take k := by
  subst h
  rw [List.take_append, List.take_of_length_le (by omega), Nat.add_sub_cancel_left]
theorem drop_past {α : Type} (A B : List α) (n k : Nat) (h : A.length = n) : (A ++ B).drop (n + k) = B.drop k := by
  subst h
  rw [List.drop_append, List.drop_of_length_le (by omega), Nat.add_sub_cancel_left, List.nil_append]
/-- One node's children's slice written over. -/
theorem own_kids {w : World} {base g n cap i : Nat} {vs : List Nv} {v : Nv} (h : lyN.Own w base (.slice (some ⟨g, 0, none⟩) n cap) vs) (hi : vs[i]? = some v) (kp : Option Addr) (kn kc : Nat) :
    lyN.Own (w.setCell ⟨g, i * 5 + 4, none⟩ (.slice kp kn kc)) base (.slice (some ⟨g, 0, none⟩) n cap) (vs.set i ⟨v.id, v.kd, v.fr, v.tt, kp, kn, kc⟩) := by
  have hn : n = vs.length := by
    obtain ⟨p, c, e⟩ := h.form
    cases e; rfl
  subst hn
  obtain ⟨hs, hlt⟩ := split_at hi
  obtain ⟨h1, h2⟩ := all_split (L := lyN) hi
  have h2' : (lyN.all (vs.take i)).length = i * 5 := h2
  have hle : i * 5 + 4 + [Value.slice kp kn kc].length ≤ (lyN.all vs).length := by
    rw [all_len]
    have := Nat.mul_le_mul_right 5 (show i + 1 ≤ vs.length from hlt)
    show i * 5 + 4 + 1 ≤ vs.length * 5
    omega
  have h3 := own_setAll [Value.slice kp kn kc] (lyN.all vs) (i * 5 + 4) w h hle
  have e : (lyN.all vs).take (i * 5 + 4) ++ [Value.slice kp kn kc] ++ (lyN.all vs).drop (i * 5 + 4 + [Value.slice kp kn kc].length) = lyN.all (vs.set i ⟨v.id, v.kd, v.fr, v.tt, kp, kn, kc⟩) := by
    rw [List.set_eq_take_append_cons_drop, if_pos hlt, all_app]
    conv => lhs; rw [h1]
    rw [take_past _ _ _ 4 h2', show i * 5 + 4 + [Value.slice kp kn kc].length = i * 5 + 5 from rfl, drop_past _ _ _ 5 h2']
    have e1 : lyN.all (⟨v.id, v.kd, v.fr, v.tt, kp, kn, kc⟩ :: vs.drop (i + 1)) = Nv.cells ⟨v.id, v.kd, v.fr, v.tt, kp, kn, kc⟩ ++ lyN.all (vs.drop (i + 1)) := rfl
    rw [e1]
    show lyN.all (vs.take i) ++ (Nv.cells v ++ lyN.all (vs.drop (i + 1))).take 4 ++ [Value.slice kp kn kc] ++ (Nv.cells v ++ lyN.all (vs.drop (i + 1))).drop 5 = _
    unfold Nv.cells Nv.kv
    simp
  rw [e] at h3
  unfold Ly.Own
  rw [List.length_set]
  exact h3

/-- Between two rounds of owned: the first i nodes have lists of their own. -/
structure OwI (w wr : World) (base : Nat) (p : Option Addr) (N cap : Nat) (us vs : List Nv) (ns : List Nd) (i : Nat) : Prop where
  row : lyN.Own wr base (.slice p N cap) vs
  rest : ∀ k, i ≤ k → vs[k]? = us[k]?
  fit : ∀ (k : Nat) v m, k < i → vs[k]? = some v → ns[k]? = some m → Fits wr base v m
  apart : ∀ (k j : Nat) v u g, k < i → j < i → vs[k]? = some v → vs[j]? = some u → k ≠ j → v.kv.ownBlock = some g → u.kv.ownBlock ≠ some g
  below : Below base w wr
theorem OwI.later {w wr W : World} {base : Nat} {p : Option Addr} {N cap : Nat} {us vs : List Nv} {ns : List Nd} {i : Nat} (h : OwI w wr base p N cap us vs ns i) (hs : base ≤ w.heap.size) (hb : Bl wr W) : OwI w W base p N cap us vs ns i := by
  refine ⟨h.row.below hb, h.rest, fun k v m hk hv hm => ?_, h.apart, h.below.trans (hb.mono (Nat.le_trans hs h.below.size))⟩
  obtain ⟨a, b, c, d, e⟩ := h.fit k v m hk hv hm
  exact ⟨a, b, c, d, e.below hb⟩
theorem own_len {w : World} {base : Nat} {p : Option Addr} {N cap : Nat} {vs : List Nv} (h : lyN.Own w base (.slice p N cap) vs) : vs.length = N := by
  obtain ⟨q, c, e⟩ := h.form
  cases e
  rfl
theorem OwI.step {w0 w wr W : World} {base g N cap kn c6 i : Nat} {p6 : Option Addr} {us vs : List Nv} {ns : List Nd} {x : Nv} {m : Nd} (h : OwI w wr base (some ⟨g, 0, none⟩) N cap us vs ns i) (hs : base ≤ w.heap.size) (hb : Bl wr W) (hx : us[i]? = some x) (hm : ns[i]? = some m) (hp : PairR w0 x m)
    (ho : lyI.Own W wr.heap.size (.slice p6 kn c6) m.kids) : OwI w (W.setCell ⟨g, i * 5 + 4, none⟩ (.slice p6 kn c6)) base (some ⟨g, 0, none⟩) N cap us (vs.set i ⟨x.id, x.kd, x.fr, x.tt, p6, kn, c6⟩) ns (i + 1) := by
  have hl := h.later hs hb
  have hv : vs[i]? = some x := by rw [h.rest i (Nat.le_refl _)]; exact hx
  have hil := (List.getElem?_eq_some_iff.1 hv).1
  obtain ⟨cur, hcur⟩ := hl.row.obj (g := g) rfl
  have hg := set_grown W g (i * 5 + 4) (.slice p6 kn c6)
  have keepI : ∀ (B : Nat) (u : Value) (l : List Int), lyI.Own W B u l → lyI.Own (W.setCell ⟨g, i * 5 + 4, none⟩ (.slice p6 kn c6)) B u l := fun B u l e => e.kept hg (fun k hk e0 => by
    obtain ⟨c1, h1⟩ := e.obj hk
    exact type_ne h1 hcur (by decide) (Option.some.inj e0).symm)
  have old : ∀ (k : Nat) v g', k < i → vs[k]? = some v → v.kv.ownBlock = some g' → g' < wr.heap.size := fun k v g' hk hv' hgk => by
    have hkl : k < ns.length := by
      have h1 := (List.getElem?_eq_some_iff.1 hm).1
      omega
    exact ((h.fit k v _ hk hv' (List.getElem?_eq_getElem hkl)).2.2.2.2.lt hgk).2
  refine ⟨own_kids hl.row hv p6 kn c6, fun k hk => ?_, fun k v y hk hv' hy => ?_, fun k j v u g' hk hj hv' hu hne hgk => ?_, below_set hl.below ((hl.row.lt (g := g) rfl).1) _⟩
  · rw [List.getElem?_set_ne (by omega)]
    exact h.rest k (by omega)
  · by_cases e : k = i
    · subst e
      rw [List.getElem?_set_self hil] at hv'
      cases hv'
      rw [hm] at hy
      cases hy
      exact ⟨hp.1, hp.2.1, hp.2.2.1, hp.2.2.2.1, keepI _ _ _ (ho.mono (Nat.le_trans hs h.below.size))⟩
    · rw [List.getElem?_set_ne (Ne.symm e)] at hv'
      obtain ⟨a, b, c, d, e5⟩ := hl.fit k v y (by omega) hv' hy
      exact ⟨a, b, c, d, keepI _ _ _ e5⟩
  · by_cases e1 : k = i
    · subst e1
      rw [List.getElem?_set_self hil] at hv'
      cases hv'
      rw [List.getElem?_set_ne hne] at hu
      intro e2
      have h1 := (ho.lt (g := g') hgk).1
      have h2 := old j u g' (by omega) hu e2
      omega
    · rw [List.getElem?_set_ne (Ne.symm e1)] at hv'
      by_cases e2 : j = i
      · subst e2
        rw [List.getElem?_set_self hil] at hu
        cases hu
        intro e3
        have h1 := (ho.lt (g := g') e3).1
        have h2 := old k v g' (by omega) hv' hgk
        omega
      · rw [List.getElem?_set_ne (Ne.symm e2)] at hu
        exact h.apart k j v u g' (by omega) (by omega) hv' hu hne hgk
theorem OwI.whole {w wr : World} {base : Nat} {p : Option Addr} {N cap : Nat} {us vs : List Nv} {ns : List Nd} (h : OwI w wr base p N cap us vs ns N) (hN : ns.length = N) : OwnT wr base (.slice p N cap) vs ns := by
  have hl := own_len h.row
  have lt : ∀ {k : Nat} {v : Nv}, vs[k]? = some v → k < N := fun hv => by rw [← hl]; exact (List.getElem?_eq_some_iff.1 hv).1
  exact ⟨h.row, by rw [hl, hN], fun k v m hv hm => h.fit k v m (lt hv) hv hm, fun k j v u g hv hu hne hg => h.apart k j v u g (lt hv) (lt hu) hv hu hne hg⟩

/-- What owned answers. -/
def OwP (base : Nat) (root nx : Int) (p : Option Addr) (N cap : Nat) (ns : List Nd) (w : World) (e : Ending) (w' : World) : Prop := ∃ vs, e = .returned (.agg #[.int .i64 root, .int .i64 nx, .slice p N cap]) ∧ OwnT w' base (.slice p N cap) vs ns ∧ Below base w w'

set_option maxRecDepth 100000 in
set_option maxHeartbeats 4000000 in
theorem owned_any (w0 w : World) (base : Nat) (root nx : Int) (p : Option Addr) (N cap : Nat) (us : List Nv) (ns : List Nd) (hN : ns.length = N) (hl : N ≤ 4096) (hk : ∀ x ∈ ns, x.kids.length ≤ 4096) (hs : base ≤ w.heap.size) (hb0 : w0.heap.size ≤ base) (h0 : Bl w0 w) (ho : lyN.Own w base (.slice p N cap) us) (hf : ∀ (i : Nat) v m, us[i]? = some v → ns[i]? = some m → PairR w0 v m) :
    Calls Try.prog 25 #[.agg #[.int .i64 root, .int .i64 nx, .slice p N cap]] w (OwP base root nx p N cap ns w) := by
  obtain ⟨i0, hi, hz0, hz1, hz2⟩ := info_parts info3
  have HN := Lib.hid hN; have HK := Lib.hid hk; have HS := Lib.hid hs; have H0 := Lib.hid h0; have HB0 := Lib.hid hb0; have HF := Lib.hid hf
  have BT : Hid (Bl w ((w.alloc (.cells #[.int .i64 root, .int .i64 nx, .slice p N cap] 24)).alloc (.cells #[.int .i64 0, .int .i64 0, .slice none 0 0] 24))) := Lib.hid (Bl.alloc (Bl.alloc (Bl.refl _) _) _)
  have TB : Hid (((w.alloc (.cells #[.int .i64 root, .int .i64 nx, .slice p N cap] 24)).alloc (.cells #[.int .i64 0, .int .i64 0, .slice none 0 0] 24)).heap[w.heap.size]? = some (.cells #[.int .i64 root, .int .i64 nx, .slice p N cap] 24 (0, 0))) := Lib.hid (heap_old (heap_new rfl _ _) _)
  have RB : Hid (((w.alloc (.cells #[.int .i64 root, .int .i64 nx, .slice p N cap] 24)).alloc (.cells #[.int .i64 0, .int .i64 0, .slice none 0 0] 24)).heap[w.heap.size + 1]? = some (.cells #[.int .i64 0, .int .i64 0, .slice none 0 0] 24 (0, 0))) := Lib.hid (heap_new (by simp) _ _)
  have O0 : Hid (OwI w ((w.alloc (.cells #[.int .i64 root, .int .i64 nx, .slice p N cap] 24)).alloc (.cells #[.int .i64 0, .int .i64 0, .slice none 0 0] 24)) base p N cap us us ns 0) := Lib.hid ⟨ho.below BT.out, fun _ _ => rfl, fun k v m hk => absurd hk (Nat.not_lt_zero _), fun k j v u g hk => absurd hk (Nat.not_lt_zero _), BT.out.mono hs⟩
  clear hN hk h0 hf ho hb0
  go_enter Try.func25, Try.ntmps25
  go_upto_region 1 with fail
  generalize ((w.alloc (.cells #[.int .i64 root, .int .i64 nx, .slice p N cap] 24)).alloc (.cells #[.int .i64 0, .int .i64 0, .slice none 0 0] 24)) = w1 at BT TB RB O0 ⊢
  obtain ⟨tb, htb⟩ : ∃ g, g = w.heap.size := ⟨_, rfl⟩
  rw [← htb] at TB RB ⊢
  have HT : Hid (base ≤ tb) := Lib.hid (by rw [htb]; exact HS.out)
  clear htb hs
  have t2 := (obj_cells TB.out).1 2 _ rfl
  go_wp2_with fail
  clear t2
  go_loopw [8, 3] (fun v _ wr => ∃ (i : Nat) (vs : List Nv), i ≤ N ∧ v = .int .i64 i ∧ Hid (OwI w wr base p N cap us vs ns i) ∧ Hid (wr.heap[tb]? = some (.cells #[.int .i64 root, .int .i64 nx, .slice p N cap] 24 (0, 0))) ∧ Hid (wr.heap[tb + 1]? = some (.cells #[.int .i64 0, .int .i64 0, .slice none 0 0] 24 (0, 0)))) (fun v _ _ => N - (intOf v).toNat)
  case atStart => exact ⟨0, us, by omega, rfl, O0, TB, RB⟩
  case round =>
    clear O0 TB RB BT
    obtain ⟨i, vs, hin, rfl, O, TB, RB⟩ := hrel
    by_cases hlt : i < N
    · obtain ⟨m, hm⟩ : ∃ m, ns[i]? = some m := ⟨_, List.getElem?_eq_getElem (by rw [HN.out]; exact hlt)⟩
      obtain ⟨x, hx⟩ : ∃ x, vs[i]? = some x := ⟨_, List.getElem?_eq_getElem (by rw [own_len O.out.row]; exact hlt)⟩
      have hux : us[i]? = some x := by rw [← O.out.rest i (Nat.le_refl _)]; exact hx
      have hp := HF.out i x m hux hm
      obtain ⟨g, cap', hv, hbg, hgl, -⟩ := O.out.row.formS (fun e => by rw [e] at hx; cases hx)
      rw [own_len O.out.row] at hv
      cases hv
      have hat := O.out.row.at hx
      have c0 : wr.cell? ⟨g, i * 5, none⟩ = some (.int .i64 x.id) := hat 0 _ rfl
      have c1 : wr.cell? ⟨g, i * 5 + 1, none⟩ = some (.int .i64 x.kd) := hat 1 _ rfl
      have c2 : wr.cell? ⟨g, i * 5 + 2, none⟩ = some (.int .i64 x.fr) := hat 2 _ rfl
      have c3 : wr.cell? ⟨g, i * 5 + 3, none⟩ = some (.int .i64 x.tt) := hat 3 _ rfl
      have c4 : wr.cell? ⟨g, i * 5 + 4, none⟩ = some (.slice x.kp x.kn x.kc) := hat 4 _ rfl
      have hi0 : (0 : Int) ≤ (i : Int) := by omega
      have hi1 : (i : Int) < (N : Int) := by omega
      have HX := Lib.hid hux; have HM := Lib.hid hm; have HP := Lib.hid hp
      clear hat hx hux hm hp
      have BX : Hid (Bl wr (wr.alloc (.cells #[.int .i64 x.id, .int .i64 x.kd, .int .i64 x.fr, .int .i64 x.tt, .slice x.kp x.kn x.kc] 46))) := Lib.hid (Bl.alloc (Bl.refl _) _)
      have XB : Hid ((wr.alloc (.cells #[.int .i64 x.id, .int .i64 x.kd, .int .i64 x.fr, .int .i64 x.tt, .slice x.kp x.kn x.kc] 46)).heap[wr.heap.size]? = some (.cells #[.int .i64 x.id, .int .i64 x.kd, .int .i64 x.fr, .int .i64 x.tt, .slice x.kp x.kn x.kc] 46 (0, 0))) := Lib.hid (heap_new rfl _ _)
      go_upto_region 4 with fail
      clear c0 c1 c2 c3 c4
      have SZ : Hid (wr.heap.size ≤ (wr.alloc (.cells #[.int .i64 x.id, .int .i64 x.kd, .int .i64 x.fr, .int .i64 x.tt, .slice x.kp x.kn x.kc] 46)).heap.size) := Lib.hid BX.out.size
      generalize (wr.alloc (.cells #[.int .i64 x.id, .int .i64 x.kd, .int .i64 x.fr, .int .i64 x.tt, .slice x.kp x.kn x.kc] 46)) = w2 at BX XB SZ ⊢
      obtain ⟨xb, hxb⟩ : ∃ k, k = wr.heap.size := ⟨_, rfl⟩
      rw [← hxb] at XB ⊢
      clear hxb
      have O2 := Lib.hid (O.out.later HS.out BX.out)
      have TB2 := Lib.hid (heap_later TB.out BX.out)
      have RB2 := Lib.hid (heap_later RB.out BX.out)
      have t2 := (obj_cells TB2.out).1 2 _ rfl
      have x4 := (obj_cells XB.out).1 4 _ rfl
      have B02 : Hid (Bl w0 w2) := Lib.hid (Below.trans H0.out (O2.out.below.mono HB0.out))
      have ROW := Lib.hid (HP.out.2.2.2.2.2.below B02.out)
      have KN : Hid (m.kids.length = x.kn) := Lib.hid HP.out.2.2.2.2.1.symm
      have hkn : x.kn ≤ 4096 := by rw [← KN.out]; exact HK.out m (List.mem_of_getElem? HM.out)
      have LI : Hid ((lyI.all m.kids).length = x.kn * 1) := Lib.hid (by rw [all_len, KN.out]; rfl)
      have NON : Hid (x.kp = none → x.kn = 0) := Lib.hid (fun e => by have h := ROW.out; rw [e] at h; rw [← KN.out]; exact ints_none h)
      have NWI : Hid (∀ ad, x.kp = some ad → ∀ j u, (lyI.all m.kids)[j]? = some u → w2.drew.cell? (ad.add j) = some u) := Lib.hid (ints_news (ROW.out.below (below_drew (Below.refl _ _))))
      have dl : g < w2.heap.size := ((O2.out.row.lt (g := g) rfl).2)
      go_region_law (refine step_append_all _ (by rfl) (.const (.slice none 0 0)) (.tmp 17) 40 (by rfl) wr.heap.size 3 i0 _ 1 8 Try.underlying40 hi hz0 hz1 hz2 rfl (by decide) (.slice none 0 0) 0 [] (by rfl) (World.ownsRow_nil _ _ _ _) x.kp x.kn x.kc (lyI.all m.kids) (by rfl) LI.out NON.out NWI.out (all_ones _) (by unfold maxLen; omega) (by omega) SZ.out x.kn (by omega) ?_
                     intro p6 c6 w6 hown6 hgrow6 hblk6
                     have B6 : Hid (Bl w2 w6) := Lib.hid (Below.trans (below_drew (Below.refl _ _)) (below_grownN hgrow6 (fun k hk => by cases hk) (Nat.le_refl _)))
                     have K6 : Hid (lyI.Own w6 wr.heap.size (.slice p6 x.kn c6) m.kids) := Lib.hid (by unfold Ly.Own; rw [KN.out]; exact hown6)
                     have R6 := Lib.hid (O2.out.row.below B6.out)
                     have y4 : w6.cell? ⟨g, i * 5 + 4, none⟩ = some (.slice x.kp x.kn x.kc) := (R6.out.at (by rw [O2.out.rest i (Nat.le_refl _)]; exact HX.out)) 4 _ rfl
                     have yf : w6.frozen? ⟨g, i * 5 + 4, none⟩ = false := R6.out.frozen (i * 5 + 4)
                     have t6 : w6.cell? ⟨tb, 2, none⟩ = some (.slice (some ⟨g, 0, none⟩) N cap) := (obj_cells (heap_later TB2.out B6.out)).1 2 _ rfl
                     clear hown6 hgrow6 hblk6)
      all_goals
        have O7 := Lib.hid (O.out.step HS.out (BX.out.call B6.out) HX.out HM.out HP.out K6.out)
        have G7 : Hid (w6.grownBy (w6.setCell ⟨g, i * 5 + 4, none⟩ (.slice p6 x.kn c6)) (some g)) := Lib.hid (set_grown w6 g (i * 5 + 4) _)
        obtain ⟨cur, hcur⟩ := O2.out.row.obj (g := g) rfl
        have T7 := Lib.hid ((G7.out.block tb (Array.getElem?_eq_some_iff.1 (heap_later TB2.out B6.out)).1 (fun e => type_ne TB2.out hcur (by decide) (Option.some.inj e))).trans (heap_later TB2.out B6.out))
        have R7 := Lib.hid ((G7.out.block (tb + 1) (Array.getElem?_eq_some_iff.1 (heap_later RB2.out B6.out)).1 (fun e => type_ne RB2.out hcur (by decide) (Option.some.inj e))).trans (heap_later RB2.out B6.out))
        clear y4 yf t2 t6 x4 dl hcur G7 R6 K6 B6 NWI NON LI KN ROW B02
        go_wp2_with fail
        go_roundw
        case rel => exact ⟨i + 1, _, by omega, by go_num, O7, T7, R7⟩
        case measure => simp [intOf]; omega
    · have e : i = N := by omega
      subst e
      have t0 := (obj_cells TB.out).1 0 _ rfl; have t1 := (obj_cells TB.out).1 1 _ rfl; have t2 := (obj_cells TB.out).1 2 _ rfl
      have r0 := (obj_cells RB.out).1 0 _ rfl; have r1 := (obj_cells RB.out).1 1 _ rfl; have r2 := (obj_cells RB.out).1 2 _ rfl
      have rf := (obj_cells RB.out).2.1
      go_wp2_with fail
      refine bodyPost_ret (v := .agg #[.int .i64 root, .int .i64 nx, .slice p i cap]) (by rw [results_cell1 rfl]; go_simp) rfl ?_
      have g2 := setAll_one wr (tb + 1) 0 [.int .i64 root, .int .i64 nx, .slice p i cap]
      exact ⟨vs, rfl, (O.out.whole HN.out).kept g2 RB.out (by decide) (by decide), below_set (below_set (below_set O.out.below (by have := HT.out; omega) _) (by have := HT.out; omega) _) (by have := HT.out; omega) _⟩

end Go.Proofs.Ytdhkjhdbaofdcaa
