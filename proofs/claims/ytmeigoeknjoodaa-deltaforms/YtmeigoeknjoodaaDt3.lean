/-
  The walks of leave, kids and span: a step noted with its sort. Conditions: as each theorem's premises say.
-/
import Derived.Test.YtmeigoeknjoodaaDtA
namespace Go.Proofs.Ytmeigoeknjoodaa
open Go.RowKit

/-- Steps without children; steps whose children lie apart. -/
def NoK (s : List Sv) : Prop := ∀ x ∈ s, x.kv.ownBlock = none
def Apt (s : List Sv) : Prop := ∀ (i j : Nat) (x y : Sv) (g : Nat), s[i]? = some x → s[j]? = some y → i ≠ j → x.kv.ownBlock = some g → y.kv.ownBlock ≠ some g
theorem NoK.add {s : List Sv} (h : NoK s) {x : Sv} (hx : x.kv.ownBlock = none) : NoK (s ++ [x]) := fun y hy => by
  rcases List.mem_append.1 hy with hy | hy
  · exact h y hy
  · simp at hy; subst hy; exact hx
theorem Apt.add {s : List Sv} (h : Apt s) {x : Sv} (hx : ∀ y ∈ s, ∀ g, y.kv.ownBlock = some g → x.kv.ownBlock ≠ some g) : Apt (s ++ [x]) := by
  have key : ∀ (i : Nat) (y : Sv), (s ++ [x])[i]? = some y → (s[i]? = some y) ∨ (i = s.length ∧ y = x) := fun i y hy => by
    by_cases hi : i < s.length
    · rw [List.getElem?_append_left hi] at hy
      exact .inl hy
    · have hi2 : i = s.length := by
        have := (List.getElem?_eq_some_iff.1 hy).1
        simp at this; omega
      subst hi2
      rw [List.getElem?_append_right (Nat.le_refl _), Nat.sub_self] at hy
      simp at hy
      exact .inr ⟨rfl, hy.symm⟩
  intro i j a b g ha hb hij hg he
  rcases key i a ha with h1 | ⟨h1, h1'⟩ <;> rcases key j b hb with h2 | ⟨h2, h2'⟩
  · exact h i j a b g h1 h2 hij hg he
  · subst h2'
    exact hx a (List.mem_of_getElem? h1) g hg he
  · subst h1'
    exact hx b (List.mem_of_getElem? h2) g he hg
  · omega
/-- The sorts hold these steps. -/
def SX (w : World) (base sb : Nat) (d m q p : List St) : Prop := ∃ v0 s0 v1 s1 v2 s2 v3 s3, SS w base sb [(v0, s0, d), (v1, s1, m), (v2, s2, q), (v3, s3, p)] ∧ NoK s0 ∧ NoK s1 ∧ Apt s2 ∧ NoK s3
theorem SX.later {w W : World} {base sb : Nat} {d m q p : List St} (h : SX w base sb d m q p) (hb : Bl w W) : SX W base sb d m q p := by
  obtain ⟨v0, s0, v1, s1, v2, s2, v3, s3, h, hn⟩ := h
  exact ⟨v0, s0, v1, s1, v2, s2, v3, s3, h.later hb, hn⟩
theorem SX.base {w : World} {base sb : Nat} {d m q p : List St} (h : SX w base sb d m q p) : base ≤ w.heap.size := by
  obtain ⟨v0, s0, v1, s1, v2, s2, v3, s3, h, -⟩ := h
  exact Nat.le_trans h.new (Nat.le_of_lt (Array.getElem?_eq_some_iff.1 h.obj).1)
/-- What a method that notes steps leaves. -/
def StP (base sb : Nat) (d m q p : List St) (w : World) (e : Ending) (w' : World) : Prop := e = .returned (.tuple #[]) ∧ Below base w w' ∧ KeepB w w' ∧ SX w' base sb d m q p
theorem StP.lift {base sb : Nat} {d m q p : List St} {w w1 w' : World} {e : Ending} (h : StP base sb d m q p w1 e w') (hb : Bl w w1) (hl : base ≤ w.heap.size) : StP base sb d m q p w e w' :=
  ⟨h.1, Below.trans (Below.mono hb hl) h.2.1, ((KeepB.refl w).later hb).trans h.2.2.1, h.2.2.2⟩
theorem addV (w : World) (base sb k kn kc : Nat) (kp : Option Addr) (rs : List (Value × List Sv × List St)) (v : Value) (vs : List Sv) (ss : List St) (id nd fr tt : Int) (kids : List Int)
    (S : SS w base sb rs) (hk : rs[k]? = some (v, vs, ss)) (hl : ss.length ≤ 100000) (KO : lyI.Own w base (.slice kp kn kc) kids) :
    Calls Try.prog 43 #[.pointer (some ⟨sb, 0, none⟩), .agg #[.int .i64 k, .int .i64 id, .int .i64 nd, .int .i64 fr, .int .i64 tt, .slice kp kn kc]] w (AddP base sb rs k vs ss ⟨k, id, nd, fr, tt, kp, kn, kc⟩ ⟨k, id, nd, fr, tt, kids⟩ w) := by
  obtain ⟨p, c, e⟩ := (S.rows.own k _ hk).row.form
  dsimp only at e
  subst e
  have h1 : vs.length = ss.length := (S.rows.own k _ hk).len
  exact add_any w base sb k vs.length c kn kc p kp rs vs ss id nd fr tt kids S hk rfl (by rw [h1]; exact hl) KO
theorem add0 (w : World) (base sb : Nat) (d m q p : List St) (id : Int) (S : SX w base sb d m q p) (hl : d.length ≤ 100000) :
    Calls Try.prog 43 #[.pointer (some ⟨sb, 0, none⟩), .agg #[.int .i64 0, .int .i64 id, .int .i64 0, .int .i64 0, .int .i64 0, .slice none 0 0]] w (StP base sb (d ++ [⟨0, id, 0, 0, 0, []⟩]) m q p w) := by
  obtain ⟨v0, s0, v1, s1, v2, s2, v3, s3, S, g0, g1, g2, g3⟩ := S
  refine (addV w base sb 0 0 0 none _ v0 s0 d id 0 0 0 [] S rfl hl (Ly.Own.nil _ _)).mono ?_
  rintro e w' ⟨h1, h2, h3, v, h4⟩
  exact ⟨h1, h2, h3, v, _, v1, s1, v2, s2, v3, s3, h4, g0.add rfl, g1, g2, g3⟩
theorem add1 (w : World) (base sb : Nat) (d m q p : List St) (id nd : Int) (S : SX w base sb d m q p) (hl : m.length ≤ 100000) :
    Calls Try.prog 43 #[.pointer (some ⟨sb, 0, none⟩), .agg #[.int .i64 1, .int .i64 id, .int .i64 nd, .int .i64 0, .int .i64 0, .slice none 0 0]] w (StP base sb d (m ++ [⟨1, id, nd, 0, 0, []⟩]) q p w) := by
  obtain ⟨v0, s0, v1, s1, v2, s2, v3, s3, S, g0, g1, g2, g3⟩ := S
  refine (addV w base sb 1 0 0 none _ v1 s1 m id nd 0 0 [] S rfl hl (Ly.Own.nil _ _)).mono ?_
  rintro e w' ⟨h1, h2, h3, v, h4⟩
  exact ⟨h1, h2, h3, v0, s0, v, _, v2, s2, v3, s3, h4, g0, g1.add rfl, g2, g3⟩
theorem add2 (w0 w : World) (hB : Bl w0 w) (base sb kn kc : Nat) (kp : Option Addr) (d m q p : List St) (id : Int) (kids : List Int) (S : SX w0 base sb d m q p) (hl : q.length ≤ 100000) (KO : lyI.Own w w0.heap.size (.slice kp kn kc) kids) :
    Calls Try.prog 43 #[.pointer (some ⟨sb, 0, none⟩), .agg #[.int .i64 2, .int .i64 id, .int .i64 0, .int .i64 0, .int .i64 0, .slice kp kn kc]] w (StP base sb d m (q ++ [⟨2, id, 0, 0, 0, kids⟩]) p w) := by
  obtain ⟨v0, s0, v1, s1, v2, s2, v3, s3, S, g0, g1, g2, g3⟩ := S
  have hbs : base ≤ w0.heap.size := Nat.le_trans S.new (Nat.le_of_lt (Array.getElem?_eq_some_iff.1 S.obj).1)
  refine (addV w base sb 2 kn kc kp _ v2 s2 q id 0 0 0 kids (S.later hB) rfl hl (KO.mono hbs)).mono ?_
  rintro e w' ⟨h1, h2, h3, v, h4⟩
  refine ⟨h1, h2, h3, v0, s0, v1, s1, v, _, v3, s3, h4, g0, g1, g2.add (fun y hy g hg e => ?_), g3⟩
  obtain ⟨i, hi⟩ := List.mem_iff_getElem?.1 hy
  have h0 := S.rows.own 2 _ rfl
  have hl2 : i < s2.length := (List.getElem?_eq_some_iff.1 hi).1
  have h5 := h0.fit i y _ hi (List.getElem?_eq_getElem (show i < q.length by have := h0.len; dsimp only at this; omega))
  have h6 := (h5.2.2.2.2.2.lt hg).2
  have h7 := (KO.lt e).1
  omega
theorem add3 (w : World) (base sb : Nat) (d m q p : List St) (id fr tt : Int) (S : SX w base sb d m q p) (hl : p.length ≤ 100000) :
    Calls Try.prog 43 #[.pointer (some ⟨sb, 0, none⟩), .agg #[.int .i64 3, .int .i64 id, .int .i64 0, .int .i64 fr, .int .i64 tt, .slice none 0 0]] w (StP base sb d m q (p ++ [⟨3, id, 0, fr, tt, []⟩]) w) := by
  obtain ⟨v0, s0, v1, s1, v2, s2, v3, s3, S, g0, g1, g2, g3⟩ := S
  refine (addV w base sb 3 0 0 none _ v3 s3 p id 0 fr tt [] S rfl hl (Ly.Own.nil _ _)).mono ?_
  rintro e w' ⟨h1, h2, h3, v, h4⟩
  exact ⟨h1, h2, h3, v0, s0, v1, s1, v2, s2, v, _, h4, g0, g1, g2, g3.add rfl⟩

set_option maxRecDepth 100000 in
set_option maxHeartbeats 1000000 in
theorem leave_any (w : World) (base sb kn kc : Nat) (kp : Option Addr) (d m q p : List St) (id kd fr tt : Int) (S : SX w base sb d m q p) (hl : d.length ≤ 100000) :
    Calls Try.prog 18 #[.pointer (some ⟨sb, 0, none⟩), .agg #[.int .i64 id, .int .i64 kd, .int .i64 fr, .int .i64 tt, .slice kp kn kc]] w (StP base sb (d ++ [⟨0, id, 0, 0, 0, []⟩]) m q p w) := by
  have AD := Lib.hid (fun (W : World) (hW : Bl w W) => add0 W base sb d m q p id (S.later hW) hl)
  have HB := Lib.hid S.base
  clear S hl
  go_enter Try.func18, Try.ntmps18
  go_wp2_with (go_at_call 43; refine (AD.out _ (Bl.alloc (Bl.refl _) _)).mono ?_; rintro e w1 h1; obtain rfl := h1.1; have H1 := Lib.hid (h1.lift (Bl.alloc (Bl.refl _) _) HB.out); clear h1)
  (try simp only [Exit.inBlock, Exit.then])
  refine bodyPost_ret (results_none rfl _ _ _) rfl ?_
  exact H1.out

set_option maxRecDepth 100000 in
set_option maxHeartbeats 1000000 in
theorem span_any (w : World) (base sb kn kc : Nat) (kp : Option Addr) (d m q p : List St) (id kd fr tt : Int) (S : SX w base sb d m q p) (hl : p.length ≤ 100000) :
    Calls Try.prog 45 #[.pointer (some ⟨sb, 0, none⟩), .agg #[.int .i64 id, .int .i64 kd, .int .i64 fr, .int .i64 tt, .slice kp kn kc]] w (StP base sb d m q (p ++ [⟨3, id, 0, fr, tt, []⟩]) w) := by
  have AD := Lib.hid (fun (W : World) (hW : Bl w W) => add3 W base sb d m q p id fr tt (S.later hW) hl)
  have HB := Lib.hid S.base
  clear S hl
  go_enter Try.func45, Try.ntmps45
  go_wp2_with (go_at_call 43; refine (AD.out _ (Bl.alloc (Bl.refl _) _)).mono ?_; rintro e w1 h1; obtain rfl := h1.1; have H1 := Lib.hid (h1.lift (Bl.alloc (Bl.refl _) _) HB.out); clear h1)
  (try simp only [Exit.inBlock, Exit.then])
  refine bodyPost_ret (results_none rfl _ _ _) rfl ?_
  exact H1.out

set_option maxRecDepth 100000 in
set_option maxHeartbeats 4000000 in
theorem kids_any (w : World) (base sb kn kc : Nat) (kp : Option Addr) (d m q p : List St) (id kd fr tt : Int) (kids : List Int) (S : SX w base sb d m q p) (hl : q.length ≤ 100000) (ROW : lyI.Row w kp kids) (KN : kids.length = kn) (hkn : kn ≤ 100000) :
    Calls Try.prog 44 #[.pointer (some ⟨sb, 0, none⟩), .agg #[.int .i64 id, .int .i64 kd, .int .i64 fr, .int .i64 tt, .slice kp kn kc]] w (StP base sb d m (q ++ [⟨2, id, 0, 0, 0, kids⟩]) p w) := by
  obtain ⟨i0, hi, hz0, hz1, hz2⟩ := info_parts info3
  have HB := Lib.hid S.base
  have AD := Lib.hid (fun (W : World) (c : Nat) (p2 : Option Addr) (hW : Bl w W) (KO : lyI.Own W w.heap.size (.slice p2 kn c) kids) => add2 w W hW base sb kn c p2 d m q p id kids S hl KO)
  have NWI : Hid (∀ W', Below w.heap.size w W' → ∀ ad, kp = some ad → ∀ j u, (lyI.all kids)[j]? = some u → W'.cell? (ad.add j) = some u) := Lib.hid (fun W' hW => ints_news (ROW.below hW))
  have LI : Hid ((lyI.all kids).length = kn * 1) := Lib.hid (by rw [all_len, KN]; rfl)
  have NON : Hid (kp = none → kn = 0) := Lib.hid (fun e => by rw [e] at ROW; rw [← KN]; exact ints_none ROW)
  have KNH := Lib.hid KN
  have XB : Hid ((World.drew (w.alloc (.cells #[.int .i64 id, .int .i64 kd, .int .i64 fr, .int .i64 tt, .slice kp kn kc] 46))).heap[w.heap.size]? = some (.cells #[.int .i64 id, .int .i64 kd, .int .i64 fr, .int .i64 tt, .slice kp kn kc] 46 (0, 0))) := Lib.hid (heap_new rfl _ _)
  have K0 : (World.drew (w.alloc (.cells #[.int .i64 id, .int .i64 kd, .int .i64 fr, .int .i64 tt, .slice kp kn kc] 46))).cell? ⟨w.heap.size, 0, none⟩ = some (.int .i64 id) ∧ (World.drew (w.alloc (.cells #[.int .i64 id, .int .i64 kd, .int .i64 fr, .int .i64 tt, .slice kp kn kc] 46))).cell? ⟨w.heap.size, 4, none⟩ = some (.slice kp kn kc) := ⟨(obj_cells XB.out).1 0 _ rfl, (obj_cells XB.out).1 4 _ rfl⟩
  clear S hl ROW KN
  go_enter Try.func44, Try.ntmps44
  go_wp2_with fail
  go_region_held3 (fun W => W.cell? ⟨w.heap.size, 0, none⟩ = some (.int .i64 id) ∧ W.cell? ⟨w.heap.size, 4, none⟩ = some (.slice kp kn kc)) (first | exact K0 | exact K6 | exact K7 | fail) (first
    | (refine step_append_all _ (by rfl) (.const (.slice none 0 0)) (.tmp 8) 41 (by rfl) w.heap.size 3 i0 _ 1 8 Try.underlying41 hi hz0 hz1 hz2 rfl (by decide) (.slice none 0 0) 0 [] (by rfl) (World.ownsRow_nil _ _ _ _) kp kn kc (lyI.all kids) (by rfl) LI.out NON.out (NWI.out _ (below_drew (below1 (Below.refl _ _) (Nat.le_refl _) _))) (all_ones _) (by unfold maxLen; omega) (by omega) (by simp) kn (by omega) ?_
       intro p2 c2 w6 hown6 hgrow6 hblk6
       have B6 : Hid (Bl w w6) := Lib.hid (Bl.call (Bl.drew (Bl.alloc (Bl.refl w) _)) (below_grownN hgrow6 (fun g hg => by cases hg) (Nat.le_refl _)))
       have O6 : Hid (lyI.Own w6 w.heap.size (.slice p2 kn c2) kids) := Lib.hid (by
         unfold Ly.Own
         rw [KNH.out]
         exact hown6)
       have X6 := Lib.hid (heap_later XB.out (show Bl _ w6 from below_grownN hgrow6 (fun g hg => by cases hg) (Nat.le_refl _)))
       have K6 : w6.cell? ⟨w.heap.size, 0, none⟩ = some (.int .i64 id) ∧ w6.cell? ⟨w.heap.size, 4, none⟩ = some (.slice kp kn kc) := ⟨(obj_cells X6.out).1 0 _ rfl, (obj_cells X6.out).1 4 _ rfl⟩
       clear hown6 hgrow6 hblk6)
    | (go_at_call 43; refine (AD.out _ _ _ B6.out O6.out).mono ?_; rintro e w7 h7; obtain rfl := h7.1; have X7 := h7.2.2.1 _ _ _ (by decide) (by decide) X6.out; have K7 : w7.cell? ⟨w.heap.size, 0, none⟩ = some (.int .i64 id) ∧ w7.cell? ⟨w.heap.size, 4, none⟩ = some (.slice kp kn kc) := ⟨(obj_cells X7).1 0 _ rfl, (obj_cells X7).1 4 _ rfl⟩; have H7 := Lib.hid (h7.lift B6.out HB.out); clear h7 X7))
  all_goals
    go_wp2_with fail
    (try simp only [Exit.inBlock, Exit.then])
    refine bodyPost_ret (results_none rfl _ _ _) rfl ?_
    exact H7.out

end Go.Proofs.Ytmeigoeknjoodaa
