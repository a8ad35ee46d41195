/-
  The walks of come, stay and slices.Equal. Conditions: as each theorem's premises say.
-/
import Derived.Test.YtmeigoeknjoodaaDt3
namespace Go.Proofs.Ytmeigoeknjoodaa
open Go.RowKit

set_option maxRecDepth 100000 in
set_option maxHeartbeats 1000000 in
theorem equal_any (pa pb : Option Addr) (a b : List Int) (na nb ca cb : Nat) (ha : a.length = na) (hb : b.length = nb) (w : World) (ra : lyI.Row w pa a) (rb : lyI.Row w pb b) (hl : na ≤ 140737488355328) : Calls Try.prog 46 #[.slice pa na ca, .slice pb nb cb] w (RetBelow (.returned (.bool (a == b))) w) := by
  have RA := Lib.hid ra; have RB := Lib.hid rb; have HA := Lib.hid ha; have HB := Lib.hid hb
  clear ra rb ha hb
  by_cases hn : na = nb
  · subst hn
    go_enter Try.func46, Try.ntmps46
    go_wp2_with fail
    go_loopw [5, 13] (fun _ v wr => ∃ j : Nat, j ≤ na ∧ v = .int .i64 j ∧ Hid (Below w.heap.size w wr) ∧ Hid (a.take j = b.take j)) (fun _ v _ => na - (intOf v).toNat)
    case atStart => exact ⟨0, by omega, rfl, Lib.hid (Below.refl _ _), Lib.hid (by simp)⟩
    case round =>
      obtain ⟨j, hj, rfl, B, E⟩ := hrel
      by_cases hlt : j < na
      · obtain ⟨x, hx⟩ : ∃ x, a[j]? = some x := ⟨_, List.getElem?_eq_getElem (by rw [HA.out]; exact hlt)⟩
        obtain ⟨y, hy⟩ : ∃ y, b[j]? = some y := ⟨_, List.getElem?_eq_getElem (by rw [HB.out]; exact hlt)⟩
        obtain ⟨ba, oa, rfl, c0⟩ := ints_at RA.out hx
        obtain ⟨bb, ob, rfl, d0⟩ := ints_at RB.out hy
        have c1 := cell_later B.out c0
        have d1 := cell_later B.out d0
        have HX := Lib.hid hx; have HY := Lib.hid hy
        have hi0 : (0 : Int) ≤ (j : Int) := by omega
        have hi1 : (j : Int) < (na : Int) := by omega
        clear c0 d0 hx hy
        by_cases he : x = y
        · have q : (x != y) = false := by simpa using he
          have E' : Hid (a.take (j + 1) = b.take (j + 1)) := Lib.hid (by rw [List.take_add_one, List.take_add_one, E.out, HX.out, HY.out, he])
          subst he
          go_wp2_with fail
          go_quiet (fail)
          go_wp2_with fail
          go_roundw
          case rel => exact ⟨j + 1, by omega, by go_num, Lib.hid (B.out.trans ((dr_below _ _).mono B.out.size)), E'⟩
          case measure => simp [intOf]; omega
        · have q : (x != y) = true := by simpa using he
          have F : Hid ((a == b) = false) := Lib.hid (by
            rw [beq_eq_false_iff_ne]
            intro e
            have h1 := HX.out
            rw [e, HY.out] at h1
            exact he (Option.some.inj h1).symm)
          clear he
          go_wp2_with fail
          go_quiet (fail)
          go_wp2_with fail
          go_ret
          exact ⟨retB (by rw [F.out]), B.out.trans ((dr_below _ _).mono B.out.size)⟩
      · have F : Hid ((a == b) = true) := Lib.hid (by
          have := E.out
          rw [List.take_of_length_le (by rw [HA.out]; omega), List.take_of_length_le (by rw [HB.out]; omega)] at this
          simpa using this)
        go_wp2_with fail
        go_ret
        exact ⟨retB (by rw [F.out]), B.out⟩
  · have F : Hid ((a == b) = false) := Lib.hid (by
      rw [beq_eq_false_iff_ne]
      intro e
      have h1 := HA.out
      rw [e, HB.out] at h1
      exact hn h1.symm)
    have q : ((na : Int) != (nb : Int)) = true := by simp; omega
    clear hn
    go_enter Try.func46, Try.ntmps46
    go_wp2_with fail
    go_ret
    exact ⟨retB (by rw [F.out]), Below.refl _ _⟩

/-- Steps after steps. -/
theorem StP.then {base sb : Nat} {d m q p d' m' q' p' : List St} {w w1 w2 : World} {e e' : Ending} (h : StP base sb d m q p w e w1) (h' : StP base sb d' m' q' p' w1 e' w2) : StP base sb d' m' q' p' w e' w2 :=
  ⟨h'.1, h.2.1.trans h'.2.1, h.2.2.1.trans h'.2.2.1, h'.2.2.2⟩
theorem SX.stp {base sb : Nat} {d m q p : List St} {w w1 : World} (h : SX w base sb d m q p) (hb : Bl w w1) : StP base sb d m q p w (.returned (.tuple #[])) w1 :=
  ⟨rfl, Below.mono hb h.base, (KeepB.refl w).later hb, h.later hb⟩

set_option maxRecDepth 100000 in
set_option maxHeartbeats 4000000 in
theorem come_any (w : World) (base sb kn kc : Nat) (kp : Option Addr) (d m q p : List St) (id kd fr tt : Int) (kids : List Int) (S : SX w base sb d m q p) (hm : m.length ≤ 90000) (hq : q.length ≤ 90000) (hp : p.length ≤ 90000) (ROW : ∀ W, Below base w W → lyI.Row W kp kids) (KN : kids.length = kn) (hkn : kn ≤ 100000) :
    Calls Try.prog 19 #[.pointer (some ⟨sb, 0, none⟩), .agg #[.int .i64 id, .int .i64 kd, .int .i64 fr, .int .i64 tt, .slice kp kn kc]] w (StP base sb d (m ++ [⟨1, id, kd, 0, 0, []⟩]) (q ++ (if (!(kids == [])) = true then [⟨2, id, 0, 0, 0, kids⟩] else [])) (p ++ [⟨3, id, 0, fr, tt, []⟩]) w) := by
  obtain ⟨q', hq'⟩ : ∃ q', q ++ (if (!(kids == [])) = true then [⟨2, id, 0, 0, 0, kids⟩] else []) = q' := ⟨_, rfl⟩
  rw [hq']
  have HQ := Lib.hid hq'
  clear hq'
  have XB : Hid ((w.alloc (.cells #[.int .i64 id, .int .i64 kd, .int .i64 fr, .int .i64 tt, .slice kp kn kc] 46)).heap[w.heap.size]? = some (.cells #[.int .i64 id, .int .i64 kd, .int .i64 fr, .int .i64 tt, .slice kp kn kc] 46 (0, 0))) := Lib.hid (heap_new rfl _ _)
  have H0 : Hid (StP base sb d m q p w (.returned (.tuple #[])) (w.alloc (.cells #[.int .i64 id, .int .i64 kd, .int .i64 fr, .int .i64 tt, .slice kp kn kc] 46))) := Lib.hid (S.stp (Bl.alloc (Bl.refl _) _))
  have RW := Lib.hid ROW; have KNH := Lib.hid KN
  clear S ROW KN
  go_enter Try.func19, Try.ntmps19
  have AD := Lib.hid (add1 _ base sb d m q p id kd H0.out.2.2.2 (by omega))
  go_upto_region 2 with (go_at_call 43; refine AD.out.mono ?_; rintro e w1 h1; obtain rfl := h1.1; have X1 := Lib.hid (h1.2.2.1 _ _ _ (by decide) (by decide) XB.out); have H1 := Lib.hid (H0.out.then h1); clear h1)
  clear XB H0 AD
  have x0 := (obj_cells X1.out).1 0 _ rfl
  have x1 := (obj_cells X1.out).1 1 _ rfl
  have x2 := (obj_cells X1.out).1 2 _ rfl
  have x3 := (obj_cells X1.out).1 3 _ rfl
  have x4 := (obj_cells X1.out).1 4 _ rfl
  by_cases hk : 0 < kn
  · have hb : (!(kids == [])) = true := by
      have := KNH.out
      cases kids with
      | nil => simp at this; omega
      | cons a l => rfl
    have HE : Hid (q ++ [⟨2, id, 0, 0, 0, kids⟩] = q') := Lib.hid (by rw [← HQ.out, if_pos hb])
    have d1 : decide ((0 : Int) < (kn : Int)) = true := decide_eq_true (by omega)
    have KD := Lib.hid (kids_any w1 base sb kn kc kp d (m ++ [⟨1, id, kd, 0, 0, []⟩]) q p id kd fr tt kids H1.out.2.2.2 (by omega) (RW.out _ H1.out.2.1) KNH.out hkn)
    clear hb
    go_upto_region 4 with (go_at_call 44; refine KD.out.mono ?_; rintro e w2 h2; obtain rfl := h2.1; have X2 := Lib.hid (h2.2.2.1 _ _ _ (by decide) (by decide) X1.out); have H2 := Lib.hid (H1.out.then h2); clear h2)
    clear x0 x1 x2 x3 x4 KD H1 X1
    have x0 := (obj_cells X2.out).1 0 _ rfl
    have x1 := (obj_cells X2.out).1 1 _ rfl
    have x2 := (obj_cells X2.out).1 2 _ rfl
    have x3 := (obj_cells X2.out).1 3 _ rfl
    have x4 := (obj_cells X2.out).1 4 _ rfl
    have SP := Lib.hid (span_any w2 base sb kn kc kp d (m ++ [⟨1, id, kd, 0, 0, []⟩]) (q ++ [⟨2, id, 0, 0, 0, kids⟩]) p id kd fr tt H2.out.2.2.2 (by omega))
    go_wp2_with (go_at_call 45; refine SP.out.mono ?_; rintro e w3 h3; obtain rfl := h3.1; have H3 := Lib.hid (H2.out.then h3); clear h3)
    (try simp only [Exit.inBlock, Exit.then])
    refine bodyPost_ret (results_none rfl _ _ _) rfl ?_
    rw [← HE.out]
    exact H3.out
  · have hb : ¬ (!(kids == [])) = true := by
      have := KNH.out
      cases kids with
      | nil => simp
      | cons a l => simp at this; omega
    have HE : Hid (q = q') := Lib.hid (by rw [← HQ.out, if_neg hb, List.append_nil])
    have d1 : decide ((0 : Int) < (kn : Int)) = false := decide_eq_false (by omega)
    have SP := Lib.hid (span_any w1 base sb kn kc kp d (m ++ [⟨1, id, kd, 0, 0, []⟩]) q p id kd fr tt H1.out.2.2.2 (by omega))
    clear hb
    go_wp2_with (go_at_call 45; refine SP.out.mono ?_; rintro e w3 h3; obtain rfl := h3.1; have H3 := Lib.hid (H1.out.then h3); clear h3)
    (try simp only [Exit.inBlock, Exit.then])
    refine bodyPost_ret (results_none rfl _ _ _) rfl ?_
    rw [← HE.out]
    exact H3.out

set_option maxRecDepth 100000 in
set_option maxHeartbeats 4000000 in
theorem stay_any (w : World) (base sb kn kc kn' kc' : Nat) (kp kp' : Option Addr) (d m q p : List St) (id kd fr tt id' kd' fr' tt' : Int) (kids kids' : List Int) (S : SX w base sb d m q p) (hq : q.length ≤ 90000) (hp : p.length ≤ 90000) (ROW : ∀ W, Below base w W → lyI.Row W kp kids) (KN : kids.length = kn) (ROW' : ∀ W, Below base w W → lyI.Row W kp' kids') (KN' : kids'.length = kn') (hkn : kn ≤ 100000) (hkn' : kn' ≤ 100000) :
    Calls Try.prog 20 #[.pointer (some ⟨sb, 0, none⟩), .agg #[.int .i64 id, .int .i64 kd, .int .i64 fr, .int .i64 tt, .slice kp kn kc], .agg #[.int .i64 id', .int .i64 kd', .int .i64 fr', .int .i64 tt', .slice kp' kn' kc']] w
      (StP base sb d m (q ++ (if (!(kids == kids')) = true then [⟨2, id', 0, 0, 0, kids'⟩] else [])) (p ++ (if (!(fr == fr') || !(tt == tt')) = true then [⟨3, id', 0, fr', tt', []⟩] else [])) w) := by
  obtain ⟨q', hq'⟩ : ∃ q', q ++ (if (!(kids == kids')) = true then [⟨2, id', 0, 0, 0, kids'⟩] else []) = q' := ⟨_, rfl⟩
  obtain ⟨p', hp'⟩ : ∃ p', p ++ (if (!(fr == fr') || !(tt == tt')) = true then [⟨3, id', 0, fr', tt', []⟩] else []) = p' := ⟨_, rfl⟩
  rw [hq', hp']
  have HQ := Lib.hid hq'; have HP := Lib.hid hp'
  clear hq' hp'
  have hql : q'.length ≤ 90001 := by
    rw [← HQ.out, List.length_append]
    split <;> simp <;> omega
  have BB : Hid (Bl w ((w.alloc (.cells #[.int .i64 id, .int .i64 kd, .int .i64 fr, .int .i64 tt, .slice kp kn kc] 46)).alloc (.cells #[.int .i64 id', .int .i64 kd', .int .i64 fr', .int .i64 tt', .slice kp' kn' kc'] 46))) := Lib.hid (Bl.alloc (Bl.alloc (Bl.refl _) _) _)
  have XB : Hid (((w.alloc (.cells #[.int .i64 id, .int .i64 kd, .int .i64 fr, .int .i64 tt, .slice kp kn kc] 46)).alloc (.cells #[.int .i64 id', .int .i64 kd', .int .i64 fr', .int .i64 tt', .slice kp' kn' kc'] 46)).heap[w.heap.size]? = some (.cells #[.int .i64 id, .int .i64 kd, .int .i64 fr, .int .i64 tt, .slice kp kn kc] 46 (0, 0))) := Lib.hid (heap_old (heap_new rfl _ _) _)
  have YB : Hid (((w.alloc (.cells #[.int .i64 id, .int .i64 kd, .int .i64 fr, .int .i64 tt, .slice kp kn kc] 46)).alloc (.cells #[.int .i64 id', .int .i64 kd', .int .i64 fr', .int .i64 tt', .slice kp' kn' kc'] 46)).heap[w.heap.size + 1]? = some (.cells #[.int .i64 id', .int .i64 kd', .int .i64 fr', .int .i64 tt', .slice kp' kn' kc'] 46 (0, 0))) := Lib.hid (heap_new (by simp) _ _)
  have SH := Lib.hid S
  have RW := Lib.hid ROW; have KNH := Lib.hid KN; have RW' := Lib.hid ROW'; have KNH' := Lib.hid KN'
  clear S ROW KN ROW' KN'
  go_enter Try.func20, Try.ntmps20
  go_upto_region 1 with fail
  generalize ((w.alloc (.cells #[.int .i64 id, .int .i64 kd, .int .i64 fr, .int .i64 tt, .slice kp kn kc] 46)).alloc (.cells #[.int .i64 id', .int .i64 kd', .int .i64 fr', .int .i64 tt', .slice kp' kn' kc'] 46)) = w1 at BB XB YB ⊢
  have x4 := (obj_cells XB.out).1 4 _ rfl
  have y4 := (obj_cells YB.out).1 4 _ rfl
  have H1 := Lib.hid (SH.out.stp BB.out)
  have EQ := Lib.hid (equal_any kp kp' kids kids' kn kn' kc kc' KNH.out KNH'.out w1 (RW.out _ H1.out.2.1) (RW'.out _ H1.out.2.1) (by omega))
  by_cases he : kids = kids'
  · have hb : (kids == kids') = true := by simpa using he
    rw [hb] at EQ
    have HE2 : Hid (q = q') := Lib.hid (by rw [← HQ.out, if_neg (by simp [hb]), List.append_nil])
    clear he hb
    go_upto_region 3 with (go_at_call 46; refine EQ.out.mono ?_; rintro e w2 ⟨rfl, hb2⟩; have X2 := Lib.hid (heap_later XB.out hb2); have Y2 := Lib.hid (heap_later YB.out hb2); have H2 : Hid (StP base sb d m q' p w (.returned (.tuple #[])) w2) := Lib.hid (by rw [← HE2.out]; exact H1.out.then (H1.out.2.2.2.stp hb2)); clear hb2)
    clear x4 y4
    have x0 := (obj_cells X2.out).1 0 _ rfl
    have y0 := (obj_cells Y2.out).1 0 _ rfl
    have x1 := (obj_cells X2.out).1 1 _ rfl
    have y1 := (obj_cells Y2.out).1 1 _ rfl
    have x2 := (obj_cells X2.out).1 2 _ rfl
    have y2 := (obj_cells Y2.out).1 2 _ rfl
    have x3 := (obj_cells X2.out).1 3 _ rfl
    have y3 := (obj_cells Y2.out).1 3 _ rfl
    have x4 := (obj_cells X2.out).1 4 _ rfl
    have y4 := (obj_cells Y2.out).1 4 _ rfl
    by_cases hfr : fr = fr'
    · have c1 : (fr != fr') = false := by simpa using hfr
      by_cases htt : tt = tt'
      · have c2 : (tt != tt') = false := by simpa using htt
        have HE : Hid (p = p') := Lib.hid (by rw [← HP.out, if_neg (by simp [hfr, htt]), List.append_nil])
        clear hfr htt
        go_wp2_with fail
        (try simp only [Exit.inBlock, Exit.then])
        refine bodyPost_ret (results_none rfl _ _ _) rfl ?_
        rw [← HE.out]
        exact H2.out
      · have c2 : (tt != tt') = true := by simpa using htt
        have HE : Hid (p ++ [⟨3, id', 0, fr', tt', []⟩] = p') := Lib.hid (by rw [← HP.out, if_pos (by simp [htt])])
        have SP := Lib.hid (span_any w2 base sb kn' kc' kp' d m q' p id' kd' fr' tt' H2.out.2.2.2 (by omega))
        rw [HE.out] at SP
        clear hfr htt
        go_wp2_with (go_at_call 45; refine SP.out.mono ?_; rintro e w3 h3; obtain rfl := h3.1; have H3 := Lib.hid (H2.out.then h3); clear h3)
        (try simp only [Exit.inBlock, Exit.then])
        refine bodyPost_ret (results_none rfl _ _ _) rfl ?_
        exact H3.out
    · have c1 : (fr != fr') = true := by simpa using hfr
      have HE : Hid (p ++ [⟨3, id', 0, fr', tt', []⟩] = p') := Lib.hid (by rw [← HP.out, if_pos (by simp [hfr])])
      have SP := Lib.hid (span_any w2 base sb kn' kc' kp' d m q' p id' kd' fr' tt' H2.out.2.2.2 (by omega))
      rw [HE.out] at SP
      clear hfr
      go_wp2_with (go_at_call 45; refine SP.out.mono ?_; rintro e w3 h3; obtain rfl := h3.1; have H3 := Lib.hid (H2.out.then h3); clear h3)
      (try simp only [Exit.inBlock, Exit.then])
      refine bodyPost_ret (results_none rfl _ _ _) rfl ?_
      exact H3.out
  · have hb : (kids == kids') = false := by simpa using he
    rw [hb] at EQ
    have HE2 : Hid (q ++ [⟨2, id', 0, 0, 0, kids'⟩] = q') := Lib.hid (by rw [← HQ.out, if_pos (by simp [hb])])
    clear he hb
    go_upto_region 2 with (go_at_call 46; refine EQ.out.mono ?_; rintro e w2 ⟨rfl, hb2⟩; have X2 := Lib.hid (heap_later XB.out hb2); have Y2 := Lib.hid (heap_later YB.out hb2); have H2 := Lib.hid (H1.out.then (H1.out.2.2.2.stp hb2)); clear hb2)
    clear x4 y4
    have KD := Lib.hid (kids_any w2 base sb kn' kc' kp' d m q p id' kd' fr' tt' kids' H2.out.2.2.2 (by omega) (RW'.out _ H2.out.2.1) KNH'.out hkn')
    rw [HE2.out] at KD
    have y0 := (obj_cells Y2.out).1 0 _ rfl
    have y1 := (obj_cells Y2.out).1 1 _ rfl
    have y2 := (obj_cells Y2.out).1 2 _ rfl
    have y3 := (obj_cells Y2.out).1 3 _ rfl
    have y4 := (obj_cells Y2.out).1 4 _ rfl
    go_upto_region 3 with (go_at_call 44; refine KD.out.mono ?_; rintro e w3 h3; obtain rfl := h3.1; have X3 := Lib.hid (h3.2.2.1 _ _ _ (by decide) (by decide) X2.out); have Y3 := Lib.hid (h3.2.2.1 _ _ _ (by decide) (by decide) Y2.out); have H3' := Lib.hid (H2.out.then h3); clear h3)
    clear y0 y1 y2 y3 y4
    have x0 := (obj_cells X3.out).1 0 _ rfl
    have y0 := (obj_cells Y3.out).1 0 _ rfl
    have x1 := (obj_cells X3.out).1 1 _ rfl
    have y1 := (obj_cells Y3.out).1 1 _ rfl
    have x2 := (obj_cells X3.out).1 2 _ rfl
    have y2 := (obj_cells Y3.out).1 2 _ rfl
    have x3 := (obj_cells X3.out).1 3 _ rfl
    have y3 := (obj_cells Y3.out).1 3 _ rfl
    have x4 := (obj_cells X3.out).1 4 _ rfl
    have y4 := (obj_cells Y3.out).1 4 _ rfl
    by_cases hfr : fr = fr'
    · have c1 : (fr != fr') = false := by simpa using hfr
      by_cases htt : tt = tt'
      · have c2 : (tt != tt') = false := by simpa using htt
        have HE : Hid (p = p') := Lib.hid (by rw [← HP.out, if_neg (by simp [hfr, htt]), List.append_nil])
        clear hfr htt
        go_wp2_with fail
        (try simp only [Exit.inBlock, Exit.then])
        refine bodyPost_ret (results_none rfl _ _ _) rfl ?_
        rw [← HE.out]
        exact H3'.out
      · have c2 : (tt != tt') = true := by simpa using htt
        have HE : Hid (p ++ [⟨3, id', 0, fr', tt', []⟩] = p') := Lib.hid (by rw [← HP.out, if_pos (by simp [htt])])
        have SP := Lib.hid (span_any w3 base sb kn' kc' kp' d m q' p id' kd' fr' tt' H3'.out.2.2.2 (by omega))
        rw [HE.out] at SP
        clear hfr htt
        go_wp2_with (go_at_call 45; refine SP.out.mono ?_; rintro e w3 h3; obtain rfl := h3.1; have H3 := Lib.hid (H3'.out.then h3); clear h3)
        (try simp only [Exit.inBlock, Exit.then])
        refine bodyPost_ret (results_none rfl _ _ _) rfl ?_
        exact H3.out
    · have c1 : (fr != fr') = true := by simpa using hfr
      have HE : Hid (p ++ [⟨3, id', 0, fr', tt', []⟩] = p') := Lib.hid (by rw [← HP.out, if_pos (by simp [hfr])])
      have SP := Lib.hid (span_any w3 base sb kn' kc' kp' d m q' p id' kd' fr' tt' H3'.out.2.2.2 (by omega))
      rw [HE.out] at SP
      clear hfr
      go_wp2_with (go_at_call 45; refine SP.out.mono ?_; rintro e w3 h3; obtain rfl := h3.1; have H3 := Lib.hid (H3'.out.then h3); clear h3)
      (try simp only [Exit.inBlock, Exit.then])
      refine bodyPost_ret (results_none rfl _ _ _) rfl ?_
      exact H3.out

end Go.Proofs.Ytmeigoeknjoodaa
