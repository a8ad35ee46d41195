/-
  Dt5, Dt6, Dt7, in one text. Conditions: as each theorem's premises say.
-/
import Derived.Test.YtmeigoeknjoodaaDt4
import Derived.Test.YtmeigoeknjoodaaSp1
import Derived.Lib.AppendZeros
import Derived.Test.YtmeigoeknjoodaaDe6
namespace Go.Proofs.Ytmeigoeknjoodaa
open Go.RowKit

theorem zero_size (z : Array Value) (n : Nat) : (Builtin.zeroCells z n).size = n * z.size := by simp [Builtin.zeroCells]
theorem own_news {α : Type} {L : Ly α} {w : World} {base n c : Nat} {p : Option Addr} {xs : List α} (h : L.Own w base (.slice p n c) xs) : ∀ ad, p = some ad → ∀ j u, (L.all xs)[j]? = some u → w.cell? (ad.add j) = some u := by
  intro ad hp j u hu
  rcases h.2 with ⟨hv, hn⟩ | ⟨g, _, _, hv, _⟩
  · cases hv; cases hp
  · cases hv
    cases hp
    exact World.ownsRow.cells h (g := g) rfl _ _ hu
theorem own_none {α : Type} {L : Ly α} {w : World} {base n c : Nat} {p : Option Addr} {xs : List α} (h : L.Own w base (.slice p n c) xs) : p = none → n = 0 := by
  intro hp
  rcases h.2 with ⟨hv, hn⟩ | ⟨g, _, _, hv, _⟩
  · cases hv; rfl
  · cases hv; cases hp

def GrowP (w : World) (e : Ending) (w' : World) : Prop := ∃ v, e = .returned v ∧ lyS.Own w' w.heap.size v [] ∧ Below w.heap.size w w'

set_option maxRecDepth 100000 in
set_option maxHeartbeats 1000000 in
theorem grow_any (n : Nat) (hn : n ≤ 400000) (w : World) : Calls Try.prog 47 #[.slice none 0 0, .int .i64 n] w (GrowP w) := by
  obtain ⟨i8, hi8, hz08, hz18, hz28⟩ := info_parts info68
  by_cases h0 : n = 0
  · subst h0
    go_enter Try.func47, Try.ntmps47
    go_wp2_with fail
    go_ret
    exact ⟨_, rfl, Ly.Own.nil _ _, Below.refl _ _⟩
  · have hp : decide ((0 : Int) < (n : Int)) = true := decide_eq_true (by omega)
    have hneg : decide ((n : Int) < 0) = false := decide_eq_false (by omega)
    have RUN := Lib.hid (Lib.run_append_nil_zeros (P := Try.prog) w 26 3 26 43 i8 _ .i64 .i64 Try.underlying26 Try.underlying3 hi8 hz08 n (by omega) (by rw [hz18]; omega) (by omega) (by rw [hz28]; omega))
    go_enter Try.func47, Try.ntmps47
    go_wp2_with (at_builtin; refine Lib.wpList_append_run _ rfl _ _ _ _ rfl _ _ rfl rfl _ _ RUN.out ?_)
    go_ret
    refine ⟨_, rfl, ?_, below_drew ((Below.refl _ _).alloc (Nat.le_refl _) _)⟩
    refine ⟨rfl, .inr ⟨w.heap.size, grownCap w n 0 43, _, rfl, Nat.le_refl _, heap_alloc_new w _, Nat.zero_le _, grownCap_le_maxLen w n 0 43 (by unfold maxLen; omega), ?_, ?_⟩⟩
    · have hge := grownCap_ge w n 0 43
      show _ = grownCap w n 0 43 * 6
      rw [Array.size_append, zero_size, zero_size]
      show n * 6 + (grownCap w n 0 43 - n) * 6 = _
      omega
    · show List.take (0 * 6) _ = []
      rw [Nat.zero_mul, List.take_zero]

/-- What is read of the sorts. -/
def lensT (rs : List (Value × List Sv × List St)) (j : Nat) : Nat := ((rs.take j).map (fun r => r.2.1.length)).sum
theorem lens_succ {rs : List (Value × List Sv × List St)} {j : Nat} {r : Value × List Sv × List St} (h : rs[j]? = some r) : lensT rs (j + 1) = lensT rs j + r.2.1.length := by
  unfold lensT
  rw [List.take_add_one, h]; simp
def rowsT (rs : List (Value × List Sv × List St)) (j : Nat) : List Sv := (rs.take j).flatMap (fun r => r.2.1)
theorem rows_succ {rs : List (Value × List Sv × List St)} {j : Nat} {r : Value × List Sv × List St} (h : rs[j]? = some r) : rowsT rs (j + 1) = rowsT rs j ++ r.2.1 := by
  unfold rowsT
  rw [List.take_add_one, h]; simp
theorem rows_len (rs : List (Value × List Sv × List St)) (j : Nat) : (rowsT rs j).length = lensT rs j := by
  unfold rowsT lensT
  rw [List.length_flatMap]

def CatP (rs : List (Value × List Sv × List St)) (w : World) (e : Ending) (w' : World) : Prop := ∃ p c, e = .returned (.slice p (lensT rs 4) c) ∧ lyS.Own w' w.heap.size (.slice p (lensT rs 4) c) (rowsT rs 4) ∧ Below w.heap.size w w'

set_option maxRecDepth 100000 in
set_option maxHeartbeats 4000000 in
theorem concat_any (w : World) (base sb : Nat) (rs : List (Value × List Sv × List St)) (S : SS w base sb rs) (hl : ∀ r ∈ rs, r.2.1.length ≤ 90000) : Calls Try.prog 21 #[.slice (some ⟨sb, 0, none⟩) 4 4] w (CatP rs w) := by
  obtain ⟨i8, hi8, hz08, hz18, hz28⟩ := info_parts info68
  have SH := Lib.hid S; have HL := Lib.hid hl
  have T4 : ∀ j, j ≤ 4 → lensT rs j ≤ j * 90000 := by
    intro j
    induction j with
    | zero => intro _; simp [lensT]
    | succ j ih =>
      intro hj
      obtain ⟨r, hr⟩ : ∃ r, rs[j]? = some r := ⟨_, List.getElem?_eq_getElem (by rw [S.four]; omega)⟩
      have := hl r (List.mem_of_getElem? hr)
      have := ih (by omega)
      rw [lens_succ hr]; omega
  have HT := Lib.hid T4
  have GR := Lib.hid (grow_any (lensT rs 4) (by have := T4 4 (by omega); omega))
  clear S hl T4
  go_enter Try.func21, Try.ntmps21
  go_wp2_with fail
  go_loopw [11, 5, 3] (fun v11 _ v3 wr => ∃ j T : Nat, j ≤ 4 ∧ v11 = .int .i64 j ∧ v3 = .int .i64 T ∧ Hid (lensT rs j = T) ∧ wr = w) (fun v _ _ _ => 4 - (intOf v).toNat)
  case atStart => exact ⟨0, 0, by omega, rfl, rfl, Lib.hid rfl, rfl⟩
  case round =>
    obtain ⟨j, T, hj, rfl, rfl, HJ, rfl⟩ := hrel
    have hT : T ≤ 360000 := by have := HT.out j hj; rw [HJ.out] at this; omega
    by_cases hlt : j < 4
    · obtain ⟨⟨v, vs, ss⟩, hr⟩ : ∃ r, rs[j]? = some r := ⟨_, List.getElem?_eq_getElem (by rw [SH.out.four]; omega)⟩
      obtain ⟨p, c, e⟩ := (SH.out.rows.own j _ hr).row.form
      dsimp only at e
      subst e
      have hv : vs.length ≤ 90000 := HL.out _ (List.mem_of_getElem? hr)
      have LS := lens_succ hr
      dsimp only at LS
      rw [HJ.out] at LS
      have LSH := Lib.hid LS
      have c0 : wr.cell? ⟨sb, j, none⟩ = some (.slice p vs.length c) := (obj_cells SH.out.obj).1 j _ (by simp [hr])
      generalize vs.length = M at *
      have hi0 : (0 : Int) ≤ (j : Int) := by omega
      have hi1 : (j : Int) < 4 := by omega
      clear hr LS
      go_wp2_with fail
      go_roundw
      case rel => exact ⟨j + 1, T + M, by omega, by go_num, by go_num, LSH, trivial⟩
      case measure => simp [intOf]; omega
    · have ej : j = 4 := by omega
      subst ej
      rw [HJ.out] at GR
      obtain ⟨wo, hwo⟩ : ∃ W, W = wr := ⟨_, rfl⟩
      subst hwo
      go_wp2_with (go_at_call 47; refine (GR.out _).mono ?_; rintro e w1 ⟨v, rfl, o1, hb1⟩; have O1 := Lib.hid o1; have B1 := Lib.hid (show Bl wo w1 from hb1); clear o1 hb1)
      go_loopw [27, 8, 6] (fun v27 _ v6 wq => ∃ j : Nat, j ≤ 4 ∧ v27 = .int .i64 j ∧ Hid (Bl wo wq) ∧ Hid (lyS.Own wq wo.heap.size v6 (rowsT rs j))) (fun v _ _ _ => 4 - (intOf v).toNat)
      case atStart => exact ⟨0, by omega, rfl, B1, O1⟩
      case round =>
        clear O1 B1
        obtain ⟨j, hj2, rfl, B, O⟩ := hrel
        obtain ⟨p6, c6, e6⟩ := O.out.form
        subst e6
        have RLn := rows_len rs j
        obtain ⟨M6, hM6⟩ : ∃ M, (rowsT rs j).length = M := ⟨_, rfl⟩
        rw [hM6] at O ⊢ RLn
        have M6l : M6 ≤ 360000 := by have := HT.out j hj2; omega
        have HM6 := Lib.hid hM6
        clear hM6 RLn
        by_cases hjl : j < 4
        · obtain ⟨⟨v, vs, ss⟩, hr⟩ : ∃ r, rs[j]? = some r := ⟨_, List.getElem?_eq_getElem (by rw [SH.out.four]; omega)⟩
          have S2 := SH.out.later B.out
          have row := (S2.rows.own j _ hr).row
          dsimp only at row
          obtain ⟨p, c, e⟩ := row.form
          subst e
          have hv : vs.length ≤ 90000 := HL.out _ (List.mem_of_getElem? hr)
          have RS2 := rows_succ hr
          dsimp only at RS2
          have HRS := Lib.hid RS2
          have c0 : wr.cell? ⟨sb, j, none⟩ = some (.slice p vs.length c) := (obj_cells S2.obj).1 j _ (by simp [hr])
          have NEWS := Lib.hid (own_news row)
          have NON := Lib.hid (own_none row)
          obtain ⟨M, hM⟩ : ∃ M, vs.length = M := ⟨_, rfl⟩
          have LI : Hid ((lyS.all vs).length = M * 6) := Lib.hid (by rw [all_len, hM]; rfl)
          have OWN : Hid (wr.ownsRow wo.heap.size 43 6 (.slice p6 M6 c6) M6 (lyS.all (rowsT rs j))) := Lib.hid (by
            have := O.out
            unfold Ly.Own at this
            rwa [HM6.out] at this)
          rw [hM] at c0 hv NON
          have HMM := Lib.hid hM
          have hi0 : (0 : Int) ≤ (j : Int) := by omega
          have hi1 : (j : Int) < 4 := by omega
          clear hr RS2 row S2 hM
          go_wp2_with (at_builtin; refine wpList_append_all _ rfl _ _ 26 rfl wo.heap.size 43 i8 _ 6 64 Try.underlying26 hi8 hz08 hz18 hz28 rfl (by decide) (.slice p6 M6 c6) M6 (lyS.all (rowsT rs j)) rfl OWN.out p M c (lyS.all vs) rfl LI.out NON.out NEWS.out (all_ones _) (by unfold maxLen; omega) (by omega) B.out.size (M6 + M) rfl ?_; intro p7 c7 w7 hown7 hgrow7 hblk7; have O7 := Lib.hid hown7; have G7 := Lib.hid hgrow7; clear hown7 hgrow7 hblk7)
          go_roundw
          case rel => exact ⟨j + 1, by omega, by go_num, Lib.hid (Below.trans B.out (below_grownN G7.out (fun g e => (O.out.lt e).1) B.out.size)), Lib.hid (by
            unfold Ly.Own
            rw [HRS.out, List.length_append, HM6.out, HMM.out, all_app]
            exact O7.out)⟩
          case measure => simp [intOf]; omega
        · have ej : j = 4 := by omega
          subst ej
          have e1 : M6 = lensT rs 4 := by rw [← rows_len, HM6.out]
          go_wp2_with fail
          go_ret
          subst e1
          exact ⟨p6, c6, rfl, O.out, B.out⟩

/-- The nodes gone over of either row lie ahead of those that are left of the other one. -/
structure Sep (a b : List Nd) (i j : Nat) : Prop where
  l : ∀ x ∈ a.take i, ∀ y ∈ b.drop j, x.id < y.id
  r : ∀ y ∈ b.take j, ∀ x ∈ a.drop i, y.id < x.id
theorem Sep.zero (a b : List Nd) : Sep a b 0 0 := ⟨by simp, by simp⟩
theorem Sep.swap {a b : List Nd} {i j : Nat} (h : Sep a b i j) : Sep b a j i := ⟨h.r, h.l⟩
theorem rises_drop : ∀ {a : List Nd} (i : Nat), risesB a = true → risesB (a.drop i) = true
  | _, 0, h => h
  | [], _ + 1, h => h
  | _ :: a, i + 1, h => rises_drop (a := a) i (rises_cons.1 h).2
theorem rises_at {a : List Nd} {i : Nat} {x : Nd} (h : risesB a = true) (hx : a[i]? = some x) : ∀ z ∈ a.drop (i + 1), x.id < z.id := by
  have h1 := rises_drop i h
  rw [drop_at hx] at h1
  exact (rises_cons.1 h1).1
theorem mem_take_succ {a : List Nd} {i : Nat} {x z : Nd} (hx : a[i]? = some x) (h : z ∈ a.take (i + 1)) : z ∈ a.take i ∨ z = x := by
  rw [List.take_add_one, hx] at h
  rcases List.mem_append.1 h with h | h
  · exact .inl h
  · simp at h; exact .inr h
theorem mem_drop_succ {a : List Nd} {i : Nat} {z : Nd} (h : z ∈ a.drop (i + 1)) : z ∈ a.drop i := by
  rw [← List.drop_drop] at h
  exact List.mem_of_mem_drop h
theorem mem_parts {a : List Nd} {z : Nd} (i : Nat) (h : z ∈ a) : z ∈ a.take i ∨ z ∈ a.drop i := by
  rw [← List.take_append_drop i a] at h
  exact List.mem_append.1 h
theorem at_drop {a : List Nd} {i : Nat} {x z : Nd} (h : risesB a = true) (hx : a[i]? = some x) (hz : z ∈ a.drop i) : x.id ≤ z.id := by
  rw [drop_at hx] at hz
  rcases List.mem_cons.1 hz with rfl | hz
  · exact Int.le_refl _
  · exact Int.le_of_lt (rises_at h hx z hz)
theorem mem_at {a : List Nd} {i : Nat} {x : Nd} (hx : a[i]? = some x) : x ∈ a.drop i := by
  rw [drop_at hx]; exact List.mem_cons_self ..
/-- The first one's next node is not in the second row. -/
theorem Sep.lt {a b : List Nd} {i j : Nat} {x : Nd} (s : Sep a b i j) (hx : a[i]? = some x) (hlt : ∀ z ∈ b.drop j, x.id < z.id) : getN b x.id = none ∧ Sep a b (i + 1) j := by
  refine ⟨get_none.2 (fun z hz e => ?_), ⟨fun z hz y hy => ?_, fun y hy z hz => s.r y hy z (mem_drop_succ hz)⟩⟩
  · rcases mem_parts j hz with h | h
    · have := s.r z h x (mem_at hx); omega
    · have := hlt z h; omega
  · rcases mem_take_succ hx hz with h | rfl
    · exact s.l z h y hy
    · exact hlt y hy
theorem Sep.eq {a b : List Nd} {i j : Nat} {x y : Nd} (s : Sep a b i j) (ra : risesB a = true) (rb : risesB b = true) (hx : a[i]? = some x) (hy : b[j]? = some y) (he : x.id = y.id) : getN a y.id = some x ∧ getN b x.id = some y ∧ Sep a b (i + 1) (j + 1) := by
  refine ⟨?_, ?_, ⟨fun z hz u hu => ?_, fun u hu z hz => ?_⟩⟩
  · rw [← he]; exact get_mem (rises_nodup ra) (List.mem_of_getElem? hx)
  · rw [he]; exact get_mem (rises_nodup rb) (List.mem_of_getElem? hy)
  · rcases mem_take_succ hx hz with h | rfl
    · exact s.l z h u (mem_drop_succ hu)
    · rw [he]; exact rises_at rb hy u hu
  · rcases mem_take_succ hy hu with h | rfl
    · exact s.r u h z (mem_drop_succ hz)
    · rw [← he]; exact rises_at ra hx z hz

/-- What is noted of a node that is new. -/
theorem come_is {a b : List Nd} {j : Nat} {y : Nd} (hy : b[j]? = some y) (hg : getN a y.id = none) (hf : 0 ≤ y.fr) :
    makesL a (b.take (j + 1)) = makesL a (b.take j) ++ [⟨1, y.id, y.kd, 0, 0, []⟩] ∧ kidsL a (b.take (j + 1)) = kidsL a (b.take j) ++ (if (!(y.kids == [])) = true then [⟨2, y.id, 0, 0, 0, y.kids⟩] else []) ∧
    spansL a (b.take (j + 1)) = spansL a (b.take j) ++ [⟨3, y.id, 0, y.fr, Nd.to y, []⟩] ∧ kindsB a (b.take (j + 1)) = kindsB a (b.take j) := by
  have hw : wasN a y = noN := by unfold wasN; rw [hg]; rfl
  refine ⟨?_, ?_, ?_, ?_⟩
  · rw [makes_take hy, hg]; rfl
  · rw [kids_takeL hy, hw]; rfl
  · rw [spans_take hy, hw]
    have : (y.fr == (noN).fr) = false := beq_eq_false_iff_ne.2 (by show y.fr ≠ -1; omega)
    rw [this]; rfl
  · rw [kinds_take hy, hg, Bool.and_true]
/-- What is noted of a node that is in both. -/
theorem stay_is {a b : List Nd} {j : Nat} {x y : Nd} (hy : b[j]? = some y) (hg : getN a y.id = some x) :
    makesL a (b.take (j + 1)) = makesL a (b.take j) ∧ kidsL a (b.take (j + 1)) = kidsL a (b.take j) ++ (if (!(x.kids == y.kids)) = true then [⟨2, y.id, 0, 0, 0, y.kids⟩] else []) ∧
    spansL a (b.take (j + 1)) = spansL a (b.take j) ++ (if (!(x.fr == y.fr) || !(Nd.to x == Nd.to y)) = true then [⟨3, y.id, 0, y.fr, Nd.to y, []⟩] else []) ∧ kindsB a (b.take (j + 1)) = (kindsB a (b.take j) && (x.kd == y.kd)) := by
  have hw : wasN a y = x := by unfold wasN; rw [hg]; rfl
  refine ⟨?_, ?_, ?_, ?_⟩
  · rw [makes_take hy, hg]; simp
  · rw [kids_takeL hy, hw, Bool.beq_comm]
  · rw [spans_take hy, hw, Bool.beq_comm, Bool.beq_comm (a := Nd.to y)]
  · rw [kinds_take hy, hg]
theorem gone_is {a b : List Nd} {i : Nat} {x : Nd} (hx : a[i]? = some x) (hg : getN b x.id = none) : dropsL (a.take (i + 1)) b = dropsL (a.take i) b ++ [⟨0, x.id, 0, 0, 0, []⟩] := by
  rw [drops_take hx, hg]; rfl
theorem kept_is {a b : List Nd} {i : Nat} {x y : Nd} (hx : a[i]? = some x) (hg : getN b x.id = some y) : dropsL (a.take (i + 1)) b = dropsL (a.take i) b := by
  rw [drops_take hx, hg]; simp
theorem few_steps {a b : List Nd} {i j : Nat} (hi : i ≤ 2048) (hj : j ≤ 2048) : (dropsL (a.take i) b).length ≤ 2048 ∧ (makesL a (b.take j)).length ≤ 2048 ∧ (kidsL a (b.take j)).length ≤ 2048 ∧ (spansL a (b.take j)).length ≤ 2048 := by
  refine ⟨?_, ?_, ?_, ?_⟩ <;> refine Nat.le_trans (len_filter _ _ _) ?_ <;> rw [List.length_take] <;> omega

set_option maxRecDepth 100000 in
set_option maxHeartbeats 4000000 in
theorem between_no (w : World) (a : List Nd) (ra na : Int) (pa : Option Addr) (A ca : Nat) (b : List Nd) (rb nb : Int) (pb : Option Addr) (B cb : Nat) (hA : a.length = A) (hB : b.length = B) (ha : NodesR w pa a) (hb : NodesR w pb b) (la : A ≤ 140737488355328) (lb : B ≤ 140737488355328) (ka : ∀ x ∈ a, x.kids.length ≤ 140737488355328) (kb : ∀ x ∈ b, x.kids.length ≤ 140737488355328)
    (h : mayB a ra na (endN a ra) = false ∨ mayB b rb nb (endN b rb) = false ∨ ra ≠ rb) : Calls Try.prog 8 #[trV ra na pa A ca, trV rb nb pb B cb] w (DelNo w) := by
  have MA := Lib.hid (fun (W : World) (hW : Bl w W) => dmay_any ra na pa a A ca hA W (ha.below hW) la ka)
  have MB := Lib.hid (fun (W : World) (hW : Bl w W) => dmay_any rb nb pb b B cb hB W (hb.below hW) lb kb)
  unfold trV at *
  have BW : Hid (Bl w ((w.alloc (.cells #[.int .i64 ra, .int .i64 na, .slice pa A ca] 24)).alloc (.cells #[.int .i64 rb, .int .i64 nb, .slice pb B cb] 24))) := Lib.hid (Bl.alloc (Bl.alloc (Bl.refl _) _) _)
  have XB : Hid (((w.alloc (.cells #[.int .i64 ra, .int .i64 na, .slice pa A ca] 24)).alloc (.cells #[.int .i64 rb, .int .i64 nb, .slice pb B cb] 24)).heap[w.heap.size]? = some (.cells #[.int .i64 ra, .int .i64 na, .slice pa A ca] 24 (0, 0))) := Lib.hid (heap_old (heap_new rfl _ _) _)
  have YB : Hid (((w.alloc (.cells #[.int .i64 ra, .int .i64 na, .slice pa A ca] 24)).alloc (.cells #[.int .i64 rb, .int .i64 nb, .slice pb B cb] 24)).heap[w.heap.size + 1]? = some (.cells #[.int .i64 rb, .int .i64 nb, .slice pb B cb] 24 (0, 0))) := Lib.hid (heap_new (by simp) _ _)
  have HH := Lib.hid h
  clear ha hb hA hB la lb ka kb h
  go_enter Try.func8, Try.ntmps8
  go_upto_region 1 with fail
  generalize ((w.alloc (.cells #[.int .i64 ra, .int .i64 na, .slice pa A ca] 24)).alloc (.cells #[.int .i64 rb, .int .i64 nb, .slice pb B cb] 24)) = w2 at BW XB YB ⊢
  have xA : ∀ (n : Nat) (v : Value), (#[.int .i64 ra, .int .i64 na, .slice pa A ca] : Array Value)[n]? = some v → ∀ W, Bl w2 W → W.cell? ⟨w.heap.size, n, none⟩ = some v := fun n v hv W hW => hW.cell ((obj_cells XB.out).1 n v hv)
  have yA : ∀ (n : Nat) (v : Value), (#[.int .i64 rb, .int .i64 nb, .slice pb B cb] : Array Value)[n]? = some v → ∀ W, Bl w2 W → W.cell? ⟨w.heap.size + 1, n, none⟩ = some v := fun n v hv W hW => hW.cell ((obj_cells YB.out).1 n v hv)
  have x0 := xA 0 (.int .i64 ra) rfl; have x1 := xA 1 (.int .i64 na) rfl; have x2 := xA 2 (.slice pa A ca) rfl
  have y0 := yA 0 (.int .i64 rb) rfl; have y1 := yA 1 (.int .i64 nb) rfl; have y2 := yA 2 (.slice pb B cb) rfl
  have z0 := x0 w2 (Bl.refl _); have z1 := x1 w2 (Bl.refl _); have z2 := x2 w2 (Bl.refl _)
  have u0 := y0 w2 (Bl.refl _); have u1 := y1 w2 (Bl.refl _); have u2 := y2 w2 (Bl.refl _)
  clear xA yA
  cases h1 : mayB a ra na (endN a ra) with
  | false =>
    rw [h1] at MA
    clear h1
    go_wp2_with (go_at_call_of 17 (Value.slice pa A ca); refine (MA.out _ BW.out).mono ?_; rintro e w3 ⟨rfl, hb3⟩; have B3 := Lib.hid (show Bl w2 w3 from hb3); clear hb3)
    go_ret2
    exact ⟨rfl, BW.out.call B3.out⟩
  | true =>
    rw [h1] at MA HH
    clear h1
    cases h2 : mayB b rb nb (endN b rb) with
    | false =>
      rw [h2] at MB
      clear h2
      go_wp2_with (first | (go_at_call_of 17 (Value.slice pa A ca); refine (MA.out _ BW.out).mono ?_; rintro e w3 ⟨rfl, hb3⟩; have B3 := Lib.hid (show Bl w2 w3 from hb3); have u0' := y0 _ hb3; have u1' := y1 _ hb3; have u2' := y2 _ hb3; clear hb3) | (go_at_call_of 17 (Value.slice pb B cb); refine (MB.out _ (BW.out.call B3.out)).mono ?_; rintro e w4 ⟨rfl, hb4⟩; have B4 := Lib.hid (B3.out.call hb4); clear hb4))
      go_ret2
      exact ⟨rfl, BW.out.call B4.out⟩
    | true =>
      rw [h2] at MB HH
      clear h2
      have hr : (ra != rb) = true := by
        rcases HH.out with h | h | h
        · cases h
        · cases h
        · simpa using h
      go_wp2_with (first | (go_at_call_of 17 (Value.slice pa A ca); refine (MA.out _ BW.out).mono ?_; rintro e w3 ⟨rfl, hb3⟩; have B3 := Lib.hid (show Bl w2 w3 from hb3); have u0' := y0 _ hb3; have u1' := y1 _ hb3; have u2' := y2 _ hb3; clear hb3) | (go_at_call_of 17 (Value.slice pb B cb); refine (MB.out _ (BW.out.call B3.out)).mono ?_; rintro e w4 ⟨rfl, hb4⟩; have B4 := Lib.hid (B3.out.call hb4); have v0' := x0 _ (B3.out.call hb4); have v1' := y0 _ (B3.out.call hb4); clear hb4))
      go_ret2
      exact ⟨rfl, BW.out.call B4.out⟩

end Go.Proofs.Ytmeigoeknjoodaa
