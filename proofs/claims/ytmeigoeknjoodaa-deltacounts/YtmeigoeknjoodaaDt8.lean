/-
  The walk of delta's Between where both trees may be. Conditions: as the theorem's premises say.
-/
import Derived.Test.YtmeigoeknjoodaaDtB
namespace Go.Proofs.Ytmeigoeknjoodaa
open Go.RowKit

def lenOf : Value → Nat
  | .slice _ n _ => n
  | _ => 0
/-- The steps are told, in a row of the call's own that may be written over. -/
def BetYes (ss : List St) (w : World) (e : Ending) (w' : World) : Prop := ∃ p cap vs, e = .returned (.tuple #[.slice p ss.length cap, .int .i64 0]) ∧ OwnS w' w.heap.size (.slice p ss.length cap) vs ss ∧ SpS w' w.heap.size (.slice p ss.length cap) ss.length vs ∧ Below w.heap.size w w'
/-- What Between holds. -/
structure BS (w wr : World) (sb : Nat) (a b : List Nd) (i j : Nat) : Prop where
  sx : SX wr w.heap.size sb (dropsL (a.take i) b) (makesL a (b.take j)) (kidsL a (b.take j)) (spansL a (b.take j))
  sep : Sep a b i j
  kinds : kindsB a (b.take j) = true
  below : Below w.heap.size w wr
theorem BS.later {w wr W : World} {sb : Nat} {a b : List Nd} {i j : Nat} (h : BS w wr sb a b i j) (hb : Bl wr W) : BS w W sb a b i j := ⟨h.sx.later hb, h.sep, h.kinds, h.below.trans (Below.mono hb h.below.size)⟩
theorem nodes_next {w : World} {g o : Nat} {ns : List Nd} {i : Nat} (h : NodesR w (some ⟨g, o, none⟩) (ns.drop i)) : NodesR w (some ⟨g, o + 5, none⟩) (ns.drop (i + 1)) := by
  intro k x hx
  rw [← List.drop_drop, List.getElem?_drop, Nat.add_comm] at hx
  obtain ⟨b, o', kp, kc, h1, h2, h3⟩ := h (k + 1) x hx
  cases h1
  exact ⟨g, o + 5, kp, kc, rfl, by rw [show o + 5 + k * 5 = o + (k + 1) * 5 by omega]; exact h2, h3⟩
theorem nodes_end {w : World} {p : Option Addr} {ns : List Nd} {i : Nat} (h : ns.length ≤ i) : NodesR w p (ns.drop i) := fun k x hx => by
  rw [List.drop_eq_nil_of_le h] at hx; cases hx
def FitL (w : World) (base : Nat) (vs : List Sv) (ss : List St) : Prop := vs.length = ss.length ∧ ∀ (i : Nat) x s, vs[i]? = some x → ss[i]? = some s → FitS w base x s
theorem FitL.app {w : World} {base : Nat} {vs us : List Sv} {ss ts : List St} (h : FitL w base vs ss) (g : FitL w base us ts) : FitL w base (vs ++ us) (ss ++ ts) := by
  refine ⟨by rw [List.length_append, List.length_append, h.1, g.1], fun i x s hx hs => ?_⟩
  by_cases hi : i < vs.length
  · rw [List.getElem?_append_left hi] at hx
    rw [List.getElem?_append_left (by rw [← h.1]; exact hi)] at hs
    exact h.2 i x s hx hs
  · rw [List.getElem?_append_right (by omega)] at hx
    rw [List.getElem?_append_right (by rw [← h.1]; omega), ← h.1] at hs
    exact g.2 _ x s hx hs
theorem Apt.noL {s t : List Sv} (h : NoK s) (g : Apt t) : Apt (s ++ t) := by
  intro i j x y q hx hy hij hq he
  by_cases hi : i < s.length
  · rw [List.getElem?_append_left hi] at hx
    rw [h x (List.mem_of_getElem? hx)] at hq; cases hq
  · by_cases hj : j < s.length
    · rw [List.getElem?_append_left hj] at hy
      rw [h y (List.mem_of_getElem? hy)] at he; cases he
    · rw [List.getElem?_append_right (by omega)] at hx hy
      exact g _ _ x y q hx hy (by omega) hq he
theorem Apt.noR {s t : List Sv} (g : Apt t) (h : NoK s) : Apt (t ++ s) := by
  intro i j x y q hx hy hij hq he
  by_cases hi : i < t.length
  · by_cases hj : j < t.length
    · rw [List.getElem?_append_left hi] at hx
      rw [List.getElem?_append_left hj] at hy
      exact g _ _ x y q hx hy hij hq he
    · rw [List.getElem?_append_right (by omega)] at hy
      rw [h y (List.mem_of_getElem? hy)] at he; cases he
  · rw [List.getElem?_append_right (by omega)] at hx
    rw [h x (List.mem_of_getElem? hx)] at hq; cases hq
/-- The four rows, one behind the other. -/
theorem bet_end {w wr w' : World} {sb c : Nat} {p : Option Addr} {a b : List Nd} {v0 v1 v2 v3 : Value} {s0 s1 s2 s3 : List Sv} {d m q r : List St} (S : SS wr w.heap.size sb [(v0, s0, d), (v1, s1, m), (v2, s2, q), (v3, s3, r)]) (g0 : NoK s0) (g1 : NoK s1) (g2 : Apt s2) (g3 : NoK s3)
    (hs : stepsL a b = d ++ (m ++ (q ++ r))) (hb : Below w.heap.size w wr) (hb2 : Bl wr w') (ho : lyS.Own w' wr.heap.size (.slice p (lensT [(v0, s0, d), (v1, s1, m), (v2, s2, q), (v3, s3, r)] 4) c) (rowsT [(v0, s0, d), (v1, s1, m), (v2, s2, q), (v3, s3, r)] 4)) :
    BetYes (stepsL a b) w (.returned (.tuple #[.slice p (lensT [(v0, s0, d), (v1, s1, m), (v2, s2, q), (v3, s3, r)] 4) c, .int .i64 0])) w' := by
  have er : rowsT [(v0, s0, d), (v1, s1, m), (v2, s2, q), (v3, s3, r)] 4 = s0 ++ (s1 ++ (s2 ++ s3)) := by simp [rowsT]
  have S2 := S.later hb2
  have fit : ∀ (k : Nat) v vs ss, [(v0, s0, d), (v1, s1, m), (v2, s2, q), (v3, s3, r)][k]? = some (v, vs, ss) → FitL w' w.heap.size vs ss := fun k v vs ss hk => ⟨(S2.rows.own k _ hk).len, (S2.rows.own k _ hk).fit⟩
  have F : FitL w' w.heap.size (s0 ++ (s1 ++ (s2 ++ s3))) (stepsL a b) := by
    rw [hs]
    exact (fit 0 _ _ _ rfl).app ((fit 1 _ _ _ rfl).app ((fit 2 _ _ _ rfl).app (fit 3 _ _ _ rfl)))
  have el : lensT [(v0, s0, d), (v1, s1, m), (v2, s2, q), (v3, s3, r)] 4 = (stepsL a b).length := by rw [← rows_len, er, F.1]
  rw [er, el] at ho
  rw [el]
  have ho2 := ho.mono hb.size
  exact ⟨p, c, _, rfl, ⟨ho2, F.1, F.2⟩, ⟨ho2, F.1, fun i x hx => ⟨_, (F.2 i x _ hx (List.getElem?_eq_getElem (by rw [← F.1]; exact (List.getElem?_eq_some_iff.1 hx).1))).2.2.2.2.2⟩, Apt.noL g0 (Apt.noL g1 (Apt.noR g2 g3))⟩, hb.trans (Below.mono hb2 hb.size)⟩
theorem row_below {w : World} {p : Option Addr} {l : List Int} (h : lyI.Row w p l) {base : Nat} (hb : w.heap.size = base) : ∀ W W', Below base w W → Below base W W' → lyI.Row W' p l := fun W W' h1 h2 => h.below (by rw [hb]; exact h1.trans h2)

set_option maxRecDepth 100000 in
set_option maxHeartbeats 16000000 in
theorem between_go (w : World) (a : List Nd) (ra na : Int) (pa : Option Addr) (A ca : Nat) (b : List Nd) (rb nb : Int) (pb : Option Addr) (B cb : Nat) (hA : a.length = A) (hB : b.length = B) (ha : NodesR w pa a) (hb : NodesR w pb b) (la : A ≤ 140737488355328) (lb : B ≤ 140737488355328) (ka : ∀ x ∈ a, x.kids.length ≤ 140737488355328) (kb : ∀ x ∈ b, x.kids.length ≤ 140737488355328) (lca : A ≤ ca) (lcb : B ≤ cb)
    (h1 : mayB a ra na (endN a ra) = true) (h2 : mayB b rb nb (endN b rb) = true) (hr : ra = rb) : Calls Try.prog 8 #[trV ra na pa A ca, trV rb nb pb B cb] w (fun e w' => (kindsB a b = true ∧ BetYes (stepsL a b) w e w') ∨ (kindsB a b = false ∧ DelNo w e w')) := by
  obtain ⟨sa, ska⟩ := may_small h1
  obtain ⟨sb', skb⟩ := may_small h2
  rw [hA] at sa
  rw [hB] at sb'
  have RA := (mayC_is.1 h1).rises; have RB := (mayC_is.1 h2).rises
  have NB := (mayC_is.1 h2).node
  have MA := Lib.hid (fun (W : World) (hW : Bl w W) => dmay_any ra na pa a A ca hA W (ha.below hW) la ka)
  have MB := Lib.hid (fun (W : World) (hW : Bl w W) => dmay_any rb nb pb b B cb hB W (hb.below hW) lb kb)
  rw [h1] at MA
  rw [h2] at MB
  have KA := Lib.hid ska; have KB := Lib.hid skb; have RSA := Lib.hid RA; have RSB := Lib.hid RB; have NDB := Lib.hid NB
  have HA := Lib.hid hA; have HB := Lib.hid hB; have NA := Lib.hid ha; have NBR := Lib.hid hb
  unfold trV at *
  have BW : Hid (Bl w ((w.alloc (.cells #[.int .i64 ra, .int .i64 na, .slice pa A ca] 24)).alloc (.cells #[.int .i64 rb, .int .i64 nb, .slice pb B cb] 24))) := Lib.hid (Bl.alloc (Bl.alloc (Bl.refl _) _) _)
  have XB : Hid (((w.alloc (.cells #[.int .i64 ra, .int .i64 na, .slice pa A ca] 24)).alloc (.cells #[.int .i64 rb, .int .i64 nb, .slice pb B cb] 24)).heap[w.heap.size]? = some (.cells #[.int .i64 ra, .int .i64 na, .slice pa A ca] 24 (0, 0))) := Lib.hid (heap_old (heap_new rfl _ _) _)
  have YB : Hid (((w.alloc (.cells #[.int .i64 ra, .int .i64 na, .slice pa A ca] 24)).alloc (.cells #[.int .i64 rb, .int .i64 nb, .slice pb B cb] 24)).heap[w.heap.size + 1]? = some (.cells #[.int .i64 rb, .int .i64 nb, .slice pb B cb] 24 (0, 0))) := Lib.hid (heap_new (by simp) _ _)
  have hrr : (ra != rb) = false := by rw [hr]; simp
  clear ha hb hA hB la lb ka kb h1 h2 ska skb RA RB NB hr
  go_enter Try.func8, Try.ntmps8
  go_upto_region 1 with fail
  generalize ((w.alloc (.cells #[.int .i64 ra, .int .i64 na, .slice pa A ca] 24)).alloc (.cells #[.int .i64 rb, .int .i64 nb, .slice pb B cb] 24)) = w2 at BW XB YB ⊢
  have z0 := (obj_cells XB.out).1 0 _ rfl; have z1 := (obj_cells XB.out).1 1 _ rfl; have z2 := (obj_cells XB.out).1 2 _ rfl
  have y0 : ∀ W, Bl w2 W → W.cell? ⟨w.heap.size + 1, 0, none⟩ = some (.int .i64 rb) := fun W hW => hW.cell ((obj_cells YB.out).1 0 _ rfl)
  have y1 : ∀ W, Bl w2 W → W.cell? ⟨w.heap.size + 1, 1, none⟩ = some (.int .i64 nb) := fun W hW => hW.cell ((obj_cells YB.out).1 1 _ rfl)
  have y2 : ∀ W, Bl w2 W → W.cell? ⟨w.heap.size + 1, 2, none⟩ = some (.slice pb B cb) := fun W hW => hW.cell ((obj_cells YB.out).1 2 _ rfl)
  have x0 : ∀ W, Bl w2 W → W.cell? ⟨w.heap.size, 0, none⟩ = some (.int .i64 ra) := fun W hW => hW.cell ((obj_cells XB.out).1 0 _ rfl)
  go_upto_region 3 with (first | (go_at_call_of 17 (Value.slice pa A ca); refine (MA.out _ BW.out).mono ?_; rintro e w3 ⟨rfl, hb3⟩; have B3 := Lib.hid (show Bl w2 w3 from hb3); have u0' := y0 _ hb3; have u1' := y1 _ hb3; have u2' := y2 _ hb3; clear hb3) | (go_at_call_of 17 (Value.slice pb B cb); refine (MB.out _ (BW.out.call B3.out)).mono ?_; rintro e w4 ⟨rfl, hb4⟩; have B4 := Lib.hid (B3.out.call hb4); have v0' := x0 _ (B3.out.call hb4); have v1' := y0 _ (B3.out.call hb4); clear hb4))
  clear z0 z1 z2 y0 y1 y2 x0 u0' u1' u2' v0' v1' MA MB hrr B3
  have BW4 := Lib.hid (BW.out.call B4.out)
  have X4 := Lib.hid (heap_later XB.out B4.out); have Y4 := Lib.hid (heap_later YB.out B4.out)
  clear BW XB YB B4
  go_upto_region 4 with fail
  have BS0 : Hid (BS w (w4.alloc (.cells #[.slice none 0 0, .slice none 0 0, .slice none 0 0, .slice none 0 0] 51)) w4.heap.size a b 0 0) := Lib.hid ⟨⟨_, [], _, [], _, [], _, [], ⟨heap_new rfl _ _, BW4.out.size, rfl, Rows.none4 _ _⟩, by simp [NoK], by simp [NoK], by simp [Apt], by simp [NoK]⟩, Sep.zero a b, rfl, Bl.alloc BW4.out _⟩
  have X5 := Lib.hid (heap_later X4.out (Bl.alloc (Bl.refl w4) (.cells #[.slice none 0 0, .slice none 0 0, .slice none 0 0, .slice none 0 0] 51)))
  have Y5 := Lib.hid (heap_later Y4.out (Bl.alloc (Bl.refl w4) (.cells #[.slice none 0 0, .slice none 0 0, .slice none 0 0, .slice none 0 0] 51)))
  obtain ⟨sb, hsb⟩ : ∃ g, g = w4.heap.size := ⟨_, rfl⟩
  rw [← hsb] at BS0 ⊢
  clear hsb X4 Y4 BW4
  generalize (w4.alloc (.cells #[.slice none 0 0, .slice none 0 0, .slice none 0 0, .slice none 0 0] 51)) = w5 at BS0 X5 Y5 ⊢
  have z2 := (obj_cells X5.out).1 2 _ rfl
  have y2 := (obj_cells Y5.out).1 2 _ rfl
  go_quiet (fail)
  have BS1 := Lib.hid (BS0.out.later (dr_below w5 nq))
  clear z2 y2 BS0 X5 Y5
  generalize w5.drewN nq = w6 at BS1 ⊢
  go_upto_block 0 with fail
  go_cut [7, 8] from 34 to 80 (fun v7 v8 wx => ∃ (i j n7 n8 cw cn : Nat) (pw pn : Option Addr), v7 = .slice pw n7 cw ∧ v8 = .slice pn n8 cn ∧ n7 + i = A ∧ n8 + j = B ∧ n7 ≤ cw ∧ n8 ≤ cn ∧ (n7 = 0 ∨ n8 = 0) ∧ Hid (NodesR w pw (a.drop i)) ∧ Hid (NodesR w pn (b.drop j)) ∧ Hid (BS w wx sb a b i j))
  case first =>
    go_wp2_with fail
    go_loopw [7, 8] (fun v7 v8 wx => ∃ (i j n7 n8 cw cn : Nat) (pw pn : Option Addr), v7 = .slice pw n7 cw ∧ v8 = .slice pn n8 cn ∧ n7 + i = A ∧ n8 + j = B ∧ n7 ≤ cw ∧ n8 ≤ cn ∧ Hid (NodesR w pw (a.drop i)) ∧ Hid (NodesR w pn (b.drop j)) ∧ Hid (BS w wx sb a b i j)) (fun v7 v8 _ => lenOf v7 + lenOf v8)
    case atStart => exact ⟨0, 0, A, B, ca, cb, pa, pb, rfl, rfl, by omega, by omega, lca, lcb, Lib.hid (by simpa using NA.out), Lib.hid (by simpa using NBR.out), BS1⟩
    case round =>
      clear BS1 NA NBR
      obtain ⟨i, j, n7, n8, cw, cn, pw, pn, rfl, rfl, hi, hj, hcw, hcn, NW, NN, Q⟩ := hrel
      by_cases g7 : 0 < n7
      · have d7 : decide ((0 : Int) < (n7 : Int)) = true := decide_eq_true (by omega)
        by_cases g8 : 0 < n8
        · have d8 : decide ((0 : Int) < (n8 : Int)) = true := decide_eq_true (by omega)
          obtain ⟨x, hx⟩ : ∃ x, a[i]? = some x := ⟨_, List.getElem?_eq_getElem (by rw [HA.out]; omega)⟩
          obtain ⟨y, hy⟩ : ∃ y, b[j]? = some y := ⟨_, List.getElem?_eq_getElem (by rw [HB.out]; omega)⟩
          have HX := Lib.hid hx; have HY := Lib.hid hy
          obtain ⟨ab, ao, kp1, kc1, rfl, hat, hr1⟩ := NW.out 0 x (by rw [List.getElem?_drop]; exact hx)
          obtain ⟨bb, bo, kp2, kc2, rfl, hat2, hr2⟩ := NN.out 0 y (by rw [List.getElem?_drop]; exact hy)
          rw [Nat.zero_mul, Nat.add_zero] at hat hat2
          have HR1 := Lib.hid hr1; have HR2 := Lib.hid hr2
          have kx : x.kids.length ≤ 2048 := KA.out x (List.mem_of_getElem? hx)
          have ky : y.kids.length ≤ 2048 := KB.out y (List.mem_of_getElem? hy)
          have BL := Lib.hid (show Bl w wr from Q.out.below)
          have n0 : ∀ W, Bl wr W → W.cell? ⟨ab, ao, none⟩ = some (.int .i64 x.id) := fun W hW => (BL.out.call hW).cell (hat 0 _ rfl)
          have n1 : ∀ W, Bl wr W → W.cell? ⟨ab, ao + 1, none⟩ = some (.int .i64 x.kd) := fun W hW => (BL.out.call hW).cell (hat 1 _ rfl)
          have n2 : ∀ W, Bl wr W → W.cell? ⟨ab, ao + 2, none⟩ = some (.int .i64 x.fr) := fun W hW => (BL.out.call hW).cell (hat 2 _ rfl)
          have n3 : ∀ W, Bl wr W → W.cell? ⟨ab, ao + 3, none⟩ = some (.int .i64 (Nd.to x)) := fun W hW => (BL.out.call hW).cell (hat 3 _ rfl)
          have n4 : ∀ W, Bl wr W → W.cell? ⟨ab, ao + 4, none⟩ = some (.slice kp1 x.kids.length kc1) := fun W hW => (BL.out.call hW).cell (hat 4 _ rfl)
          have m0 : ∀ W, Bl wr W → W.cell? ⟨bb, bo, none⟩ = some (.int .i64 y.id) := fun W hW => (BL.out.call hW).cell (hat2 0 _ rfl)
          have m1 : ∀ W, Bl wr W → W.cell? ⟨bb, bo + 1, none⟩ = some (.int .i64 y.kd) := fun W hW => (BL.out.call hW).cell (hat2 1 _ rfl)
          have m2 : ∀ W, Bl wr W → W.cell? ⟨bb, bo + 2, none⟩ = some (.int .i64 y.fr) := fun W hW => (BL.out.call hW).cell (hat2 2 _ rfl)
          have m3 : ∀ W, Bl wr W → W.cell? ⟨bb, bo + 3, none⟩ = some (.int .i64 (Nd.to y)) := fun W hW => (BL.out.call hW).cell (hat2 3 _ rfl)
          have m4 : ∀ W, Bl wr W → W.cell? ⟨bb, bo + 4, none⟩ = some (.slice kp2 y.kids.length kc2) := fun W hW => (BL.out.call hW).cell (hat2 4 _ rfl)
          have h70 : (1 : Int) ≤ (n7 : Int) := by omega
          have h71 : (0 : Int) < (n7 : Int) := by omega
          have h80 : (1 : Int) ≤ (n8 : Int) := by omega
          have h81 : (0 : Int) < (n8 : Int) := by omega
          have c70 : (1 : Int) ≤ (cw : Int) := by omega
          have c80 : (1 : Int) ≤ (cn : Int) := by omega
          clear hat hat2 hr1 hr2 hx hy
          go_upto_region 6 with fail
          go_cut [9, 10] (fun v1 v2 wx => TwoN wr wx v1 v2 [.int .i64 x.id, .int .i64 x.kd, .int .i64 x.fr, .int .i64 (Nd.to x), .slice kp1 x.kids.length kc1] [.int .i64 y.id, .int .i64 y.kd, .int .i64 y.fr, .int .i64 (Nd.to y), .slice kp2 y.kids.length kc2])
          case first =>
            have S00 := Bl.refl wr
            have l0 : wr.heap.size ≤ wr.heap.size := Nat.le_refl _
            go_region_held3 (fun W => Bl wr W) ((repeat (first | with_reducible assumption | with_reducible refine Bl.alloc ?_ _ | with_reducible refine Bl.drew ?_ | (with_reducible refine Bl.set ?_ ?h _; case h => omega)))) (fail)
            all_goals
              go_wp2_with fail
              go_meet
              refine ⟨_, _, rfl, rfl, ?_, ?_, ?_⟩
              · show (World.alloc _ _).heap[_]? = _
                repeat (first | exact heap_new (by simp) _ _ | refine heap_old ?_ _)
              · show (World.alloc _ _).heap[_]? = _
                repeat (first | exact heap_new (by simp) _ _ | refine heap_old ?_ _)
              · exact Bl.drew (Bl.alloc (Bl.alloc (Bl.refl _) _) _)
          case rest =>
            obtain ⟨xb, yb, rfl, rfl, X, Y, hbx⟩ := hcut
            have QX := Lib.hid (Q.out.later hbx)
            clear n0 n1 n2 n3 n4 m0 m1 m2 m3 m4 hbx BL
            have x0 := (obj_cells X).1 0 _ rfl
            have y0 := (obj_cells Y).1 0 _ rfl
            have x1 := (obj_cells X).1 1 _ rfl
            have y1 := (obj_cells Y).1 1 _ rfl
            have x2 := (obj_cells X).1 2 _ rfl
            have y2 := (obj_cells Y).1 2 _ rfl
            have x3 := (obj_cells X).1 3 _ rfl
            have y3 := (obj_cells Y).1 3 _ rfl
            have x4 := (obj_cells X).1 4 _ rfl
            have y4 := (obj_cells Y).1 4 _ rfl
            clear X Y
            obtain ⟨f1, f2, f3, f4⟩ := few_steps (a := a) (b := b) (i := i) (j := j) (by omega) (by omega)
            by_cases hlt : x.id < y.id
            · have s1 : decide (x.id < y.id) = true := decide_eq_true hlt
              have LV := Lib.hid (leave_any _ w.heap.size sb x.kids.length kc1 kp1 _ _ _ _ x.id x.kd x.fr (Nd.to x) QX.out.sx (by omega))
              have SE := QX.out.sep.lt HX.out (fun z hz => Int.lt_of_lt_of_le hlt (at_drop RSB.out HY.out hz))
              have NX := Lib.hid (fun (W : World) (h : StP w.heap.size sb (dropsL (a.take i) b ++ [⟨0, x.id, 0, 0, 0, []⟩]) (makesL a (b.take j)) (kidsL a (b.take j)) (spansL a (b.take j)) _ (.returned (.tuple #[])) W) => (⟨by rw [gone_is HX.out SE.1]; exact h.2.2.2, SE.2, QX.out.kinds, QX.out.below.trans h.2.1⟩ : BS w W sb a b (i + 1) j))
              clear hlt SE
              by_cases hc : cw = 1
              · subst hc
                go_wp2_with (go_at_call 18; refine LV.out.mono ?_; rintro e w7 h7; obtain rfl := h7.1; have Q7 := Lib.hid (NX.out _ h7); clear h7)
                exact ⟨⟨i + 1, j, 0, n8, 0, cn, _, _, rfl, rfl, by omega, hj, by omega, hcn, Lib.hid (nodes_end (by rw [HA.out]; omega)), NN, Q7⟩, by show 0 + n8 < n7 + n8; omega⟩
              · go_wp2_with (go_at_call 18; refine LV.out.mono ?_; rintro e w7 h7; obtain rfl := h7.1; have Q7 := Lib.hid (NX.out _ h7); clear h7)
                exact ⟨⟨i + 1, j, n7 - 1, n8, cw - 1, cn, _, _, rfl, rfl, by omega, hj, by omega, hcn, Lib.hid (nodes_next NW.out), NN, Q7⟩, by show n7 - 1 + n8 < n7 + n8; omega⟩
            · have s1 : decide (x.id < y.id) = false := decide_eq_false hlt
              by_cases hgt : y.id < x.id
              · have s2 : decide (y.id < x.id) = true := decide_eq_true hgt
                have LV := Lib.hid (come_any _ w.heap.size sb y.kids.length kc2 kp2 _ _ _ _ y.id y.kd y.fr (Nd.to y) y.kids QX.out.sx (by omega) (by omega) (by omega) (fun W hW => HR2.out.below (QX.out.below.trans hW)) rfl (by omega))
                have SE := QX.out.sep.swap.lt HY.out (fun z hz => Int.lt_of_lt_of_le hgt (at_drop RSA.out HX.out hz))
                have CI := come_is HY.out SE.1 (nodeOk_is.1 (NDB.out y (List.mem_of_getElem? HY.out))).2.2.2.1
                have NX := Lib.hid (fun (W : World) (h : StP w.heap.size sb (dropsL (a.take i) b) (makesL a (b.take j) ++ [⟨1, y.id, y.kd, 0, 0, []⟩]) (kidsL a (b.take j) ++ (if (!(y.kids == [])) = true then [⟨2, y.id, 0, 0, 0, y.kids⟩] else [])) (spansL a (b.take j) ++ [⟨3, y.id, 0, y.fr, Nd.to y, []⟩]) _ (.returned (.tuple #[])) W) => (⟨by rw [CI.1, CI.2.1, CI.2.2.1]; exact h.2.2.2, SE.2.swap, by rw [CI.2.2.2]; exact QX.out.kinds, QX.out.below.trans h.2.1⟩ : BS w W sb a b i (j + 1)))
                clear hgt SE CI
                by_cases hc : cn = 1
                · subst hc
                  go_wp2_with (go_at_call 19; refine LV.out.mono ?_; rintro e w7 h7; obtain rfl := h7.1; have Q7 := Lib.hid (NX.out _ h7); clear h7)
                  exact ⟨⟨i, j + 1, n7, 0, cw, 0, _, _, rfl, rfl, hi, by omega, hcw, by omega, NW, Lib.hid (nodes_end (by rw [HB.out]; omega)), Q7⟩, by show n7 + 0 < n7 + n8; omega⟩
                · go_wp2_with (go_at_call 19; refine LV.out.mono ?_; rintro e w7 h7; obtain rfl := h7.1; have Q7 := Lib.hid (NX.out _ h7); clear h7)
                  exact ⟨⟨i, j + 1, n7, n8 - 1, cw, cn - 1, _, _, rfl, rfl, hi, by omega, hcw, by omega, NW, Lib.hid (nodes_next NN.out), Q7⟩, by show n7 + (n8 - 1) < n7 + n8; omega⟩
              · have s2 : decide (y.id < x.id) = false := decide_eq_false hgt
                obtain ⟨e1, e2, e3⟩ := QX.out.sep.eq RSA.out RSB.out HX.out HY.out (by omega)
                have SI := stay_is HY.out e1
                have KE := kept_is HX.out e2
                clear hlt hgt
                by_cases hk : x.kd = y.kd
                · have s3 : (x.kd != y.kd) = false := by simpa using hk
                  have LV := Lib.hid (stay_any _ w.heap.size sb x.kids.length kc1 y.kids.length kc2 kp1 kp2 _ _ _ _ x.id x.kd x.fr (Nd.to x) y.id y.kd y.fr (Nd.to y) x.kids y.kids QX.out.sx (by omega) (by omega) (fun W hW => HR1.out.below (QX.out.below.trans hW)) rfl (fun W hW => HR2.out.below (QX.out.below.trans hW)) rfl (by omega) (by omega))
                  have NX := Lib.hid (fun (W : World) (h : StP w.heap.size sb (dropsL (a.take i) b) (makesL a (b.take j)) (kidsL a (b.take j) ++ (if (!(x.kids == y.kids)) = true then [⟨2, y.id, 0, 0, 0, y.kids⟩] else [])) (spansL a (b.take j) ++ (if (!(x.fr == y.fr) || !(Nd.to x == Nd.to y)) = true then [⟨3, y.id, 0, y.fr, Nd.to y, []⟩] else [])) _ (.returned (.tuple #[])) W) => (⟨by rw [KE, SI.1, SI.2.1, SI.2.2.1]; exact h.2.2.2, e3, by rw [SI.2.2.2, QX.out.kinds, hk]; simp, QX.out.below.trans h.2.1⟩ : BS w W sb a b (i + 1) (j + 1)))
                  clear SI KE e1 e2 e3 hk
                  by_cases hc : cw = 1
                  · subst hc
                    by_cases hc2 : cn = 1
                    · subst hc2
                      go_wp2_with (go_at_call 20; refine LV.out.mono ?_; rintro e w7 h7; obtain rfl := h7.1; have Q7 := Lib.hid (NX.out _ h7); clear h7)
                      go_quiet (fail)
                      have Q8 := Lib.hid (Q7.out.later (dr_below w7 nq))
                      go_wp2_with fail
                      exact ⟨⟨i + 1, j + 1, 0, 0, 0, 0, _, _, rfl, rfl, by omega, by omega, by omega, by omega, Lib.hid (nodes_end (by rw [HA.out]; omega)), Lib.hid (nodes_end (by rw [HB.out]; omega)), Q8⟩, by show (0) + (0) < n7 + n8; omega⟩
                    · go_wp2_with (go_at_call 20; refine LV.out.mono ?_; rintro e w7 h7; obtain rfl := h7.1; have Q7 := Lib.hid (NX.out _ h7); clear h7)
                      go_quiet (fail)
                      have Q8 := Lib.hid (Q7.out.later (dr_below w7 nq))
                      go_wp2_with fail
                      exact ⟨⟨i + 1, j + 1, 0, n8 - 1, 0, cn - 1, _, _, rfl, rfl, by omega, by omega, by omega, by omega, Lib.hid (nodes_end (by rw [HA.out]; omega)), Lib.hid (nodes_next NN.out), Q8⟩, by show (0) + (n8 - 1) < n7 + n8; omega⟩
                  · by_cases hc2 : cn = 1
                    · subst hc2
                      go_wp2_with (go_at_call 20; refine LV.out.mono ?_; rintro e w7 h7; obtain rfl := h7.1; have Q7 := Lib.hid (NX.out _ h7); clear h7)
                      go_quiet (fail)
                      have Q8 := Lib.hid (Q7.out.later (dr_below w7 nq))
                      go_wp2_with fail
                      exact ⟨⟨i + 1, j + 1, n7 - 1, 0, cw - 1, 0, _, _, rfl, rfl, by omega, by omega, by omega, by omega, Lib.hid (nodes_next NW.out), Lib.hid (nodes_end (by rw [HB.out]; omega)), Q8⟩, by show (n7 - 1) + (0) < n7 + n8; omega⟩
                    · go_wp2_with (go_at_call 20; refine LV.out.mono ?_; rintro e w7 h7; obtain rfl := h7.1; have Q7 := Lib.hid (NX.out _ h7); clear h7)
                      go_quiet (fail)
                      have Q8 := Lib.hid (Q7.out.later (dr_below w7 nq))
                      go_wp2_with fail
                      exact ⟨⟨i + 1, j + 1, n7 - 1, n8 - 1, cw - 1, cn - 1, _, _, rfl, rfl, by omega, by omega, by omega, by omega, Lib.hid (nodes_next NW.out), Lib.hid (nodes_next NN.out), Q8⟩, by show (n7 - 1) + (n8 - 1) < n7 + n8; omega⟩
                · have s3 : (x.kd != y.kd) = true := by simpa using hk
                  have KF : Hid (kindsB a b = false) := Lib.hid (kinds_part (i := j + 1) (by rw [SI.2.2.2, beq_eq_false_iff_ne.2 hk, Bool.and_false]))
                  clear SI KE e1 e2 e3 hk
                  go_wp2_with fail
                  go_ret2
                  exact .inr ⟨KF.out, rfl, QX.out.below⟩
        · have d8 : decide ((0 : Int) < (n8 : Int)) = false := decide_eq_false (by omega)
          go_wp2_with fail
          go_meet
          exact ⟨i, j, n7, n8, cw, cn, pw, pn, rfl, rfl, hi, hj, hcw, hcn, .inr (by omega), NW, NN, Q⟩
      · have d7 : decide ((0 : Int) < (n7 : Int)) = false := decide_eq_false (by omega)
        go_wp2_with fail
        go_meet
        exact ⟨i, j, n7, n8, cw, cn, pw, pn, rfl, rfl, hi, hj, hcw, hcn, .inl (by omega), NW, NN, Q⟩
  case rest =>
    clear BS1 NA NBR
    obtain ⟨i, j, n7, n8, cw, cn, pw, pn, rfl, rfl, hi, hj, hcw, hcn, hend, NW, NN, QQ⟩ := hcut
    have HE := Lib.hid hend
    clear hend
    go_wp2_with fail
    go_loopw [83, 12] (fun v83 _ wr => ∃ k : Nat, k ≤ n7 ∧ v83 = .int .i64 k ∧ Hid (BS w wr sb a b (i + k) j)) (fun v _ _ => n7 - (intOf v).toNat)
    case atStart => exact ⟨0, by omega, rfl, QQ⟩
    case round =>
      clear QQ
      obtain ⟨k, hk, rfl, Q⟩ := hrel
      by_cases hlt : k < n7
      · obtain ⟨x, hx⟩ : ∃ x, a[i + k]? = some x := ⟨_, List.getElem?_eq_getElem (by rw [HA.out]; omega)⟩
        have HX := Lib.hid hx
        obtain ⟨ab, ao, kp1, kc1, rfl, hat, -⟩ := NW.out k x (by rw [List.getElem?_drop]; exact hx)
        have n0 : wr.cell? ⟨ab, ao + k * 5, none⟩ = some (.int .i64 x.id) := (show Bl w wr from Q.out.below).cell (hat 0 _ rfl)
        have n1 : wr.cell? ⟨ab, ao + k * 5 + 1, none⟩ = some (.int .i64 x.kd) := (show Bl w wr from Q.out.below).cell (hat 1 _ rfl)
        have n2 : wr.cell? ⟨ab, ao + k * 5 + 2, none⟩ = some (.int .i64 x.fr) := (show Bl w wr from Q.out.below).cell (hat 2 _ rfl)
        have n3 : wr.cell? ⟨ab, ao + k * 5 + 3, none⟩ = some (.int .i64 (Nd.to x)) := (show Bl w wr from Q.out.below).cell (hat 3 _ rfl)
        have n4 : wr.cell? ⟨ab, ao + k * 5 + 4, none⟩ = some (.slice kp1 x.kids.length kc1) := (show Bl w wr from Q.out.below).cell (hat 4 _ rfl)
        have jB : j = B := by have := HE.out; omega
        obtain ⟨f1, -, -, -⟩ := few_steps (a := a) (b := b) (i := i + k) (j := j) (by omega) (by omega)
        have QX := Lib.hid (Q.out.later (Bl.alloc (Bl.refl wr) (.cells #[.int .i64 x.id, .int .i64 x.kd, .int .i64 x.fr, .int .i64 (Nd.to x), .slice kp1 x.kids.length kc1] 46)))
        have LV := Lib.hid (leave_any _ w.heap.size sb x.kids.length kc1 kp1 _ _ _ _ x.id x.kd x.fr (Nd.to x) QX.out.sx (by omega))
        have SE := QX.out.sep.lt HX.out (fun z hz => by rw [List.drop_eq_nil_of_le (by rw [HB.out]; omega)] at hz; cases hz)
        have NX := Lib.hid (fun (W : World) (h : StP w.heap.size sb (dropsL (a.take (i + k)) b ++ [⟨0, x.id, 0, 0, 0, []⟩]) (makesL a (b.take j)) (kidsL a (b.take j)) (spansL a (b.take j)) _ (.returned (.tuple #[])) W) => (⟨by rw [show i + (k + 1) = i + k + 1 by omega, gone_is HX.out SE.1]; exact h.2.2.2, SE.2, QX.out.kinds, QX.out.below.trans h.2.1⟩ : BS w W sb a b (i + (k + 1)) j))
        have hk0 : (0 : Int) ≤ (k : Int) := by omega
        have hk1 : (k : Int) < (n7 : Int) := by omega
        clear hat hx SE jB
        go_wp2_with (go_at_call 18; refine LV.out.mono ?_; rintro e w7 h7; obtain rfl := h7.1; have Q7 := Lib.hid (NX.out _ h7); clear h7)
        go_roundw
        case rel => exact ⟨k + 1, by omega, by go_num, Q7⟩
        case measure => simp [intOf]; omega
      · have ek : i + k = A := by omega
        rw [ek] at Q
        obtain ⟨wo, hwo⟩ : ∃ W, W = wr := ⟨_, rfl⟩
        subst hwo
        go_wp2_with fail
        go_loopw [92, 14] (fun v92 _ wr => ∃ k : Nat, k ≤ n8 ∧ v92 = .int .i64 k ∧ Hid (BS w wr sb a b A (j + k))) (fun v _ _ => n8 - (intOf v).toNat)
        case atStart => exact ⟨0, by omega, rfl, Q⟩
        case round =>
          clear Q
          obtain ⟨k2, hk2, rfl, Q⟩ := hrel
          by_cases hlt2 : k2 < n8
          · obtain ⟨y, hy⟩ : ∃ y, b[j + k2]? = some y := ⟨_, List.getElem?_eq_getElem (by rw [HB.out]; omega)⟩
            have HY := Lib.hid hy
            obtain ⟨bb, bo, kp2, kc2, rfl, hat, hr2⟩ := NN.out k2 y (by rw [List.getElem?_drop]; exact hy)
            have HR2 := Lib.hid hr2
            have ky : y.kids.length ≤ 2048 := KB.out y (List.mem_of_getElem? hy)
            have m0 : wr.cell? ⟨bb, bo + k2 * 5, none⟩ = some (.int .i64 y.id) := (show Bl w wr from Q.out.below).cell (hat 0 _ rfl)
            have m1 : wr.cell? ⟨bb, bo + k2 * 5 + 1, none⟩ = some (.int .i64 y.kd) := (show Bl w wr from Q.out.below).cell (hat 1 _ rfl)
            have m2 : wr.cell? ⟨bb, bo + k2 * 5 + 2, none⟩ = some (.int .i64 y.fr) := (show Bl w wr from Q.out.below).cell (hat 2 _ rfl)
            have m3 : wr.cell? ⟨bb, bo + k2 * 5 + 3, none⟩ = some (.int .i64 (Nd.to y)) := (show Bl w wr from Q.out.below).cell (hat 3 _ rfl)
            have m4 : wr.cell? ⟨bb, bo + k2 * 5 + 4, none⟩ = some (.slice kp2 y.kids.length kc2) := (show Bl w wr from Q.out.below).cell (hat 4 _ rfl)
            obtain ⟨-, f2, f3, f4⟩ := few_steps (a := a) (b := b) (i := A) (j := j + k2) (by omega) (by omega)
            have QX := Lib.hid (Q.out.later (Bl.alloc (Bl.refl wr) (.cells #[.int .i64 y.id, .int .i64 y.kd, .int .i64 y.fr, .int .i64 (Nd.to y), .slice kp2 y.kids.length kc2] 46)))
            have LV := Lib.hid (come_any _ w.heap.size sb y.kids.length kc2 kp2 _ _ _ _ y.id y.kd y.fr (Nd.to y) y.kids QX.out.sx (by omega) (by omega) (by omega) (fun W hW => HR2.out.below (QX.out.below.trans hW)) rfl (by omega))
            have SE := QX.out.sep.swap.lt HY.out (fun z hz => by rw [List.drop_eq_nil_of_le (by rw [HA.out]; omega)] at hz; cases hz)
            have CI := come_is HY.out SE.1 (nodeOk_is.1 (NDB.out y (List.mem_of_getElem? HY.out))).2.2.2.1
            have NX := Lib.hid (fun (W : World) (h : StP w.heap.size sb (dropsL (a.take A) b) (makesL a (b.take (j + k2)) ++ [⟨1, y.id, y.kd, 0, 0, []⟩]) (kidsL a (b.take (j + k2)) ++ (if (!(y.kids == [])) = true then [⟨2, y.id, 0, 0, 0, y.kids⟩] else [])) (spansL a (b.take (j + k2)) ++ [⟨3, y.id, 0, y.fr, Nd.to y, []⟩]) _ (.returned (.tuple #[])) W) => (⟨by rw [show j + (k2 + 1) = j + k2 + 1 by omega, CI.1, CI.2.1, CI.2.2.1]; exact h.2.2.2, SE.2.swap, by rw [show j + (k2 + 1) = j + k2 + 1 by omega, CI.2.2.2]; exact QX.out.kinds, QX.out.below.trans h.2.1⟩ : BS w W sb a b A (j + (k2 + 1))))
            have hk0 : (0 : Int) ≤ (k2 : Int) := by omega
            have hk1 : (k2 : Int) < (n8 : Int) := by omega
            clear hat hy SE CI hr2
            go_wp2_with (go_at_call 19; refine LV.out.mono ?_; rintro e w7 h7; obtain rfl := h7.1; have Q7 := Lib.hid (NX.out _ h7); clear h7)
            go_roundw
            case rel => exact ⟨k2 + 1, by omega, by go_num, Q7⟩
            case measure => simp [intOf]; omega
          · have ek2 : j + k2 = B := by omega
            rw [ek2] at Q
            obtain ⟨f1, f2, f3, f4⟩ := few_steps (a := a) (b := b) (i := A) (j := B) (by omega) (by omega)
            have TA : a.take A = a := List.take_of_length_le (by rw [HA.out]; exact Nat.le_refl _)
            have TB : b.take B = b := List.take_of_length_le (by rw [HB.out]; exact Nat.le_refl _)
            have Q0 := Q.out.sx
            have KT := Q.out.kinds
            have BT := Lib.hid Q.out.below
            rw [TA] at Q0 f1
            rw [TB] at Q0 KT f2 f3 f4
            have KTH := Lib.hid KT
            clear TA TB Q KT
            obtain ⟨v0, s0, v1, s1, v2, s2, v3, s3, S, g0, g1, g2, g3⟩ := Q0
            have CC := Lib.hid (concat_any _ w.heap.size sb _ S (fun r hr => by
              have l0 := (S.rows.own 0 _ rfl).len
              have l1 := (S.rows.own 1 _ rfl).len
              have l2 := (S.rows.own 2 _ rfl).len
              have l3 := (S.rows.own 3 _ rfl).len
              dsimp only at l0 l1 l2 l3
              simp only [List.mem_cons, List.not_mem_nil, or_false] at hr
              rcases hr with rfl | rfl | rfl | rfl <;> dsimp only <;> omega))
            have FIN := Lib.hid (fun (p : Option Addr) (c : Nat) (W : World) (hb2 : Bl wr W) (ho : lyS.Own W wr.heap.size (.slice p (lensT [(v0, s0, dropsL a b), (v1, s1, makesL a b), (v2, s2, kidsL a b), (v3, s3, spansL a b)] 4) c) (rowsT [(v0, s0, dropsL a b), (v1, s1, makesL a b), (v2, s2, kidsL a b), (v3, s3, spansL a b)] 4)) => bet_end (a := a) (b := b) S g0 g1 g2 g3 rfl BT.out hb2 ho)
            unfold CatP at CC
            generalize lensT [(v0, s0, dropsL a b), (v1, s1, makesL a b), (v2, s2, kidsL a b), (v3, s3, spansL a b)] 4 = T at CC FIN
            generalize rowsT [(v0, s0, dropsL a b), (v1, s1, makesL a b), (v2, s2, kidsL a b), (v3, s3, spansL a b)] 4 = rw4 at CC FIN
            clear S g0 g1 g2 g3
            go_wp2_with (go_at_call 21; refine CC.out.mono ?_; rintro e w9 ⟨p9, c9, rfl, o9, hb9⟩; have F9 := Lib.hid (FIN.out p9 c9 w9 hb9 o9); clear o9 hb9)
            go_ret2
            exact .inl ⟨KTH.out, F9.out⟩

set_option maxRecDepth 100000 in
theorem dbetween_any (w : World) (a : List Nd) (ra na : Int) (pa : Option Addr) (A ca : Nat) (b : List Nd) (rb nb : Int) (pb : Option Addr) (B cb : Nat) (hA : a.length = A) (hB : b.length = B) (ha : NodesR w pa a) (hb : NodesR w pb b) (la : A ≤ 140737488355328) (lb : B ≤ 140737488355328) (ka : ∀ x ∈ a, x.kids.length ≤ 140737488355328) (kb : ∀ x ∈ b, x.kids.length ≤ 140737488355328) (lca : A ≤ ca) (lcb : B ≤ cb) :
    Calls Try.prog 8 #[trV ra na pa A ca, trV rb nb pb B cb] w (fun e w' => (deltaB a ra na b rb nb = true ∧ BetYes (stepsL a b) w e w') ∨ (deltaB a ra na b rb nb = false ∧ DelNo w e w')) := by
  cases h1 : mayB a ra na (endN a ra) with
  | false => exact (between_no w a ra na pa A ca b rb nb pb B cb hA hB ha hb la lb ka kb (.inl h1)).mono fun e w' h => .inr ⟨by unfold deltaB; rw [h1]; rfl, h⟩
  | true =>
    cases h2 : mayB b rb nb (endN b rb) with
    | false => exact (between_no w a ra na pa A ca b rb nb pb B cb hA hB ha hb la lb ka kb (.inr (.inl h2))).mono fun e w' h => .inr ⟨by unfold deltaB; rw [h1, h2]; rfl, h⟩
    | true =>
      by_cases hr : ra = rb
      · have e : deltaB a ra na b rb nb = kindsB a b := by unfold deltaB; rw [h1, h2, hr]; simp
        rw [e]
        exact between_go w a ra na pa A ca b rb nb pb B cb hA hB ha hb la lb ka kb lca lcb h1 h2 hr
      · exact (between_no w a ra na pa A ca b rb nb pb B cb hA hB ha hb la lb ka kb (.inr (.inr hr))).mono fun e w' h => .inr ⟨by unfold deltaB; rw [h1, h2, beq_eq_false_iff_ne.2 hr]; rfl, h⟩

end Go.Proofs.Ytmeigoeknjoodaa
