/-
  The walk of like. Conditions: as each theorem's premises say.
-/
import Derived.Test.YtmeigoeknjoodaaRw1
import Derived.Test.YtmeigoeknjoodaaRwA
import Derived.Deep.RegionHeld3
namespace Go.Proofs.Ytmeigoeknjoodaa
open Go.RowKit

/-- What was there in w is as it was. -/
def Bl (w W : World) : Prop := Below w.heap.size w W
theorem Bl.refl (w : World) : Bl w w := Below.refl _ _
theorem Bl.size {w W : World} (h : Bl w W) : w.heap.size ≤ W.heap.size := Below.size h
theorem Bl.drew {w W : World} (h : Bl w W) : Bl w W.drew := below_drew h
theorem Bl.alloc {w W : World} (h : Bl w W) (o : Obj) : Bl w (W.alloc o) := Below.alloc h h.size o
theorem Bl.call {w W W' : World} (h : Bl w W) (hb : Below W.heap.size W W') : Bl w W' := Below.trans h (hb.mono h.size)
theorem Bl.set {w W : World} (h : Bl w W) {g j : Nat} (hg : w.heap.size ≤ g) (u : Value) : Bl w (W.setCell ⟨g, j, none⟩ u) := below_set h hg u
theorem Bl.cell {w W : World} (h : Bl w W) {b o : Nat} {u : Value} (hc : w.cell? ⟨b, o, none⟩ = some u) : W.cell? ⟨b, o, none⟩ = some u := cell_later h hc
theorem bl_frozen {W W' : World} (h : Below W.heap.size W W') (b j : Nat) (hb : b < W.heap.size) : W'.frozen? ⟨b, j, none⟩ = W.frozen? ⟨b, j, none⟩ := by
  unfold World.frozen?
  rw [h.block b hb]
theorem bl_heap {W W' : World} (h : Below W.heap.size W W') (b : Nat) (hb : b < W.heap.size) : W'.heap[b]? = W.heap[b]? := h.block b hb
theorem bl_cellq {W W' : World} (h : Below W.heap.size W W') (b j : Nat) (hb : b < W.heap.size) : W'.cell? ⟨b, j, none⟩ = W.cell? ⟨b, j, none⟩ := h.cell (p := ⟨b, j, none⟩) hb

theorem bl_lt {W W' : World} (h : Below W.heap.size W W') (b : Nat) (hb : b < W.heap.size) : b < W'.heap.size := Nat.lt_of_lt_of_le hb h.size

/-- A node as a value. -/
def nvV (b : Nat) (x : Nt) (kp : Option Addr) (kn kc : Nat) : Value := .agg #[.int .i64 b, .int .i64 x.kd, .int .i64 x.fr, .int .i64 x.to, .slice kp kn kc]
set_option maxRecDepth 100000 in
set_option maxHeartbeats 1000000 in
theorem find_eq (root next : Int) (p : Option Addr) (ns : List Nd) (N cap : Nat) (hN : ns.length = N) (id : Int) (w : World) (h : NodesR w p ns) (hl : N ≤ 140737488355328) : Calls Try.prog 24 #[trV root next p N cap, .int .i64 id] w fun e w' => e = .returned (.int .i64 (fdZ ns id)) ∧ w' = w.alloc (.cells #[.int .i64 root, .int .i64 next, .slice p N cap] 24) := by
  have R := Lib.hid h; clear h
  have HN := Lib.hid hN; clear hN
  unfold trV
  go_enter Try.func24, Try.ntmps24
  go_wp2_with fail
  go_loopw [5] (fun v wr => ∃ j : Nat, j ≤ N ∧ v = .int .i64 j ∧ wr = w.alloc (.cells #[.int .i64 root, .int .i64 next, .slice p N cap] 24) ∧ Hid (fdI id (ns.drop j) j = fdI id ns 0)) (fun v _ => N - (intOf v).toNat)
  case atStart => exact ⟨0, by omega, rfl, rfl, Lib.hid rfl⟩
  case round =>
    obtain ⟨j, hj, rfl, rfl, E⟩ := hrel
    by_cases hlt : j < N
    · obtain ⟨x, hx⟩ : ∃ x, ns[j]? = some x := ⟨_, List.getElem?_eq_getElem (by rw [HN.out]; exact hlt)⟩
      obtain ⟨b, o, kp, kc, rfl, hat, -⟩ := R.out j x hx
      have c0 : w.cell? ⟨b, o + j * 5, none⟩ = some (.int .i64 x.id) := hat 0 _ rfl
      have hbl := World.block_lt_of_cell? w ⟨b, o + j * 5, none⟩ c0
      have hi0 : (0 : Int) ≤ (j : Int) := by omega
      have hi1 : (j : Int) < (N : Int) := by omega
      have DA := Lib.hid (drop_at hx)
      clear hat hx
      by_cases he : x.id = id
      · have q : (x.id == id) = true := by simpa using he
        have F : Hid (fdZ ns id = (j : Int)) := Lib.hid (by unfold fdZ; rw [← E.out, DA.out]; simp [fdI, he])
        clear he
        go_wp2_with fail
        go_ret
        exact ⟨retI (by rw [F.out]), rfl⟩
      · have q : (x.id == id) = false := by simpa using he
        have E' : Hid (fdI id (ns.drop (j + 1)) (j + 1) = fdI id ns 0) := Lib.hid (by rw [← E.out, DA.out]; simp [fdI, he])
        clear he
        go_wp2_with fail
        go_roundw
        case rel => exact ⟨j + 1, by omega, by go_num, trivial, E'⟩
        case measure => simp [intOf]; omega
    · have F : Hid (fdZ ns id = -1) := Lib.hid (by
        unfold fdZ
        rw [← E.out, List.drop_eq_nil_of_le (by rw [HN.out]; omega)]; rfl)
      go_wp2_with fail
      go_ret
      exact ⟨retI (by rw [F.out]), rfl⟩

theorem fd_par {L : List Nd} (hi : ∀ (k : Nat) (x : Nd), L[k]? = some x → x.id = (k : Int)) {c : Nat} (hc : c < L.length) : fdZ L (c : Int) = (c : Int) := by
  obtain ⟨x, hx⟩ : ∃ x, L[c]? = some x := ⟨_, List.getElem?_eq_getElem hc⟩
  rcases fd_cases L (c : Int) with ⟨k, y, h1, h2, h3, -⟩ | ⟨-, h2⟩
  · rw [h1, ← h3, hi k y h2]
  · exact absurd (hi c x hx) (get_none.1 h2 x (List.mem_of_getElem? hx))
theorem heap_old {W : World} {k : Nat} {o : Obj} (h : W.heap[k]? = some o) (o' : Obj) : (W.alloc o').heap[k]? = some o :=
  ((below1 (Below.refl W.heap.size W) (Nat.le_refl _) o').block k (Array.getElem?_eq_some_iff.1 h).1).trans h
theorem heap_new {W : World} {k : Nat} (hk : W.heap.size = k) (cs : Array Value) (ty : TypeId) : (W.alloc (.cells cs ty)).heap[k]? = some (.cells cs ty (0, 0)) := by
  subst hk; exact heap_alloc_new W _
/-- Four boxes just made. -/
theorem four_boxes (w : World) (c1 c2 c3 c4 : Array Value) (t1 t2 t3 t4 : TypeId) :
    (((((w.alloc (.cells c1 t1)).alloc (.cells c2 t2)).alloc (.cells c3 t3)).alloc (.cells c4 t4)).heap[w.heap.size]? = some (.cells c1 t1 (0, 0))) ∧
    (((((w.alloc (.cells c1 t1)).alloc (.cells c2 t2)).alloc (.cells c3 t3)).alloc (.cells c4 t4)).heap[w.heap.size + 1]? = some (.cells c2 t2 (0, 0))) ∧
    (((((w.alloc (.cells c1 t1)).alloc (.cells c2 t2)).alloc (.cells c3 t3)).alloc (.cells c4 t4)).heap[w.heap.size + 1 + 1]? = some (.cells c3 t3 (0, 0))) ∧
    (((((w.alloc (.cells c1 t1)).alloc (.cells c2 t2)).alloc (.cells c3 t3)).alloc (.cells c4 t4)).heap[w.heap.size + 1 + 1 + 1]? = some (.cells c4 t4 (0, 0))) := by
  refine ⟨heap_old (heap_old (heap_old (heap_new rfl _ _) _) _) _, heap_old (heap_old (heap_new (by simp) _ _) _) _, heap_old (heap_new (by simp) _ _) _, heap_new (by simp) _ _⟩
theorem tops_len_size (f : Fo) : f.trees.length ≤ f.size := by
  induction f with
  | nil => exact Nat.le_refl _
  | cons kd fr to' k r _ ih => rw [trees_cons, List.length_cons]; simp only [Fo.size]; omega
theorem size_row {L : List Nd} {N b : Nat} {x : Nt} (h : Sub L N b x) : x.ks.size ≤ L.length := by
  obtain ⟨r, e⟩ := h.row
  have := congrArg List.length e
  rw [List.length_drop, List.length_cons, List.length_append, Fo.flat_len] at this
  omega
/-- Two boxes, made and filled. -/
def TwoN (wr W : World) (v1 v2 : Value) (us vs : List Value) : Prop := ∃ xb yb, v1 = .pointer (some ⟨xb, 0, none⟩) ∧ v2 = .pointer (some ⟨yb, 0, none⟩) ∧ W.heap[xb]? = some (.cells us.toArray 46 (0, 0)) ∧ W.heap[yb]? = some (.cells vs.toArray 46 (0, 0)) ∧ Below wr.heap.size wr W

set_option maxRecDepth 100000 in
set_option maxHeartbeats 4000000 in
theorem like_any (s u : ByteArray) (hs : s.size ≤ 300) (hu : u.size ≤ 300) (ra na rb nb : Int) (pa pb : Option Addr) (L M : List Nd) (A B ca cb : Nat) (hA : L.length = A) (hB : M.length = B) (lA : A ≤ 4096) (lB : B ≤ 4096)
    (iL : ∀ (k : Nat) (x : Nd), L[k]? = some x → x.id = (k : Int)) (iM : ∀ (k : Nat) (x : Nd), M[k]? = some x → x.id = (k : Int)) :
    ∀ (n : Nat) (w : World) (b c : Nat) (x y : Nt) (kp kp' : Option Addr) (kn kc kn' kc' : Nat), x.size ≤ n → NodesR w pa L → NodesR w pb M → Sub L s.size b x → Sub M u.size c y →
      lyI.Row w kp (x.ks.ids idI (b + 1)) → lyI.Row w kp' (y.ks.ids idI (c + 1)) → x.ks.trees.length = kn → y.ks.trees.length = kn' →
      Calls Try.prog 53 #[trV ra na pa A ca, nvV b x kp kn kc, .string s, trV rb nb pb B cb, nvV c y kp' kn' kc', .string u] w (RetBelow (.returned (.bool (likeN s.data.toList u.data.toList x y))) w) := by
  intro n
  induction n with
  | zero => intro w b c x y _ _ _ _ _ _ hn; unfold Nt.size at hn; omega
  | succ n ih =>
    intro w b c x y kp kp' kn kc kn' kc' hn ha hb hx hy rx ry ex ey
    have IH := Lib.hid ih
    have RA := Lib.hid ha; have RB := Lib.hid hb; have SX := Lib.hid hx; have SY := Lib.hid hy; have RX := Lib.hid rx; have RY := Lib.hid ry; have EX := Lib.hid ex; have EY := Lib.hid ey; have HN := Lib.hid hn; have HA := Lib.hid hA; have HB := Lib.hid hB; have IL := Lib.hid iL; have IM := Lib.hid iM
    have FA := Lib.hid (fun (W : World) (hW : Below w.heap.size w W) (c : Nat) (hc : c < A) => (fd_par iL (show c < L.length by rw [hA]; exact hc)) ▸ find_eq ra na pa L A ca hA (c : Int) W (ha.below hW) (by omega))
    have FB := Lib.hid (fun (W : World) (hW : Below w.heap.size w W) (c : Nat) (hc : c < B) => (fd_par iM (show c < M.length by rw [hB]; exact hc)) ▸ find_eq rb nb pb M B cb hB (c : Int) W (hb.below hW) (by omega))
    have x1 := hx.span; have x2 := hx.top; have y1 := hy.span; have y2 := hy.top
    obtain ⟨bb1, bb2, bb3, bb4⟩ := four_boxes w #[.int .i64 ra, .int .i64 na, .slice pa A ca] #[.int .i64 b, .int .i64 x.kd, .int .i64 x.fr, .int .i64 x.to, .slice kp kn kc] #[.int .i64 rb, .int .i64 nb, .slice pb B cb] #[.int .i64 c, .int .i64 y.kd, .int .i64 y.fr, .int .i64 y.to, .slice kp' kn' kc'] 24 46 24 46
    have B1 := Lib.hid bb1; have B2 := Lib.hid bb2; have B3 := Lib.hid bb3; have B4 := Lib.hid bb4
    clear bb1 bb2 bb3 bb4
    have BW : Hid (Bl w ((((w.alloc (.cells #[.int .i64 ra, .int .i64 na, .slice pa A ca] 24)).alloc (.cells #[.int .i64 b, .int .i64 x.kd, .int .i64 x.fr, .int .i64 x.to, .slice kp kn kc] 46)).alloc (.cells #[.int .i64 rb, .int .i64 nb, .slice pb B cb] 24)).alloc (.cells #[.int .i64 c, .int .i64 y.kd, .int .i64 y.fr, .int .i64 y.to, .slice kp' kn' kc'] 46))) := Lib.hid ((((Bl.refl w).alloc _).alloc _).alloc _ |>.alloc _)
    clear ih ha hb hx hy rx ry ex ey hn hA hB iL iM
    unfold trV nvV at *
    go_enter Try.func53, Try.ntmps53
    go_upto_region 1 with fail
    generalize ((((w.alloc (.cells #[.int .i64 ra, .int .i64 na, .slice pa A ca] 24)).alloc (.cells #[.int .i64 b, .int .i64 x.kd, .int .i64 x.fr, .int .i64 x.to, .slice kp kn kc] 46)).alloc (.cells #[.int .i64 rb, .int .i64 nb, .slice pb B cb] 24)).alloc (.cells #[.int .i64 c, .int .i64 y.kd, .int .i64 y.fr, .int .i64 y.to, .slice kp' kn' kc'] 46)) = W4 at BW B1 B2 B3 B4 ⊢
    have c1 := (obj_cells B2.out).1 1 _ rfl
    have c2 := (obj_cells B2.out).1 2 _ rfl
    have c3 := (obj_cells B2.out).1 3 _ rfl
    have c4 := (obj_cells B2.out).1 4 _ rfl
    have d1 := (obj_cells B4.out).1 1 _ rfl
    have d2 := (obj_cells B4.out).1 2 _ rfl
    have d3 := (obj_cells B4.out).1 3 _ rfl
    have d4 := (obj_cells B4.out).1 4 _ rfl
    have k1 : (0 : Int) ≤ (x.fr : Int) := by omega
    have k2 : (x.fr : Int) ≤ (x.to : Int) := by omega
    have k3 : (x.to : Int) ≤ (s.size : Int) := by omega
    have k4 : (0 : Int) ≤ (y.fr : Int) := by omega
    have k5 : (y.fr : Int) ≤ (y.to : Int) := by omega
    have k6 : (y.to : Int) ≤ (u.size : Int) := by omega
    have rB : ∀ (z : Bool) (k : Nat), likeN s.data.toList u.data.toList x y = z → RetBelow (.returned (.bool (likeN s.data.toList u.data.toList x y))) w (.returned (.bool z)) (W4.drewN k) := fun z k hz => ⟨retB hz.symm, Below.trans BW.out ((dr_below _ _).mono BW.out.size)⟩
    have RBx := Lib.hid rB; clear rB
    by_cases hk : x.kd = y.kd
    · have q1 : ((x.kd : Int) != (y.kd : Int)) = false := by simp [hk]
      have HK := Lib.hid hk; clear hk
      by_cases hq : bytesL s.data.toList x.fr x.to = bytesL u.data.toList y.fr y.to
      · have q2 : ((s.extract x.fr x.to).toList == (u.extract y.fr y.to).toList) = true := by rw [Lib.toList_data, Lib.toList_data, ext_bytes, ext_bytes, hq]; simp
        have HQ := Lib.hid hq; clear hq
        by_cases hl : kn = kn'
        · subst hl
          have E0 : Hid (likeL s.data.toList u.data.toList x.fr y.fr x.ks.trees y.ks.trees = likeN s.data.toList u.data.toList x y) := Lib.hid (by
            unfold likeN
            rw [likeF_L, HK.out, HQ.out]; simp)
          have klen : kn ≤ 100000 := by
            have h1 := SX.out.lt
            have h2 := tops_len_size x.ks
            have h3 := size_row SX.out
            rw [HA.out] at h1 h3
            rw [← EX.out]; omega
          go_quiet (fail)
          go_wp2_with fail
          clear c1 c2 c3 c4 d1 d2 d3 d4 q1 q2
          go_loopw [13] (fun v wr => ∃ j : Nat, j ≤ kn ∧ v = .int .i64 j ∧ Hid (Bl W4 wr) ∧ Hid (likeL s.data.toList u.data.toList x.fr y.fr (x.ks.trees.drop j) (y.ks.trees.drop j) = likeN s.data.toList u.data.toList x y)) (fun v _ => kn - (intOf v).toNat)
          case atStart => exact ⟨0, by omega, rfl, Lib.hid (dr_below _ _), E0⟩
          case round =>
            obtain ⟨j, hj, rfl, BX, E⟩ := hrel
            have BR : Hid (Bl w wr) := Lib.hid (BW.out.call BX.out)
            have c4 : ∀ W, Bl wr W → W.cell? ⟨w.heap.size + 1, 4, none⟩ = some (.slice kp kn kc) := fun W hW => (BX.out.call hW).cell ((obj_cells B2.out).1 4 _ rfl)
            have c4' := c4 wr (Bl.refl _)
            by_cases hlt : j < kn
            · obtain ⟨⟨i1, p⟩, h1⟩ : ∃ o, (x.ks.tops (b + 1))[j]? = some o := ⟨_, List.getElem?_eq_getElem (by rw [← List.length_map (f := Prod.snd), tops_snd, EX.out]; exact hlt)⟩
              obtain ⟨⟨i2, q⟩, h2⟩ : ∃ o, (y.ks.tops (c + 1))[j]? = some o := ⟨_, List.getElem?_eq_getElem (by rw [← List.length_map (f := Prod.snd), tops_snd, EY.out]; exact hlt)⟩
              obtain ⟨s1, s2, s3⟩ := SX.out.kid h1
              obtain ⟨t1, t2, t3⟩ := SY.out.kid h2
              have g1 : x.ks.trees[j]? = some p := by rw [← tops_snd x.ks (b + 1), List.getElem?_map, h1]; rfl
              have g2 : y.ks.trees[j]? = some q := by rw [← tops_snd y.ks (c + 1), List.getElem?_map, h2]; rfl
              have E2 := E.out
              rw [likeL_drop g1 g2] at E2
              dsimp only at s1 s2 s3 t1 t2 t3
              obtain ⟨kb, ko, rfl, e0⟩ := ints_at RX.out s2
              obtain ⟨kb', ko', rfl, e0'⟩ := ints_at RY.out t2
              obtain ⟨ab, ao, kp1, kc1, rfl, hat, hr⟩ := RA.out i1 _ s1.get
              obtain ⟨bb, bo, kp2, kc2, rfl, hat2, hr2⟩ := RB.out i2 _ t1.get
              have SP := Lib.hid s1; have SQ := Lib.hid t1; have SZ : Hid (p.size ≤ n) := Lib.hid (by have := HN.out; omega)
              have EE := Lib.hid E2
              have i1l : i1 < A := by have := s1.lt; rw [HA.out] at this; exact this
              have i2l : i2 < B := by have := t1.lt; rw [HB.out] at this; exact this
              have hi10 : (0 : Int) ≤ (i1 : Int) := by omega
              have hi11 : (i1 : Int) < (A : Int) := by omega
              have hi20 : (0 : Int) ≤ (i2 : Int) := by omega
              have hi21 : (i2 : Int) < (B : Int) := by omega
              have hj0 : (0 : Int) ≤ (j : Int) := by omega
              have hj1 : (j : Int) < (kn : Int) := by omega
              have d4 : ∀ W, Bl wr W → W.cell? ⟨w.heap.size + 1 + 1 + 1, 4, none⟩ = some (.slice (some ⟨kb', ko', none⟩) kn kc') := fun W hW => (BX.out.call hW).cell ((obj_cells B4.out).1 4 _ rfl)
              have a0 : ∀ W, Bl wr W → W.cell? ⟨w.heap.size, 0, none⟩ = some (.int .i64 ra) := fun W hW => (BX.out.call hW).cell ((obj_cells B1.out).1 0 _ rfl)
              have a1 : ∀ W, Bl wr W → W.cell? ⟨w.heap.size, 1, none⟩ = some (.int .i64 na) := fun W hW => (BX.out.call hW).cell ((obj_cells B1.out).1 1 _ rfl)
              have a2 : ∀ W, Bl wr W → W.cell? ⟨w.heap.size, 2, none⟩ = some (.slice (some ⟨ab, ao, none⟩) A ca) := fun W hW => (BX.out.call hW).cell ((obj_cells B1.out).1 2 _ rfl)
              have b0 : ∀ W, Bl wr W → W.cell? ⟨w.heap.size + 1 + 1, 0, none⟩ = some (.int .i64 rb) := fun W hW => (BX.out.call hW).cell ((obj_cells B3.out).1 0 _ rfl)
              have b1 : ∀ W, Bl wr W → W.cell? ⟨w.heap.size + 1 + 1, 1, none⟩ = some (.int .i64 nb) := fun W hW => (BX.out.call hW).cell ((obj_cells B3.out).1 1 _ rfl)
              have b2 : ∀ W, Bl wr W → W.cell? ⟨w.heap.size + 1 + 1, 2, none⟩ = some (.slice (some ⟨bb, bo, none⟩) B cb) := fun W hW => (BX.out.call hW).cell ((obj_cells B3.out).1 2 _ rfl)
              have m0 : ∀ W, Bl wr W → W.cell? ⟨kb, ko + j, none⟩ = some (.int .i64 i1) := fun W hW => (BR.out.call hW).cell e0
              have m1 : ∀ W, Bl wr W → W.cell? ⟨kb', ko' + j, none⟩ = some (.int .i64 i2) := fun W hW => (BR.out.call hW).cell e0'
              have n0 : ∀ W, Bl wr W → W.cell? ⟨ab, ao + i1 * 5, none⟩ = some (.int .i64 i1) := fun W hW => (BR.out.call hW).cell (hat 0 _ rfl)
              have n1 : ∀ W, Bl wr W → W.cell? ⟨ab, ao + i1 * 5 + 1, none⟩ = some (.int .i64 p.kd) := fun W hW => (BR.out.call hW).cell (hat 1 _ rfl)
              have n2 : ∀ W, Bl wr W → W.cell? ⟨ab, ao + i1 * 5 + 2, none⟩ = some (.int .i64 p.fr) := fun W hW => (BR.out.call hW).cell (hat 2 _ rfl)
              have n3 : ∀ W, Bl wr W → W.cell? ⟨ab, ao + i1 * 5 + 3, none⟩ = some (.int .i64 p.to) := fun W hW => (BR.out.call hW).cell (hat 3 _ rfl)
              have n4 : ∀ W, Bl wr W → W.cell? ⟨ab, ao + i1 * 5 + 4, none⟩ = some (.slice kp1 (p.ks.ids idI (i1 + 1)).length kc1) := fun W hW => (BR.out.call hW).cell (hat 4 _ rfl)
              have o0 : ∀ W, Bl wr W → W.cell? ⟨bb, bo + i2 * 5, none⟩ = some (.int .i64 i2) := fun W hW => (BR.out.call hW).cell (hat2 0 _ rfl)
              have o1 : ∀ W, Bl wr W → W.cell? ⟨bb, bo + i2 * 5 + 1, none⟩ = some (.int .i64 q.kd) := fun W hW => (BR.out.call hW).cell (hat2 1 _ rfl)
              have o2 : ∀ W, Bl wr W → W.cell? ⟨bb, bo + i2 * 5 + 2, none⟩ = some (.int .i64 q.fr) := fun W hW => (BR.out.call hW).cell (hat2 2 _ rfl)
              have o3 : ∀ W, Bl wr W → W.cell? ⟨bb, bo + i2 * 5 + 3, none⟩ = some (.int .i64 q.to) := fun W hW => (BR.out.call hW).cell (hat2 3 _ rfl)
              have o4 : ∀ W, Bl wr W → W.cell? ⟨bb, bo + i2 * 5 + 4, none⟩ = some (.slice kp2 (q.ks.ids idI (i2 + 1)).length kc2) := fun W hW => (BR.out.call hW).cell (hat2 4 _ rfl)
              have FCA := Lib.hid (fun W (hW : Bl wr W) => FA.out W (BR.out.call hW) i1 i1l)
              have FCB := Lib.hid (fun W (hW : Bl wr W) => FB.out W (BR.out.call hW) i2 i2l)
              have HR := Lib.hid hr; have HR2 := Lib.hid hr2
              clear hat hat2 e0 e0' E2 s1 s2 s3 t1 t2 t3 h1 h2 g1 g2 hr hr2 FA FB
              go_upto_region 6 with fail
              go_cut [14, 15] (fun v1 v2 wx => TwoN wr wx v1 v2 [.int .i64 i1, .int .i64 p.kd, .int .i64 p.fr, .int .i64 p.to, .slice kp1 (p.ks.ids idI (i1 + 1)).length kc1] [.int .i64 i2, .int .i64 q.kd, .int .i64 q.fr, .int .i64 q.to, .slice kp2 (q.ks.ids idI (i2 + 1)).length kc2])
              case first =>
                have S0 := Bl.drew (Bl.refl wr)
                have S00 := Bl.refl wr
                have fd1 : ∀ (W : World) (a : Addr), W.drew.frozen? a = W.frozen? a := fun _ _ => rfl
                have fd2 : ∀ (W : World) (a : Addr), W.drew.cell? a = W.cell? a := fun _ _ => rfl
                have fd3 : ∀ (W : World), W.drew.heap.size = W.heap.size := fun _ => rfl
                have l0 : wr.heap.size ≤ wr.heap.size := Nat.le_refl _
                go_region_held3 (fun W => Bl wr W) ((repeat (first | with_reducible assumption | with_reducible refine Bl.alloc ?_ _ | with_reducible refine Bl.drew ?_ | (with_reducible refine Bl.set ?_ ?h _; case h => omega))))
                  (first | (go_at_call_of 24 (Value.slice (some ⟨ab, ao, none⟩) A ca); refine (FCA.out _ (by assumption)).mono ?_; rintro e w5 ⟨rfl, rfl⟩) | (go_at_call_of 24 (Value.slice (some ⟨bb, bo, none⟩) B cb); refine (FCB.out _ (by assumption)).mono ?_; rintro e w6 ⟨rfl, rfl⟩) | fail)
                all_goals
                  go_wp2_with fail
                  go_meet
                  refine ⟨_, _, rfl, rfl, ?_, ?_, ?_⟩
                  · show (World.alloc _ _).heap[_]? = _
                    repeat (first | exact heap_new (by simp) _ _ | refine heap_old ?_ _)
                  · show (World.alloc _ _).heap[_]? = _
                    repeat (first | exact heap_new (by simp) _ _ | refine heap_old ?_ _)
                  · exact Bl.drew (Bl.alloc (Bl.alloc (Bl.alloc (Bl.alloc (Bl.refl _) _) _) _) _)
              case rest =>
                obtain ⟨xb, yb, rfl, rfl, X, Y, hbx⟩ := hcut
                have CX := Lib.hid (show Bl wr _ from hbx)
                have BX2 := Lib.hid (BX.out.call hbx)
                have BR2 := Lib.hid (BR.out.call hbx)
                have pf := SP.out.span; have pt := SP.out.top; have qf := SQ.out.span; have qt := SQ.out.top
                have IHC := Lib.hid (IH.out _ i1 i2 p q kp1 kp2 (p.ks.ids idI (i1 + 1)).length kc1 (q.ks.ids idI (i2 + 1)).length kc2 SZ.out (RA.out.below BR2.out) (RB.out.below BR2.out) SP.out SQ.out (HR.out.below BR2.out) (HR2.out.below BR2.out) (trees_len ..).symm (trees_len ..).symm)
                have e2 := BX2.out.cell (u := .int .i64 x.fr) ((obj_cells B2.out).1 2 _ rfl)
                have e3 := BX2.out.cell (u := .int .i64 y.fr) ((obj_cells B4.out).1 2 _ rfl)
                have aa0 := a0 _ hbx; have aa1 := a1 _ hbx; have aa2 := a2 _ hbx
                have ab0 := b0 _ hbx; have ab1 := b1 _ hbx; have ab2 := b2 _ hbx
                have x0 := (obj_cells X).1 0 _ rfl
                have x1 := (obj_cells X).1 1 _ rfl
                have x2 := (obj_cells X).1 2 _ rfl
                have x3 := (obj_cells X).1 3 _ rfl
                have x4 := (obj_cells X).1 4 _ rfl
                have y0 := (obj_cells Y).1 0 _ rfl
                have y1 := (obj_cells Y).1 1 _ rfl
                have y2 := (obj_cells Y).1 2 _ rfl
                have y3 := (obj_cells Y).1 3 _ rfl
                have y4 := (obj_cells Y).1 4 _ rfl
                have w1 : IntKind.i64.wrap ((p.fr : Int) - (x.fr : Int)) = (p.fr : Int) - (x.fr : Int) := IntWalk.i64_in _ (by omega)
                have w2 : IntKind.i64.wrap ((q.fr : Int) - (y.fr : Int)) = (q.fr : Int) - (y.fr : Int) := IntWalk.i64_in _ (by omega)
                clear hbx X Y a0 a1 a2 b0 b1 b2 m0 m1 n0 n1 n2 n3 n4 o0 o1 o2 o3 o4 d4 FCA FCB c4 c4'
                by_cases hd : (p.fr : Int) - (x.fr : Int) = (q.fr : Int) - (y.fr : Int)
                · have qd : (((p.fr : Int) - (x.fr : Int)) != ((q.fr : Int) - (y.fr : Int))) = false := by simpa using hd
                  have EE2 := EE.out
                  rw [decide_eq_true hd, Bool.true_and] at EE2
                  clear hd
                  cases hz : likeN s.data.toList u.data.toList p q with
                  | false =>
                    rw [hz, Bool.false_and] at EE2
                    have F := Lib.hid EE2.symm
                    have IHC2 := IHC.out
                    rw [hz] at IHC2
                    have IHD := Lib.hid IHC2
                    clear EE2 hz IHC2 IHC
                    go_wp2_with (go_at_call 53; refine IHD.out.mono ?_; rintro e w7 ⟨rfl, hb7⟩; have B7 := Lib.hid (BR2.out.call hb7); clear hb7)
                    go_ret
                    exact ⟨retB (by rw [F.out]), B7.out⟩
                  | true =>
                    rw [hz, Bool.true_and] at EE2
                    have F := Lib.hid EE2
                    have IHC2 := IHC.out
                    rw [hz] at IHC2
                    have IHD := Lib.hid IHC2
                    clear EE2 hz IHC2 IHC
                    go_wp2_with (go_at_call 53; refine IHD.out.mono ?_; rintro e w7 ⟨rfl, hb7⟩; have B7 := Lib.hid (BX2.out.call hb7); clear hb7)
                    go_roundw
                    case rel => exact ⟨j + 1, by omega, by go_num, B7, F⟩
                    case measure => simp [intOf]; omega
                · have qd : (((p.fr : Int) - (x.fr : Int)) != ((q.fr : Int) - (y.fr : Int))) = true := by simpa using hd
                  have F : Hid (likeN s.data.toList u.data.toList x y = false) := Lib.hid (by rw [← EE.out, decide_eq_false hd, Bool.false_and, Bool.false_and])
                  clear hd
                  go_wp2_with fail
                  go_ret
                  exact ⟨retB (by rw [F.out]), BR2.out⟩
            · have F : Hid (likeN s.data.toList u.data.toList x y = true) := Lib.hid (by
                rw [← E.out, List.drop_eq_nil_of_le (by rw [EX.out]; omega), List.drop_eq_nil_of_le (by rw [EY.out]; omega)]; rfl)
              clear c4
              go_wp2_with fail
              go_ret
              exact ⟨retB (by rw [F.out]), BR.out⟩
        · have q3 : ((kn : Int) != (kn' : Int)) = true := by simp; omega
          have F : Hid (likeN s.data.toList u.data.toList x y = false) := Lib.hid (by
            unfold likeN
            rw [likeF_L, likeL_len (by rw [EX.out, EY.out]; exact hl), Bool.and_false])
          clear hl
          go_quiet (fail)
          go_wp2_with fail
          go_ret
          exact RBx.out _ _ F.out
      · have q2 : ((s.extract x.fr x.to).toList == (u.extract y.fr y.to).toList) = false := by
          rw [Lib.toList_data, Lib.toList_data, ext_bytes, ext_bytes]
          exact beq_eq_false_iff_ne.2 hq
        have F : Hid (likeN s.data.toList u.data.toList x y = false) := Lib.hid (by
          unfold likeN
          rw [beq_eq_false_iff_ne.2 hq, Bool.and_false, Bool.false_and])
        clear hq
        go_quiet (fail)
        go_wp2_with fail
        go_ret
        exact RBx.out _ _ F.out
    · have q1 : ((x.kd : Int) != (y.kd : Int)) = true := by simp; omega
      have F : Hid (likeN s.data.toList u.data.toList x y = false) := Lib.hid (by
        unfold likeN
        rw [beq_eq_false_iff_ne.2 hk, Bool.false_and, Bool.false_and])
      clear hk
      go_quiet (fail)
      go_wp2_with fail
      go_ret
      exact RBx.out _ _ F.out

end Go.Proofs.Ytmeigoeknjoodaa
