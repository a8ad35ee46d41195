/-
  Rw8, Rw9, Rw10, in one text. Conditions: as each theorem's premises say.
-/
import Derived.Test.YtmeigoeknjoodaaRw4
import Derived.Test.YtmeigoeknjoodaaPlA
import Derived.Test.YtmeigoeknjoodaaRw6
import Derived.Test.YtmeigoeknjoodaaMyB
import Derived.Test.YtmeigoeknjoodaaRw7
import Derived.Deep.OwnRows
namespace Go.Proofs.Ytmeigoeknjoodaa
open Go.RowKit

theorem par_len_le {l : List UInt8} (h : l.length ≤ 300) : (parN l).length ≤ 2000 := by
  rw [parN_len]
  have := (parK_ok l).2
  omega
theorem par_kids {l : List UInt8} (h : l.length ≤ 300) : ∀ x ∈ parN l, x.kids.length ≤ 2048 := by
  have h1 := par_may h
  exact (may_small h1).2
theorem par_mayN {l : List UInt8} (h : l.length ≤ 300) : mayB (parN l) 0 ((parN l).length : Nat) l.length = true := by
  have := par_may h
  rwa [show (((parN l).length : Nat) : Int) = (parK l).size + 1 by rw [parN_len]; omega]
theorem ba_len (s : ByteArray) : s.data.toList.length = s.size := by rw [Array.length_toList, ByteArray.size_data]

set_option maxRecDepth 100000 in
set_option maxHeartbeats 1000000 in
theorem shape_no (t : Value) (ra na : Int) (p : Option Addr) (n cap : Nat) (ht : t = trV ra na p n cap) (s : ByteArray) (w : World) (h : 300 < s.size) (hs : s.size ≤ maxLen) : Calls Try.prog 37 #[t, .string s] w (RetBelow (.returned (.bool false)) w) := by
  subst ht
  unfold trV
  have CALL := Lib.hid (fun W => parse_no s W h hs)
  clear h hs
  go_enter Try.func37, Try.ntmps37
  unfold NoTree at CALL
  go_wp2_with (go_at_call 15; refine (CALL.out _).mono ?_; rintro e w1 ⟨rfl, hb1⟩; have B1 := Lib.hid (Bl.call (Bl.alloc (Bl.refl w) _) hb1); clear hb1)
  go_ret
  exact ⟨rfl, Bl.alloc B1.out _⟩

set_option maxRecDepth 100000 in
set_option maxHeartbeats 4000000 in
theorem shape_yes (s : ByteArray) (w : World) (hs : s.size ≤ 300) (p : Option Addr) (N cap : Nat) (hN : (parN s.data.toList).length = N) (R : NodesR w p (parN s.data.toList)) : Calls Try.prog 37 #[trV 0 N p N cap, .string s] w (RetBelow (.returned (.bool true)) w) := by
  have hl : s.data.toList.length ≤ 300 := by rw [ba_len]; exact hs
  have hNl : N ≤ 2000 := by rw [← hN]; exact par_len_le hl
  have hN1 : 1 ≤ N := by rw [← hN, parN_len]; omega
  have CALL := Lib.hid (fun W => parse_yes s W hs)
  have TM := Lib.hid (fun (W : World) (hW : Bl w W) => treeMay_any 0 N (s.size : Int) p (parN s.data.toList) N cap hN W (R.below hW) (by omega) (fun x hx => Nat.le_trans (par_kids hl x hx) (by omega)))
  have hmay : mayB (parN s.data.toList) 0 N (s.size : Int) = true := by
    have := par_mayN hl
    rwa [hN, ba_len] at this
  rw [hmay] at TM
  have FC := Lib.hid (fun (W : World) (hW : Bl w W) => (show fdZ (parN s.data.toList) 0 = 0 from fd_par (L := parN s.data.toList) (fun k x hx => par_id hx) (c := 0) (by omega)) ▸ find_any 0 N p (parN s.data.toList) N cap hN 0 W (R.below hW) (by omega))
  have RR := Lib.hid R; have HN := Lib.hid hN
  unfold trV at *
  have SR := Sub.root s.data.toList
  rw [ba_len] at SR
  obtain ⟨ab, ao, kp1, kc1, rfl, hat, hr⟩ := R 0 _ SR.get
  have HAT := Lib.hid hat; have HR := Lib.hid hr
  have SX := Lib.hid SR
  clear R hN hmay hat hr SR
  go_enter Try.func37, Try.ntmps37
  have BX : Hid ((w.alloc (.cells #[.int .i64 0, .int .i64 N, .slice (some ⟨ab, ao, none⟩) N cap] 24)).heap[w.heap.size]? = some (.cells #[.int .i64 0, .int .i64 N, .slice (some ⟨ab, ao, none⟩) N cap] 24 (0, 0))) := Lib.hid (heap_new rfl _ _)
  go_upto_region 2 with (go_at_call 15; refine (CALL.out _).mono ?_; rintro e w1 ⟨p2, cap2, vs2, rfl, o1, hb1⟩; rw [HN.out] at o1 ⊢; have B1 := Lib.hid (Bl.call (Bl.alloc (Bl.refl w) _) hb1); have BX1 := Lib.hid (heap_later BX.out hb1); have O1 := Lib.hid o1.read; clear hb1 o1)
  have BX2 := Lib.hid (heap_later BX1.out (Bl.alloc (Bl.refl w1) (.cells #[.int .i64 0, .int .i64 N, .slice p2 N cap2] 24)))
  have BY2 : Hid ((w1.alloc (.cells #[.int .i64 0, .int .i64 N, .slice p2 N cap2] 24)).heap[w1.heap.size]? = some (.cells #[.int .i64 0, .int .i64 N, .slice p2 N cap2] 24 (0, 0))) := Lib.hid (heap_new rfl _ _)
  have B2 := Lib.hid (Bl.alloc B1.out (.cells #[.int .i64 0, .int .i64 N, .slice p2 N cap2] 24))
  have O2 := Lib.hid (O1.out.below (Bl.alloc (Bl.refl w1) (.cells #[.int .i64 0, .int .i64 N, .slice p2 N cap2] 24)))
  clear BX BX1 B1 O1 CALL
  obtain ⟨gy, hgy⟩ : ∃ g, g = w1.heap.size := ⟨_, rfl⟩
  rw [← hgy] at BY2 ⊢
  clear hgy
  generalize (w1.alloc (.cells #[.int .i64 0, .int .i64 N, .slice p2 N cap2] 24)) = w2 at BX2 BY2 B2 O2 ⊢
  obtain ⟨bb, bo, kp2, kc2, rfl, hat2, hr2⟩ := O2.out 0 _ SX.out.get
  have HAT2 := Lib.hid hat2; have HR2 := Lib.hid hr2
  clear hat2 hr2
  have x0 := (obj_cells BX2.out).1 0 _ rfl
  have x1 := (obj_cells BX2.out).1 1 _ rfl
  have x2 := (obj_cells BX2.out).1 2 _ rfl
  have y2 := (obj_cells BY2.out).1 2 _ rfl
  have y2A : ∀ W, Bl w2 W → W.cell? ⟨gy, 2, none⟩ = some (.slice (some ⟨bb, bo, none⟩) N cap2) := fun W hW => hW.cell y2
  have x2A : ∀ W, Bl w2 W → W.cell? ⟨w.heap.size, 2, none⟩ = some (.slice (some ⟨ab, ao, none⟩) N cap) := fun W hW => hW.cell x2
  go_upto_region 4 with (go_at_call 22; refine (TM.out _ B2.out).mono ?_; rintro e w3 ⟨rfl, hb3⟩; have B3 := Lib.hid (show Bl w2 w3 from hb3); have x2' := x2A _ hb3; have y2' := y2A _ hb3; clear hb3)
  clear x0 x1 x2 y2 y2A x2A x2' y2'
  have N1 : (1 : Int) ≤ (N : Int) := by omega
  have N2 : (0 : Int) < (N : Int) := by omega
  have BW := Lib.hid (B2.out.call B3.out)
  have LK := Lib.hid (fun (X : Ext w3) => like_any s s hs hs 0 N 0 N _ _ (parN s.data.toList) (parN s.data.toList) N N cap cap2 HN.out HN.out (by omega) (by omega) (fun k x hx => par_id hx) (fun k x hx => par_id hx) _ X.w 0 0 ⟨0, 0, s.size, parK s.data.toList⟩ ⟨0, 0, s.size, parK s.data.toList⟩ kp1 kp2 (Fo.ids idI (parK s.data.toList) 1).length kc1 (Fo.ids idI (parK s.data.toList) 1).length kc2 (Nat.le_refl _) (RR.out.below (BW.out.call X.below)) (O2.out.below (B3.out.call X.below)) SX.out SX.out (HR.out.below (BW.out.call X.below)) (HR2.out.below (B3.out.call X.below)) (trees_len ..).symm (trees_len ..).symm)
  simp only [likeN_self] at LK
  unfold trV nvV at LK
  have FX := Lib.hid (fun (X : Ext w3) => FC.out X.w (BW.out.call X.below))
  have a0 : ∀ X : Ext w3, X.w.cell? ⟨w.heap.size, 0, none⟩ = some (.int .i64 0) := fun X => (B3.out.call X.below).cell ((obj_cells BX2.out).1 0 _ rfl)
  have a1 : ∀ X : Ext w3, X.w.cell? ⟨w.heap.size, 1, none⟩ = some (.int .i64 N) := fun X => (B3.out.call X.below).cell ((obj_cells BX2.out).1 1 _ rfl)
  have a2 : ∀ X : Ext w3, X.w.cell? ⟨w.heap.size, 2, none⟩ = some (.slice (some ⟨ab, ao, none⟩) N cap) := fun X => (B3.out.call X.below).cell ((obj_cells BX2.out).1 2 _ rfl)
  have b0 : ∀ X : Ext w3, X.w.cell? ⟨gy, 0, none⟩ = some (.int .i64 0) := fun X => (B3.out.call X.below).cell ((obj_cells BY2.out).1 0 _ rfl)
  have b1 : ∀ X : Ext w3, X.w.cell? ⟨gy, 1, none⟩ = some (.int .i64 N) := fun X => (B3.out.call X.below).cell ((obj_cells BY2.out).1 1 _ rfl)
  have b2 : ∀ X : Ext w3, X.w.cell? ⟨gy, 2, none⟩ = some (.slice (some ⟨bb, bo, none⟩) N cap2) := fun X => (B3.out.call X.below).cell ((obj_cells BY2.out).1 2 _ rfl)
  have n0 : ∀ X : Ext w3, X.w.cell? ⟨ab, ao, none⟩ = some (.int .i64 0 ) := fun X => (BW.out.call X.below).cell (HAT.out 0 _ rfl)
  have n1 : ∀ X : Ext w3, X.w.cell? ⟨ab, ao + 1, none⟩ = some (.int .i64 0 ) := fun X => (BW.out.call X.below).cell (HAT.out 1 _ rfl)
  have n2 : ∀ X : Ext w3, X.w.cell? ⟨ab, ao + 2, none⟩ = some (.int .i64 0 ) := fun X => (BW.out.call X.below).cell (HAT.out 2 _ rfl)
  have n3 : ∀ X : Ext w3, X.w.cell? ⟨ab, ao + 3, none⟩ = some (.int .i64 s.size ) := fun X => (BW.out.call X.below).cell (HAT.out 3 _ rfl)
  have n4 : ∀ X : Ext w3, X.w.cell? ⟨ab, ao + 4, none⟩ = some (.slice kp1 (Fo.ids idI (parK s.data.toList) 1).length kc1 ) := fun X => (BW.out.call X.below).cell (HAT.out 4 _ rfl)
  have m0 : ∀ X : Ext w3, X.w.cell? ⟨bb, bo, none⟩ = some (.int .i64 0 ) := fun X => (B3.out.call X.below).cell (HAT2.out 0 _ rfl)
  have m1 : ∀ X : Ext w3, X.w.cell? ⟨bb, bo + 1, none⟩ = some (.int .i64 0 ) := fun X => (B3.out.call X.below).cell (HAT2.out 1 _ rfl)
  have m2 : ∀ X : Ext w3, X.w.cell? ⟨bb, bo + 2, none⟩ = some (.int .i64 0 ) := fun X => (B3.out.call X.below).cell (HAT2.out 2 _ rfl)
  have m3 : ∀ X : Ext w3, X.w.cell? ⟨bb, bo + 3, none⟩ = some (.int .i64 s.size ) := fun X => (B3.out.call X.below).cell (HAT2.out 3 _ rfl)
  have m4 : ∀ X : Ext w3, X.w.cell? ⟨bb, bo + 4, none⟩ = some (.slice kp2 (Fo.ids idI (parK s.data.toList) 1).length kc2 ) := fun X => (B3.out.call X.below).cell (HAT2.out 4 _ rfl)
  refine wp_region_ext (by kernel_rfl) (by kernel_rfl) ?_
  repeat (go_big_quiet_step (first | (go_at_call 24; exact Ext.calls (FX.out _)) | (go_at_call 53; exact Ext.calls (LK.out _)) | fail))
  refine wpQuiet_nil ?_
  rintro _ ⟨X, rfl⟩
  clear a0 a1 a2 b0 b1 b2 n0 n1 n2 n3 n4 m0 m1 m2 m3 m4
  go_wp2_with fail
  go_ret
  exact ⟨rfl, BW.out.call X.below⟩

theorem fill_len : ∀ (r : List (Option Nat)) (n : Nat), (fillA n r).length = r.length
  | [], _ => rfl
  | none :: r, n => by simp only [fillA, List.length_cons, fill_len r]
  | some _ :: r, n => by simp only [fillA, List.length_cons, fill_len r]
theorem fill_none {r : List (Option Nat)} {i : Nat} (h : r[i]? = some none) (n : Nat) : fillA n (r.take (i + 1)) = fillA n (r.take i) ++ [nextA n (r.take i)] ∧ nextA n (r.take (i + 1)) = nextA n (r.take i) + 1 := by
  induction r generalizing i n with
  | nil => simp at h
  | cons a r ih =>
    cases i with
    | zero =>
      simp only [List.getElem?_cons_zero, Option.some.injEq] at h
      subst h
      simp [fillA, nextA]
    | succ i =>
      simp only [List.getElem?_cons_succ] at h
      cases a with
      | none =>
        obtain ⟨h1, h2⟩ := ih h (n + 1)
        simp only [List.take_succ_cons, fillA, nextA, h1, h2, List.cons_append, and_self]
      | some v =>
        obtain ⟨h1, h2⟩ := ih h n
        simp only [List.take_succ_cons, fillA, nextA, h1, h2, List.cons_append, and_self]
theorem fill_some {r : List (Option Nat)} {i v : Nat} (h : r[i]? = some (some v)) (n : Nat) : fillA n (r.take (i + 1)) = fillA n (r.take i) ++ [v] ∧ nextA n (r.take (i + 1)) = nextA n (r.take i) := by
  induction r generalizing i n with
  | nil => simp at h
  | cons a r ih =>
    cases i with
    | zero =>
      simp only [List.getElem?_cons_zero, Option.some.injEq] at h
      subst h
      simp [fillA, nextA]
    | succ i =>
      simp only [List.getElem?_cons_succ] at h
      cases a with
      | none =>
        obtain ⟨h1, h2⟩ := ih h (n + 1)
        simp only [List.take_succ_cons, fillA, nextA, h1, h2, List.cons_append, and_self]
      | some v =>
        obtain ⟨h1, h2⟩ := ih h n
        simp only [List.take_succ_cons, fillA, nextA, h1, h2, List.cons_append, and_self]
theorem next_le : ∀ (r : List (Option Nat)) (n i : Nat), nextA n (r.take i) ≤ n + r.length
  | [], n, i => by simp [nextA]
  | a :: r, n, 0 => by simp [nextA]
  | none :: r, n, i + 1 => by
    have := next_le r (n + 1) i
    simp only [List.take_succ_cons, nextA, List.length_cons]; omega
  | some _ :: r, n, i + 1 => by
    have := next_le r n i
    simp only [List.take_succ_cons, nextA, List.length_cons]; omega
/-- The ids, when those of the first nodes are filled in. -/
def idsAt (n : Nat) (r : List (Option Nat)) (i : Nat) : List Int := (fillA n (r.take i)).map (fun (k : Nat) => (k : Int)) ++ (segV r).drop i
theorem ids_zero (n : Nat) (r : List (Option Nat)) : idsAt n r 0 = segV r := by simp [idsAt, fillA]
theorem ids_all (n : Nat) (r : List (Option Nat)) {i : Nat} (h : r.length ≤ i) : idsAt n r i = (fillA n r).map (fun (k : Nat) => (k : Int)) := by
  unfold idsAt
  rw [List.take_of_length_le h, List.drop_eq_nil_of_le (by rw [seg_len]; exact h), List.append_nil]
theorem ids_pre {n : Nat} {r : List (Option Nat)} {i : Nat} (h : i ≤ r.length) : ((fillA n (r.take i)).map (fun (k : Nat) => (k : Int))).length = i := by
  rw [List.length_map, fill_len, List.length_take]; omega
def valO : Option Nat → Int
  | some v => (v : Int)
  | none => -1
theorem seg_get {r : List (Option Nat)} {i : Nat} {o : Option Nat} (h : r[i]? = some o) : (segV r)[i]? = some (valO o) := by
  unfold segV
  rw [List.getElem?_map, h]
  cases o <;> rfl
theorem ids_get {n : Nat} {r : List (Option Nat)} {i : Nat} {o : Option Nat} (h : r[i]? = some o) : (idsAt n r i)[i]? = some (valO o) := by
  have hl := (List.getElem?_eq_some_iff.1 h).1
  unfold idsAt
  rw [List.getElem?_append_right (by rw [ids_pre (by omega)]; exact Nat.le_refl _), ids_pre (by omega), Nat.sub_self, List.getElem?_drop, Nat.add_zero, seg_get h]
theorem seg_drop {r : List (Option Nat)} {i : Nat} {o : Option Nat} (h : r[i]? = some o) : (segV r).drop i = valO o :: (segV r).drop (i + 1) := by
  obtain ⟨h1, h2⟩ := List.getElem?_eq_some_iff.1 (seg_get h)
  rw [List.drop_eq_getElem_cons h1, h2]
theorem ids_none {n : Nat} {r : List (Option Nat)} {i : Nat} (h : r[i]? = some none) : (idsAt n r i).set i ((nextA n (r.take i) : Nat) : Int) = idsAt n r (i + 1) := by
  have hl := (List.getElem?_eq_some_iff.1 h).1
  have hp := ids_pre (n := n) (r := r) (i := i) (by omega)
  unfold idsAt
  rw [(fill_none h n).1, seg_drop h, List.set_append_right _ _ (by omega), hp, Nat.sub_self]
  simp [valO]
theorem ids_some {n : Nat} {r : List (Option Nat)} {i v : Nat} (h : r[i]? = some (some v)) : idsAt n r i = idsAt n r (i + 1) := by
  unfold idsAt
  rw [(fill_some h n).1, seg_drop h]
  simp [valO]

/-! Nodes with their new ids -/
def reW (w : Nat → Int) (x : Nd) : Nd := ⟨w x.id.toNat, x.kd, x.fr, x.to, x.kids.map (fun k => w k.toNat)⟩
theorem ids_map (w : Nat → Int) : ∀ (f : Fo) (b : Nat), f.ids w b = (f.ids idI b).map (fun k => w k.toNat)
  | .nil, _ => rfl
  | .cons _ _ _ k r, b => by
    simp only [Fo.ids, List.map_cons, ids_map w r, Int.toNat_natCast]
theorem flat_map (w : Nat → Int) : ∀ (f : Fo) (b : Nat), f.flat w b = (f.flat idI b).map (reW w)
  | .nil, _ => rfl
  | .cons kd fr to' k r, b => by
    simp only [Fo.flat, List.map_cons, List.map_append, flat_map w k, flat_map w r]
    congr 1
    simp only [reW, Int.toNat_natCast, ids_map w k]
theorem renL_map (s u : List UInt8) : renL s u = (parN u).map (reW (widA s u)) := flat_map _ _ _
/-- The first nodes, put to their places. -/
def renP (s u : List UInt8) (i : Nat) : List Nd := ((renL s u).take i).foldl (fun ns x => insN x ns) []
theorem renL_nodup (s u : List UInt8) : ((renL s u).map Nd.id).Nodup := by
  rw [renL_ids]
  exact nodup_cast (ids_ok s u).1
theorem renL_len (s u : List UInt8) : (renL s u).length = (parN u).length := by rw [renL_map, List.length_map]
theorem renP_parts (s u : List UInt8) (i : Nat) : (renP s u i).Perm ((renL s u).take i) ∧ risesB (renP s u i) = true := by
  have := fold_ins ((renL s u).take i) [] rfl (by
    rw [List.nil_append]
    exact ((List.take_sublist i (renL s u)).map Nd.id).nodup (renL_nodup s u))
  rw [List.nil_append] at this
  exact this
theorem renP_len {s u : List UInt8} {i : Nat} (h : i ≤ (parN u).length) : (renP s u i).length = i := by
  rw [(renP_parts s u i).1.length_eq, List.length_take, renL_len]; omega
theorem renP_step {s u : List UInt8} {i : Nat} {x : Nd} (hx : (parN u)[i]? = some x) : plcN (reW (widA s u) x) (renP s u i) = renP s u (i + 1) := by
  have hr : (renL s u)[i]? = some (reW (widA s u) x) := by rw [renL_map, List.getElem?_map, hx]; rfl
  obtain ⟨h1, h2⟩ := renP_parts s u i
  rw [plc_ins _ h2 (fun y hy e => ?_)]
  · unfold renP
    rw [List.take_add_one, hr, List.foldl_append]
    rfl
  · obtain ⟨j, hj⟩ := List.mem_iff_getElem?.1 (h1.mem_iff.1 hy)
    have hji : j < i := by
      have := (List.getElem?_eq_some_iff.1 hj).1
      rw [List.length_take] at this; omega
    rw [List.getElem?_take_of_lt hji] at hj
    have e1 : ((renL s u).map Nd.id)[j]? = some y.id := by rw [List.getElem?_map, hj]; rfl
    have e2 : ((renL s u).map Nd.id)[i]? = some (reW (widA s u) x).id := by rw [List.getElem?_map, hr]; rfl
    have := (List.getElem?_inj (List.getElem?_eq_some_iff.1 e1).1 (renL_nodup s u)).1 (e1.trans ((congrArg some e).trans e2.symm))
    omega
theorem renP_all (s u : List UInt8) {i : Nat} (h : (parN u).length ≤ i) : renP s u i = renN s u := by
  unfold renP renN
  rw [List.take_of_length_le (by rw [renL_len]; exact h)]
/-- The id of a node that is there. -/
theorem wid_get {s u : List UInt8} {i : Nat} (h : i < (parN u).length) : ((idsA s u).map (fun (k : Nat) => (k : Int)))[i]? = some (widA s u i) := by
  have hl : i < (idsA s u).length := by rw [(ids_ok s u).2.1, ← parN_len]; exact h
  unfold widA
  rw [List.getElem?_map, List.getElem?_eq_getElem hl]
  rfl
/-- A node's children are nodes of the row. -/
theorem par_kid {l : List UInt8} (hl : l.length ≤ 300) {i : Nat} {x : Nd} (hx : (parN l)[i]? = some x) {c : Int} (hc : c ∈ x.kids) : ∃ k : Nat, c = (k : Int) ∧ k < (parN l).length := by
  have hm := mayC_is.1 (par_may hl)
  obtain ⟨z, hz, -⟩ := kids_found (hm.kids x (List.mem_of_getElem? hx)) c hc
  obtain ⟨h1, h2⟩ := get_some hz
  obtain ⟨k, hk⟩ := List.mem_iff_getElem?.1 h1
  exact ⟨k, by rw [← h2, par_id hk], (List.getElem?_eq_some_iff.1 hk).1⟩

set_option maxRecDepth 100000 in
set_option maxHeartbeats 1000000 in
theorem renew_noU (s u : ByteArray) (ra na : Int) (p : Option Addr) (n cap : Nat) (w : World) (h : 300 < u.size) (hu : u.size ≤ maxLen) : Calls Try.prog 16 #[trV ra na p n cap, .string s, .string u] w (RetBelow (.returned (.tuple #[NoTree, .int .i64 1300])) w) := by
  unfold trV
  have CALL := Lib.hid (fun W => parse_no u W h hu)
  clear h hu
  unfold NoTree at *
  go_enter Try.func16, Try.ntmps16
  have RB : Hid (((w.alloc (.cells #[.int .i64 ra, .int .i64 na, .slice p n cap] 24)).alloc (.cells #[.int .i64 0, .int .i64 0, .slice none 0 0] 24)).heap[w.heap.size + 1]? = some (.cells #[.int .i64 0, .int .i64 0, .slice none 0 0] 24 (0, 0))) := Lib.hid (heap_new (by simp) _ _)
  go_upto_region 3 with (go_at_call 15; refine (CALL.out _).mono ?_; rintro e w1 ⟨rfl, hb1⟩; have B1 := Lib.hid (Bl.call (Bl.alloc (Bl.alloc (Bl.refl w) _) _) hb1); have R1 := Lib.hid (heap_later RB.out hb1); clear hb1)
  have B2 := Lib.hid (Bl.alloc B1.out (.cells #[.int .i64 0, .int .i64 0, .slice none 0 0] 24))
  have R2 := Lib.hid (heap_later R1.out (Bl.alloc (Bl.refl w1) (.cells #[.int .i64 0, .int .i64 0, .slice none 0 0] 24)))
  generalize (w1.alloc (.cells #[.int .i64 0, .int .i64 0, .slice none 0 0] 24)) = w2 at B2 R2 ⊢
  have f1 := (obj_cells R2.out).2.1
  have c0 := (obj_cells R2.out).1 0 _ rfl
  have c1 := (obj_cells R2.out).1 1 _ rfl
  have c2 := (obj_cells R2.out).1 2 _ rfl
  clear R1 RB B1 CALL
  go_wp2_with fail
  refine bodyPost_ret (v := .tuple #[.agg #[.int .i64 0, .int .i64 0, .slice none 0 0], .int .i64 1300]) (by rw [results_cell_tmp rfl]; go_simp) rfl ⟨rfl, ?_⟩
  exact Bl.set (Bl.set (Bl.set B2.out (by omega) _) (by omega) _) (by omega) _

set_option maxRecDepth 100000 in
set_option maxHeartbeats 1000000 in
theorem renew_noS (s u : ByteArray) (ra na : Int) (p : Option Addr) (n cap : Nat) (w : World) (hu : u.size ≤ 300) (h : 300 < s.size) (hs : s.size ≤ maxLen) : Calls Try.prog 16 #[trV ra na p n cap, .string s, .string u] w (RetBelow (.returned (.tuple #[NoTree, .int .i64 1300])) w) := by
  unfold trV
  have CALL := Lib.hid (fun W => parse_yes u W hu)
  have SH := Lib.hid (fun W => shape_no _ ra na p n cap rfl s W h hs)
  clear h hs hu
  unfold NoTree trV at *
  go_enter Try.func16, Try.ntmps16
  have RB : Hid (((w.alloc (.cells #[.int .i64 ra, .int .i64 na, .slice p n cap] 24)).alloc (.cells #[.int .i64 0, .int .i64 0, .slice none 0 0] 24)).heap[w.heap.size + 1]? = some (.cells #[.int .i64 0, .int .i64 0, .slice none 0 0] 24 (0, 0))) := Lib.hid (heap_new (by simp) _ _)
  have TB : Hid (((w.alloc (.cells #[.int .i64 ra, .int .i64 na, .slice p n cap] 24)).alloc (.cells #[.int .i64 0, .int .i64 0, .slice none 0 0] 24)).heap[w.heap.size]? = some (.cells #[.int .i64 ra, .int .i64 na, .slice p n cap] 24 (0, 0))) := Lib.hid (heap_old (heap_new rfl _ _) _)
  go_upto_region 2 with (go_at_call 15; refine (CALL.out _).mono ?_; rintro e w1 ⟨p2, cap2, vs2, rfl, -, hb1⟩; have B1 := Lib.hid (Bl.call (Bl.alloc (Bl.alloc (Bl.refl w) _) _) hb1); have R1 := Lib.hid (heap_later RB.out hb1); have T1 := Lib.hid (heap_later TB.out hb1); clear hb1)
  generalize (parN u.data.toList).length = N
  have B2 := Lib.hid (Bl.alloc B1.out (.cells #[.int .i64 0, .int .i64 N, .slice p2 N cap2] 24))
  have R2 := Lib.hid (heap_later R1.out (Bl.alloc (Bl.refl w1) (.cells #[.int .i64 0, .int .i64 N, .slice p2 N cap2] 24)))
  have T2 := Lib.hid (heap_later T1.out (Bl.alloc (Bl.refl w1) (.cells #[.int .i64 0, .int .i64 N, .slice p2 N cap2] 24)))
  generalize (w1.alloc (.cells #[.int .i64 0, .int .i64 N, .slice p2 N cap2] 24)) = w2 at B2 R2 T2 ⊢
  have t0 := (obj_cells T2.out).1 0 _ rfl
  have t1 := (obj_cells T2.out).1 1 _ rfl
  have t2 := (obj_cells T2.out).1 2 _ rfl
  clear R1 RB B1 CALL T1 TB
  go_upto_region 3 with (go_at_call 37; refine (SH.out _).mono ?_; rintro e w3 ⟨rfl, hb3⟩; have B3 := Lib.hid (B2.out.call hb3); have R3 := Lib.hid (heap_later R2.out hb3); clear hb3)
  clear t0 t1 t2 R2 T2 B2
  have f1 := (obj_cells R3.out).2.1
  have c0 := (obj_cells R3.out).1 0 _ rfl
  have c1 := (obj_cells R3.out).1 1 _ rfl
  have c2 := (obj_cells R3.out).1 2 _ rfl
  go_wp2_with fail
  refine bodyPost_ret (v := .tuple #[.agg #[.int .i64 0, .int .i64 0, .slice none 0 0], .int .i64 1300]) (by rw [results_cell_tmp rfl]; go_simp) rfl ⟨rfl, ?_⟩
  exact Bl.set (Bl.set (Bl.set B3.out (by omega) _) (by omega) _) (by omega) _

end Go.Proofs.Ytmeigoeknjoodaa
