/-
  The renewer in memory; the walks of same and whole. Conditions: as each theorem's premises say.
-/
import Derived.Test.YtmeigoeknjoodaaRw2
import Derived.Test.YtmeigoeknjoodaaRw3
import Derived.StillTailTactics
namespace Go.Proofs.Ytmeigoeknjoodaa
open Go.RowKit

/-- Both trees and both texts, as the renewer was made. -/
structure RF (w0 : World) (pa pb : Option Addr) (A B : Nat) (s u : ByteArray) (L M : List Nd) : Prop where
  ss : s.size ≤ 300
  su : u.size ≤ 300
  hA : L.length = A
  hB : M.length = B
  lA : A ≤ 4096
  lB : B ≤ 4096
  iL : ∀ (k : Nat) (x : Nd), L[k]? = some x → x.id = (k : Int)
  iM : ∀ (k : Nat) (x : Nd), M[k]? = some x → x.id = (k : Int)
  rL : NodesR w0 pa L
  rM : NodesR w0 pb M
/-- The renewer at block rb, its ids at block ig. -/
structure RS (w0 w : World) (rb ig N cN : Nat) (ra na rr nb : Int) (pa pb : Option Addr) (A ca B cb : Nat) (s u : ByteArray) (l : List Int) : Prop where
  bl : Bl w0 w
  obj : w.heap[rb]? = some (.cells #[.int .i64 ra, .int .i64 na, .slice pa A ca, .string s, .int .i64 rr, .int .i64 nb, .slice pb B cb, .string u, .slice (some ⟨ig, 0, none⟩) N cN] 79 (0, 0))
  ids : lyI.Own w w0.heap.size (.slice (some ⟨ig, 0, none⟩) N cN) l
  len : l.length = N
theorem RS.later {w0 w W : World} {rb ig N cN : Nat} {ra na rr nb : Int} {pa pb : Option Addr} {A ca B cb : Nat} {s u : ByteArray} {l : List Int} (h : RS w0 w rb ig N cN ra na rr nb pa pb A ca B cb s u l) (hb : Bl w W) : RS w0 W rb ig N cN ra na rr nb pa pb A ca B cb s u l :=
  ⟨h.bl.call hb, heap_of_below h.obj hb, h.ids.below hb, h.len⟩
where heap_of_below {w W : World} {k : Nat} {o : Obj} (h : w.heap[k]? = some o) (hb : Bl w W) : W.heap[k]? = some o := (Below.block hb k (Array.getElem?_eq_some_iff.1 h).1).trans h
theorem heap_later {w W : World} {k : Nat} {o : Obj} (h : w.heap[k]? = some o) (hb : Bl w W) : W.heap[k]? = some o := (Below.block hb k (Array.getElem?_eq_some_iff.1 h).1).trans h
/-- A box of another type stays, where ids are written. -/
theorem heap_grown {w W : World} {base ig N cN k : Nat} {l : List Int} {c : Array Value} {ty : TypeId} (h : w.heap[k]? = some (.cells c ty (0, 0))) (hg : w.grownBy W (some ig)) (hi : lyI.Own w base (.slice (some ⟨ig, 0, none⟩) N cN) l) (hty : ty ≠ 3) : W.heap[k]? = some (.cells c ty (0, 0)) :=
  (hg.block k (Array.getElem?_eq_some_iff.1 h).1 (fun e => by
    cases e
    obtain ⟨cur, hcur⟩ := hi.obj rfl
    exact type_ne h hcur hty rfl)).trans h
theorem RS.set {w0 w : World} {rb ig N cN : Nat} {ra na rr nb : Int} {pa pb : Option Addr} {A ca B cb : Nat} {s u : ByteArray} {l : List Int} (h : RS w0 w rb ig N cN ra na rr nb pa pb A ca B cb s u l) {c : Nat} (hc : c < N) (v : Int) :
    RS w0 (w.setCell ⟨ig, c, none⟩ (.int .i64 v)) rb ig N cN ra na rr nb pa pb A ca B cb s u (l.set c v) := by
  obtain ⟨y, hy⟩ : ∃ y, l[c]? = some y := ⟨_, List.getElem?_eq_getElem (by rw [h.len]; exact hc)⟩
  have hown := h.ids.set hy v
  rw [show c * lyI.sz = c from Nat.mul_one c] at hown
  have hg := set_grown w ig c (.int .i64 v)
  exact ⟨below_grown (grown_trans (grown_of_below h.bl (some ig)) hg (fun g e => .inl e)) (h.ids.lt rfl).1 (Nat.le_refl _), heap_grown h.obj hg h.ids (by decide), hown, by rw [List.length_set]; exact h.len⟩
theorem RS.cell {w0 w : World} {rb ig N cN : Nat} {ra na rr nb : Int} {pa pb : Option Addr} {A ca B cb : Nat} {s u : ByteArray} {l : List Int} (h : RS w0 w rb ig N cN ra na rr nb pa pb A ca B cb s u l) {c : Nat} (hc : c < N) : ∃ v, w.cell? ⟨ig, c, none⟩ = some (.int .i64 v) ∧ l[c]? = some v := by
  obtain ⟨y, hy⟩ : ∃ y, l[c]? = some y := ⟨_, List.getElem?_eq_getElem (by rw [h.len]; exact hc)⟩
  have := h.ids.at hy 0 _ rfl
  rw [show c * lyI.sz + 0 = c from Nat.mul_one c] at this
  exact ⟨y, this, hy⟩

/-- What a method that writes ids leaves. -/
def WrP (w0 w : World) (rb ig N cN : Nat) (ra na rr nb : Int) (pa pb : Option Addr) (A ca B cb : Nat) (s u : ByteArray) (l : List Int) (c : Nat) (v : List Int) (e : Ending) (w' : World) : Prop :=
  e = .returned (.tuple #[]) ∧ w.grownBy w' (some ig) ∧ ∃ l', RS w0 w' rb ig N cN ra na rr nb pa pb A ca B cb s u l' ∧ Put l l' c v

set_option maxRecDepth 100000 in
set_option maxHeartbeats 4000000 in
theorem same_any (w0 w : World) (rb ig N cN : Nat) (ra na rr nb : Int) (pa pb : Option Addr) (A ca B cb : Nat) (s u : ByteArray) (l : List Int) (L M : List Nd) (F : RF w0 pa pb A B s u L M) (R : RS w0 w rb ig N cN ra na rr nb pa pb A ca B cb s u l)
    (b c : Nat) (x y : Nt) (hx : Sub L s.size b x) (hy : Sub M u.size c y) : Calls Try.prog 54 #[.pointer (some ⟨rb, 0, none⟩), .int .i64 b, .int .i64 c] w (RetBelow (.returned (.bool (likeN s.data.toList u.data.toList x y))) w) := by
  have bA : b < A := by rw [← F.hA]; exact hx.lt
  have cB : c < B := by rw [← F.hB]; exact hy.lt
  obtain ⟨ab, ao, kp1, kc1, rfl, hat, hr⟩ := F.rL b _ hx.get
  obtain ⟨bb, bo, kp2, kc2, rfl, hat2, hr2⟩ := F.rM c _ hy.get
  have R0 := R.bl
  have FC := Lib.hid (fun (X : Ext w) => (fd_par F.iL (show b < L.length by rw [F.hA]; exact bA)) ▸ find_any ra na _ L A ca F.hA (b : Int) X.w (F.rL.below (R0.call X.below)) (by have := F.lA; omega))
  have LK := Lib.hid (fun (X : Ext w) => like_any s u F.ss F.su ra na rr nb _ _ L M A B ca cb F.hA F.hB F.lA F.lB F.iL F.iM x.size X.w b c x y kp1 kp2 (x.ks.ids idI (b + 1)).length kc1 (y.ks.ids idI (c + 1)).length kc2 (Nat.le_refl _) (F.rL.below (R0.call X.below)) (F.rM.below (R0.call X.below)) hx hy (hr.below (R0.call X.below)) (hr2.below (R0.call X.below)) (trees_len ..).symm (trees_len ..).symm)
  unfold trV nvV at *
  have O := Lib.hid R.obj
  have a0 : ∀ X : Ext w, X.w.cell? ⟨rb, 0, none⟩ = some (.int .i64 ra) := fun X => X.cell ((obj_cells O.out).1 0 _ rfl)
  have a1 : ∀ X : Ext w, X.w.cell? ⟨rb, 1, none⟩ = some (.int .i64 na) := fun X => X.cell ((obj_cells O.out).1 1 _ rfl)
  have a2 : ∀ X : Ext w, X.w.cell? ⟨rb, 2, none⟩ = some (.slice (some ⟨ab, ao, none⟩) A ca) := fun X => X.cell ((obj_cells O.out).1 2 _ rfl)
  have a3 : ∀ X : Ext w, X.w.cell? ⟨rb, 3, none⟩ = some (.string s) := fun X => X.cell ((obj_cells O.out).1 3 _ rfl)
  have a4 : ∀ X : Ext w, X.w.cell? ⟨rb, 4, none⟩ = some (.int .i64 rr) := fun X => X.cell ((obj_cells O.out).1 4 _ rfl)
  have a5 : ∀ X : Ext w, X.w.cell? ⟨rb, 5, none⟩ = some (.int .i64 nb) := fun X => X.cell ((obj_cells O.out).1 5 _ rfl)
  have a6 : ∀ X : Ext w, X.w.cell? ⟨rb, 6, none⟩ = some (.slice (some ⟨bb, bo, none⟩) B cb) := fun X => X.cell ((obj_cells O.out).1 6 _ rfl)
  have a7 : ∀ X : Ext w, X.w.cell? ⟨rb, 7, none⟩ = some (.string u) := fun X => X.cell ((obj_cells O.out).1 7 _ rfl)
  have n0 : ∀ X : Ext w, X.w.cell? ⟨ab, ao + b * 5, none⟩ = some (.int .i64 b) := fun X => X.cell (R0.cell (hat 0 _ rfl))
  have n1 : ∀ X : Ext w, X.w.cell? ⟨ab, ao + b * 5 + 1, none⟩ = some (.int .i64 x.kd) := fun X => X.cell (R0.cell (hat 1 _ rfl))
  have n2 : ∀ X : Ext w, X.w.cell? ⟨ab, ao + b * 5 + 2, none⟩ = some (.int .i64 x.fr) := fun X => X.cell (R0.cell (hat 2 _ rfl))
  have n3 : ∀ X : Ext w, X.w.cell? ⟨ab, ao + b * 5 + 3, none⟩ = some (.int .i64 x.to) := fun X => X.cell (R0.cell (hat 3 _ rfl))
  have n4 : ∀ X : Ext w, X.w.cell? ⟨ab, ao + b * 5 + 4, none⟩ = some (.slice kp1 (x.ks.ids idI (b + 1)).length kc1) := fun X => X.cell (R0.cell (hat 4 _ rfl))
  have m0 : ∀ X : Ext w, X.w.cell? ⟨bb, bo + c * 5, none⟩ = some (.int .i64 c) := fun X => X.cell (R0.cell (hat2 0 _ rfl))
  have m1 : ∀ X : Ext w, X.w.cell? ⟨bb, bo + c * 5 + 1, none⟩ = some (.int .i64 y.kd) := fun X => X.cell (R0.cell (hat2 1 _ rfl))
  have m2 : ∀ X : Ext w, X.w.cell? ⟨bb, bo + c * 5 + 2, none⟩ = some (.int .i64 y.fr) := fun X => X.cell (R0.cell (hat2 2 _ rfl))
  have m3 : ∀ X : Ext w, X.w.cell? ⟨bb, bo + c * 5 + 3, none⟩ = some (.int .i64 y.to) := fun X => X.cell (R0.cell (hat2 3 _ rfl))
  have m4 : ∀ X : Ext w, X.w.cell? ⟨bb, bo + c * 5 + 4, none⟩ = some (.slice kp2 (y.ks.ids idI (c + 1)).length kc2) := fun X => X.cell (R0.cell (hat2 4 _ rfl))
  have hb0 : (0 : Int) ≤ (b : Int) := by omega
  have hb1 : (b : Int) < (A : Int) := by omega
  have hc0 : (0 : Int) ≤ (c : Int) := by omega
  have hc1 : (c : Int) < (B : Int) := by omega
  clear F R hx hy hat hat2 hr hr2 R0 O bA cB
  go_enter Try.func54, Try.ntmps54
  go_wp2_with fail
  refine wp_region_ext (by kernel_rfl) (by kernel_rfl) ?_
  repeat (go_big_quiet_step (first | (go_at_call 24; exact Ext.calls (FC.out _)) | (go_at_call 53; exact Ext.calls (LK.out _)) | fail))
  refine wpQuiet_nil ?_
  rintro _ ⟨X, rfl⟩
  clear a0 a1 a2 a3 a4 a5 a6 a7 n0 n1 n2 n3 n4 m0 m1 m2 m3 m4
  go_wp2_with fail
  go_ret
  exact ⟨rfl, X.below⟩

end Go.Proofs.Ytmeigoeknjoodaa
