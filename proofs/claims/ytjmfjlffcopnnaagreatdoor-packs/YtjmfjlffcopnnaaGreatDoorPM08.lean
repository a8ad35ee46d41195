/-
  RwA, My2, in one text. Conditions: as each theorem's premises say.
-/
import Derived.Test.YtjmfjlffcopnnaaGreatDoorPM07
namespace Go.Proofs.YtjmfjlffcopnnaaGreatDoor
open Go.RowKit

theorem ints_at {w : World} {p : Option Addr} {l : List Int} (h : lyI.Row w p l) {i : Nat} {x : Int} (hx : l[i]? = some x) : ∃ b o, p = some ⟨b, o, none⟩ ∧ w.cell? ⟨b, o + i, none⟩ = some (.int .i64 x) := by
  obtain ⟨b, o, hp, hat⟩ := h i x hx
  have := hat 0 _ rfl
  exact ⟨b, o, hp, by simpa [lyI] using this⟩

theorem sum_take_succ {l : List Int} {g : Int → Nat} {j : Nat} {c : Int} (h : l[j]? = some c) : ((l.take (j + 1)).map g).sum = ((l.take j).map g).sum + g c := by
  rw [List.take_add_one, h]; simp
theorem sum_take_le (l : List Int) (g : Int → Nat) (j : Nat) : ((l.take j).map g).sum ≤ (l.map g).sum := by
  conv => rhs; rw [← List.take_append_drop j l, List.map_append, List.sum_append]
  omega
theorem reach_some {ns : List Nd} {f : Nat} {x : Nd} (h : getN ns x.id = some x) : reachN ns (f + 1) x.id = 1 + (x.kids.map (reachN ns f)).sum := by
  show (match getN ns x.id with | none => 0 | some x => 1 + (x.kids.map (reachN ns f)).sum) = _
  rw [h]

set_option maxRecDepth 100000 in
set_option maxHeartbeats 2000000 in
theorem reach_any (root next : Int) (p : Option Addr) (ns : List Nd) (N cap : Nat) (hN : ns.length = N) (hl : N ≤ 4096) (hkf : ∀ (k : Nat) y, ns[k]? = some y → ∀ c ∈ y.kids, ∃ z, getN ns c = some z) (hkl : ∀ (k : Nat) y, ns[k]? = some y → y.kids.length ≤ 100000) (hbd : ∀ f id, f ≤ N + 1 → reachN ns f id ≤ 1000000000) :
    ∀ (f D : Nat), D + f = N + 1 → ∀ (w : World) (k : Nat) (x : Nd), NodesR w p ns → ns[k]? = some x → getN ns x.id = some x →
      Calls Tryz.prog 100 #[trV root next p N cap, .int .i64 k, .int .i64 D] w (RetBelow (.returned (.int .i64 (reachN ns f x.id : Nat))) w) := by
  intro f
  induction f with
  | zero =>
    intro D hD w k x R hx hg
    have hD2 : N < D := by omega
    unfold trV
    clear hkf hbd hkl R hx hg hN hD
    go_enter Tryz.func100, Tryz.ntmps100
    go_wp2_with fail
    go_ret
    exact ⟨rfl, (Below.refl _ _).alloc (Nat.le_refl _) _⟩
  | succ f ih =>
    intro D hD w k x R hx hg
    have IH := Lib.hid ih
    have HR := Lib.hid R
    have RS := Lib.hid (reach_some (f := f) hg)
    have KF := Lib.hid (hkf k x hx)
    have BD := Lib.hid (hbd (f + 1) x.id (by omega))
    have BD2 := Lib.hid (fun c => hbd f c (by omega))
    have hkn := hkl k x hx
    have FA := Lib.hid (fun (W : World) (hW : Below w.heap.size w W) (c : Int) => find_any root next p ns N cap hN c W (HR.out.below hW) (by omega))
    have hk : k < N := by rw [← hN]; exact (List.getElem?_eq_some_iff.1 hx).1
    obtain ⟨b, o, kp, kc, rfl, hat, hrow⟩ := R k x hx
    have c4 : w.cell? ⟨b, o + k * 5 + 4, none⟩ = some (.slice kp x.kids.length kc) := hat 4 _ rfl
    have ROW := Lib.hid hrow
    have hD2 : D ≤ N := by omega
    have hi0 : (0 : Int) ≤ (k : Int) := by omega
    have hi1 : (k : Int) < (N : Int) := by omega
    have HD : Hid (D + 1 + f = N + 1) := Lib.hid (by omega)
    clear R ih hkf hbd hkl hx hg hat hrow hD hN
    unfold trV at *
    go_enter Tryz.func100, Tryz.ntmps100
    go_wp2_with fail
    go_loopw [7, 8] (fun s v wr => ∃ j : Nat, j ≤ x.kids.length ∧ v = .int .i64 j ∧ s = .int .i64 ((1 + ((x.kids.take j).map (reachN ns f)).sum : Nat)) ∧ Hid (Below w.heap.size w wr) ∧ Hid (wr.heap[w.heap.size]? = some (.cells #[.int .i64 root, .int .i64 next, .slice (some ⟨b, o, none⟩) N cap] 26 (0, 0)))) (fun _ v _ => x.kids.length - (intOf v).toNat)
    case atStart => exact ⟨0, by omega, rfl, rfl, Lib.hid ((Below.refl _ _).alloc (Nat.le_refl _) _), Lib.hid (heap_alloc_new w _)⟩
    case round =>
      obtain ⟨j, hj, rfl, rfl, B, BX⟩ := hrel
      have SL := Lib.hid (sum_take_le x.kids (reachN ns f) j)
      have c4' := cell_later B.out c4
      have x0 := (obj_cells BX.out).1 0 _ rfl
      have x1 := (obj_cells BX.out).1 1 _ rfl
      have x2 := (obj_cells BX.out).1 2 _ rfl
      by_cases hlt : j < x.kids.length
      · obtain ⟨c, hc⟩ : ∃ c, x.kids[j]? = some c := ⟨_, List.getElem?_eq_getElem hlt⟩
        obtain ⟨kb, ko, rfl, d0⟩ := ints_at ROW.out hc
        have d1 := cell_later B.out d0
        obtain ⟨z, hz⟩ := KF.out c (List.mem_of_getElem? hc)
        have SS := Lib.hid (sum_take_succ (g := reachN ns f) hc)
        have SL2 := Lib.hid (sum_take_le x.kids (reachN ns f) (j + 1))
        rcases fd_cases ns c with ⟨kk, y, h1, h2, h3, h4⟩ | ⟨h1, h2⟩
        · have FC : Hid (∀ X : Ext wr, Calls Tryz.prog 99 #[.agg #[.int .i64 root, .int .i64 next, .slice (some ⟨b, o, none⟩) N cap], .int .i64 c] X.w (RetBelow (.returned (.int .i64 kk)) X.w)) := Lib.hid (fun X => by
            have := FA.out X.w (B.out.trans (X.below.mono B.out.size)) c
            rw [h1] at this
            exact this)
          have RC : Hid (∀ X : Ext wr, Calls Tryz.prog 100 #[.agg #[.int .i64 root, .int .i64 next, .slice (some ⟨b, o, none⟩) N cap], .int .i64 kk, .int .i64 ((D : Int) + 1)] X.w (RetBelow (.returned (.int .i64 (reachN ns f c : Nat))) X.w)) := Lib.hid (fun X => by
            have := IH.out (D + 1) HD.out X.w kk y (HR.out.below (B.out.trans (X.below.mono B.out.size))) h2 (by rw [h3]; exact h4)
            rw [h3] at this
            exact this)
          have bdc := BD2.out c
          have bd1 : ((x.kids.take j).map (reachN ns f)).sum ≤ 1000000000 := by have := BD.out; rw [RS.out] at this; have := SL.out; omega
          generalize reachN ns f c = rc at *
          have SS2 : Hid (1 + ((x.kids.take (j + 1)).map (reachN ns f)).sum = 1 + ((x.kids.take j).map (reachN ns f)).sum + rc) := Lib.hid (by rw [SS.out]; omega)
          generalize ((x.kids.take j).map (reachN ns f)).sum = sm at *
          have wr1 : IntKind.i64.wrap (((1 + sm : Nat) : Int) + (rc : Int)) = ((1 + sm + rc : Nat) : Int) := by rw [IntWalk.i64_in _ (by omega)]; omega
          have wr2 : IntKind.i64.wrap ((D : Int) + 1) = (D : Int) + 1 := IntWalk.i64_in _ (by omega)
          have y0 : ∀ X : Ext wr, X.w.cell? ⟨w.heap.size, 0, none⟩ = some (.int .i64 root) := fun X => X.cell x0
          have y1 : ∀ X : Ext wr, X.w.cell? ⟨w.heap.size, 1, none⟩ = some (.int .i64 next) := fun X => X.cell x1
          have y2 : ∀ X : Ext wr, X.w.cell? ⟨w.heap.size, 2, none⟩ = some (.slice (some ⟨b, o, none⟩) N cap) := fun X => X.cell x2
          have y4 : ∀ X : Ext wr, X.w.cell? ⟨b, o + k * 5 + 4, none⟩ = some (.slice (some ⟨kb, ko, none⟩) x.kids.length kc) := fun X => X.cell c4'
          have y5 : ∀ X : Ext wr, X.w.cell? ⟨kb, ko + j, none⟩ = some (.int .i64 c) := fun X => X.cell d1
          have hj0 : (0 : Int) ≤ (j : Int) := by omega
          have hj1 : (j : Int) < (x.kids.length : Int) := by omega
          clear h1 h2 h3 h4 hz hc d0 SL SL2 SS
          go_wp2_with fail
          refine wp_region_ext (by kernel_rfl) (by kernel_rfl) ?_
          repeat (go_big_quiet_step (first | (go_at_call 99; exact Ext.calls (FC.out _)) | (go_at_call 100; exact Ext.calls (RC.out _))))
          refine wpQuiet_nil ?_
          rintro _ ⟨X, rfl⟩
          clear y0 y1 y2 y4 y5 wr1 wr2
          go_wp2_with fail
          go_roundw
          case rel => exact ⟨j + 1, by omega, by go_num, by rw [SS2.out]; go_num, Lib.hid (B.out.trans (X.below.mono B.out.size)), Lib.hid ((X.below.block _ (Array.getElem?_eq_some_iff.1 BX.out).1).trans BX.out)⟩
          case measure => simp [intOf]; omega
        · rw [h2] at hz; cases hz
      · have F : Hid (reachN ns (f + 1) x.id = 1 + ((x.kids.take j).map (reachN ns f)).sum) := Lib.hid (by rw [RS.out, List.take_of_length_le (by omega)])
        go_wp2_with fail
        go_ret
        exact ⟨retI (by rw [F.out]), B.out⟩

end Go.Proofs.YtjmfjlffcopnnaaGreatDoor

namespace Go.Proofs.YtjmfjlffcopnnaaGreatDoor
open Go.RowKit

/-- Is a child wrong, ahead of which the one before ends at last, below a node that ends at tt? -/
def badK (last tt : Int) (y : Nd) : Bool := !belowK y.kd || decide (y.fr < last) || decide (Nd.to y < y.fr) || decide (tt < Nd.to y)
/-- The children taken out of those that are left, one behind the other. -/
def takeN (tt : Int) : Int → List Int → List Nd → Option (List Nd × List Nd)
  | _, [], L => some ([], L)
  | last, c :: cs, L => match fdI c L 0 with
    | none => none
    | some i => match L[i]? with
      | none => none
      | some y => if badK last tt y then none else (takeN tt (Nd.to y) cs (L.eraseIdx i)).map (fun r => (y :: r.1, r.2))
def kidsN (n : Nd) (L : List Nd) : Option (List Nd × List Nd) := if !n.kids.isEmpty && leafK n.kd then none else takeN (Nd.to n) n.fr n.kids L

theorem EntN.erase {w : World} {l : List (Int × Value)} {L : List Nd} (h : EntN w l L) (i : Nat) (hi : i < L.length) : EntN w (l.eraseIdx i) (L.eraseIdx i) := by
  have hil : i < l.length := by rw [h.len]; exact hi
  refine ⟨by rw [List.length_eraseIdx_of_lt hil, List.length_eraseIdx_of_lt hi, h.len], fun j n hj => ?_⟩
  rw [List.getElem?_eraseIdx] at hj ⊢
  split
  · rename_i hji
    rw [if_pos hji] at hj
    exact h.ent j n hj
  · rename_i hji
    rw [if_neg hji] at hj
    exact h.ent (j + 1) n hj
theorem ent_atK {w : World} {c : Int} : ∀ {l : List (Int × Value)} {L : List Nd} {k : Nat}, (∀ (i : Nat) n, L[i]? = some n → ∃ kp kc, l[i]? = some (n.id, ndV n kp kc) ∧ lyI.Row w kp n.kids) → l.length = L.length →
    (fdI c L k = none ∧ atK c l k = none) ∨ ∃ i y kp kc, k ≤ i ∧ fdI c L k = some i ∧ L[i - k]? = some y ∧ atK c l k = some (i, ndV y kp kc) ∧ lyI.Row w kp y.kids ∧ i - k < L.length
  | [], [], _, _, _ => .inl ⟨rfl, rfl⟩
  | [], _ :: _, _, _, h => by simp at h
  | _ :: _, [], _, _, h => by simp at h
  | q :: l, x :: L, k, h, hl => by
    obtain ⟨kp, kc, h1, h2⟩ := h 0 x rfl
    simp only [List.getElem?_cons_zero, Option.some.injEq] at h1
    subst h1
    unfold fdI atK
    by_cases e : x.id = c
    · rw [if_pos e, if_pos e.symm]
      exact .inr ⟨k, x, kp, kc, Nat.le_refl _, rfl, by simp, rfl, h2, by simp⟩
    · rw [if_neg e, if_neg (fun h => e h.symm)]
      rcases ent_atK (l := l) (L := L) (k := k + 1) (fun i n hi => h (i + 1) n hi) (by simpa using hl) with ⟨a, b⟩ | ⟨i, y, kp', kc', a, b, d, f, g, hh⟩
      · exact .inl ⟨a, b⟩
      · refine .inr ⟨i, y, kp', kc', by omega, b, ?_, f, g, ?_⟩
        · rw [show i - k = (i - (k + 1)) + 1 by omega, List.getElem?_cons_succ]; exact d
        · rw [List.length_cons]; omega
/-- Nodes appended to a row, each with its children's row where it lies. -/
def RowK (w0 w : World) (base : Nat) (v : Value) (ks : List Nd) : Prop := ∃ vs : List Nv, lyN.Own w base v vs ∧ vs.length = ks.length ∧ ∀ (i : Nat) n, ks[i]? = some n → ∃ kp kc, vs[i]? = some ⟨n.id, n.kd, n.fr, Nd.to n, kp, n.kids.length, kc⟩ ∧ lyI.Row w0 kp n.kids

theorem MapN.obj {w : World} {b : Nat} {l : List (Int × Value)} (h : MapN w b l) : ∃ es clock, w.heap[b]? = some (.map es clock) := by
  obtain ⟨es, clock, h1, -⟩ := h
  exact ⟨es, clock, h1⟩
theorem map_nocell {w : World} {b : Nat} {l : List (Int × Value)} (h : MapN w b l) (o : Nat) : w.cell? ⟨b, o, none⟩ = none := by
  obtain ⟨es, clock, h1⟩ := h.obj
  simp [World.cell?, h1]
/-- What lies in cells stays, when a map is written. -/
theorem cell_map {w W : World} {mb b o : Nat} {l : List (Int × Value)} {u : Value} (hm : MapN w mb l) (hg : w.grownBy W (some mb)) (h : w.cell? ⟨b, o, none⟩ = some u) : W.cell? ⟨b, o, none⟩ = some u :=
  hg.cell (a := ⟨b, o, none⟩) h (fun e => by
    have e' : b = mb := Option.some.inj e
    subst e'
    rw [map_nocell hm] at h; cases h)
theorem obj_map {w W : World} {mb b : Nat} {l : List (Int × Value)} {c : Array Value} {t : TypeId} {fr : Nat × Nat} (hm : MapN w mb l) (hg : w.grownBy W (some mb)) (h : w.heap[b]? = some (.cells c t fr)) : W.heap[b]? = some (.cells c t fr) :=
  (hg.block b (Array.getElem?_eq_some_iff.1 h).1 (fun e => by
    have e' : b = mb := Option.some.inj e
    subst e'
    obtain ⟨es, clock, h1⟩ := hm.obj
    rw [h1] at h; cases h)).trans h
theorem own_map {w W : World} {mb base : Nat} {l : List (Int × Value)} {α : Type} {L : Ly α} {v : Value} {xs : List α} (hm : MapN w mb l) (hg : w.grownBy W (some mb)) (h : L.Own w base v xs) : L.Own W base v xs :=
  h.kept hg (fun g hgg e => by
    obtain ⟨cur, hc⟩ := h.obj hgg
    cases e
    obtain ⟨es, clock, h1⟩ := hm.obj
    rw [h1] at hc; cases hc)
theorem obj_row {w W : World} {row : Option Nat} {b : Nat} {o : Obj} (hg : w.grownBy W row) (h : w.heap[b]? = some o) (hne : row ≠ some b) : W.heap[b]? = some o :=
  (hg.block b (Array.getElem?_eq_some_iff.1 h).1 (fun e => hne e.symm)).trans h
theorem MapN.keptR {w w' : World} {b : Nat} {row : Option Nat} {l : List (Int × Value)} (h : MapN w b l) (hg : w.grownBy w' row) (hne : row ≠ some b) : MapN w' b l := by
  obtain ⟨es, clock, h1, h2⟩ := h
  exact ⟨es, clock, obj_row hg h1 hne, h2⟩
/-- What takeKids answers. -/
def TkPost (n : Nd) (L : List Nd) (mb : Nat) (w0 w : World) (e : Ending) (w' : World) : Prop :=
  w.grownBy w' (some mb) ∧ ((kidsN n L = none ∧ e = .returned (.tuple #[.slice none 0 0, .bool false])) ∨
    ∃ ks L' l' p cap, kidsN n L = some (ks, L') ∧ e = .returned (.tuple #[.slice p ks.length cap, .bool true]) ∧ MapN w' mb l' ∧ EntN w0 l' L' ∧ RowK w0 w' w.heap.size (.slice p ks.length cap) ks ∧ ks.length + L'.length ≤ L.length ∧ (ks = [] → p = none ∧ cap = 0))

set_option maxRecDepth 100000 in
set_option maxHeartbeats 1000000 in
theorem take_leaf (n : Nd) (kp : Option Addr) (kc mb : Nat) (L : List Nd) (w0 w : World) (hk : 0 < n.kids.length) (hlf : leafK n.kd = true) : Calls Tryz.prog 95 #[.map (some mb), ndV n kp kc] w (TkPost n L mb w0 w) := by
  have NO : Hid (kidsN n L = none) := Lib.hid (by
    unfold kidsN
    have : n.kids.isEmpty = false := by cases h : n.kids with
      | nil => rw [h] at hk; simp at hk
      | cons => rfl
    rw [this, hlf]; rfl)
  have HL := Lib.hid hlf; clear hlf
  unfold ndV
  go_enter Tryz.func95, Tryz.ntmps95
  go_wp2_with (go_at_call 130; refine (holds_any _ _).mono ?_; rintro e w1 ⟨rfl, rfl⟩; rw [HL.out])
  go_ret2
  exact ⟨grown_of_below ((Below.refl _ _).alloc (Nat.le_refl _) _) _, .inl ⟨NO.out, rfl⟩⟩

theorem ints_atM {w : World} {p : Option Addr} {l : List Int} (h : lyI.Row w p l) {i : Nat} {x : Int} (hx : l[i]? = some x) : ∃ b o, p = some ⟨b, o, none⟩ ∧ w.cell? ⟨b, o + i, none⟩ = some (.int .i64 x) := by
  obtain ⟨b, o, hp, hat⟩ := h i x hx
  have := hat 0 _ rfl
  exact ⟨b, o, hp, by simpa [lyI] using this⟩
theorem takeN_none {tt last c : Int} {cs : List Int} {L : List Nd} (h : fdI c L 0 = none) : takeN tt last (c :: cs) L = none := by
  unfold takeN; rw [h]
theorem takeN_some {tt last c : Int} {cs : List Int} {L : List Nd} {i : Nat} {y : Nd} (h : fdI c L 0 = some i) (hy : L[i]? = some y) : takeN tt last (c :: cs) L = (if badK last tt y then none else (takeN tt (Nd.to y) cs (L.eraseIdx i)).map (fun r => (y :: r.1, r.2))) := by
  conv => lhs; unfold takeN
  rw [h]; simp only [hy]
/-- What the loop of takeKids holds. -/
structure TI (w0 w : World) (n : Nd) (L : List Nd) (kp : Option Addr) (kc mb : Nat) (wr : World) (j : Nat) (last : Int) (L' : List Nd) (l' : List (Int × Value)) (ks : List Nd) (v : Value) : Prop where
  map : MapN wr mb l'
  ent : EntN w0 l' L'
  row : RowK w0 wr (w.heap.size + 1) v ks
  eq : (takeN (Nd.to n) last (n.kids.drop j) L').map (fun r => (ks ++ r.1, r.2)) = takeN (Nd.to n) n.fr n.kids L
  grown : w.grownBy wr (some mb)
  box : wr.heap[w.heap.size]? = some (.cells #[.int .i64 n.id, .int .i64 n.kd, .int .i64 n.fr, .int .i64 (Nd.to n), .slice kp n.kids.length kc] 109 (0, 0))
  short : ks.length + L'.length ≤ L.length
  nil : ks = [] → v = .slice none 0 0

set_option maxRecDepth 100000 in
set_option maxHeartbeats 2000000 in
theorem take_any (n : Nd) (kp : Option Addr) (kc mb : Nat) (L : List Nd) (l : List (Int × Value)) (w0 w : World) (hm : MapN w mb l) (he : EntN w0 l L) (hrow : lyI.Row w kp n.kids) (hkl : n.kids.length ≤ 140737488355328) (hL : L.length ≤ 4096) (hok : n.kids.length = 0 ∨ leafK n.kd = false) : Calls Tryz.prog 95 #[.map (some mb), ndV n kp kc] w (TkPost n L mb w0 w) := by
  obtain ⟨i0, hi, hz0, hz1, hz2⟩ := info_parts info63
  have KN : Hid (kidsN n L = takeN (Nd.to n) n.fr n.kids L) := Lib.hid (by
    unfold kidsN
    rcases hok with h | h
    · rw [List.eq_nil_of_length_eq_zero h]; rfl
    · rw [h]; simp)
  have ROW := Lib.hid hrow; have M0 := Lib.hid hm; have E0 := Lib.hid he
  clear hrow hm he
  have CALL47 : Hid (∀ W, Calls Tryz.prog 130 #[.int .i64 n.kd] W fun e w' => e = .returned (.bool (!leafK n.kd)) ∧ W = w') := Lib.hid (fun W => holds_any n.kd W)
  unfold ndV
  go_enter Tryz.func95, Tryz.ntmps95
  go_upto_region 1 with fail
  go_cut [21] (fun v wx => v = .bool false ∧ wx = w.alloc (.cells #[.int .i64 n.id, .int .i64 n.kd, .int .i64 n.fr, .int .i64 (Nd.to n), .slice kp n.kids.length kc] 109))
  case first =>
    rcases hok with h | h
    · have q : decide (0 < n.kids.length) = false := decide_eq_false (by omega)
      have h2 : ¬ 0 < n.kids.length := by omega
      have HH := Lib.hid h; clear h
      go_wp2_with (go_at_call 130; refine (CALL47.out _).mono ?_; rintro e w1 ⟨rfl, rfl⟩)
      go_meet
      exact ⟨rfl, rfl⟩
    · have HH := Lib.hid h; clear h
      go_wp2_with (go_at_call 130; refine (CALL47.out _).mono ?_; rintro e w1 ⟨rfl, rfl⟩; rw [HH.out])
      all_goals
        go_meet
        exact ⟨rfl, rfl⟩
  case rest =>
    obtain ⟨rfl, rfl⟩ := hcut
    clear CALL47 hok
    have BA := Lib.hid (show Below w.heap.size w (w.alloc (.cells #[.int .i64 n.id, .int .i64 n.kd, .int .i64 n.fr, .int .i64 (Nd.to n), .slice kp n.kids.length kc] 109)) from (Below.refl _ _).alloc (Nat.le_refl _) _)
    have BO := Lib.hid (heap_alloc_new w (.cells #[.int .i64 n.id, .int .i64 n.kd, .int .i64 n.fr, .int .i64 (Nd.to n), .slice kp n.kids.length kc] 109))
    generalize w.alloc (.cells #[.int .i64 n.id, .int .i64 n.kd, .int .i64 n.fr, .int .i64 (Nd.to n), .slice kp n.kids.length kc] 109) = w1 at BA BO ⊢
    have s0 := (obj_cells BO.out).1 2 _ rfl
    have s1 := (obj_cells BO.out).1 4 _ rfl
    have START : Hid (TI w0 w n L kp kc mb w1 0 n.fr L l [] (.slice none 0 0)) := Lib.hid ⟨M0.out.below BA.out, E0.out, ⟨[], Ly.Own.nil _ _, rfl, fun i n hi => by simp at hi⟩, by rw [List.drop_zero]; cases takeN (Nd.to n) n.fr n.kids L <;> simp, grown_of_below BA.out _, BO.out, by simp, fun _ => rfl⟩
    clear BA BO
    go_wp2_with fail
    clear s0 s1
    go_loopw [6, 7, 27] (fun v f c wr => ∃ (j : Nat) (last : Int) (L' : List Nd) (l' : List (Int × Value)) (ks : List Nd), j ≤ n.kids.length ∧ c = .int .i64 j ∧ f = .int .i64 last ∧ Hid (TI w0 w n L kp kc mb wr j last L' l' ks v)) (fun _ _ c _ => n.kids.length - (intOf c).toNat)
    case atStart => exact ⟨0, n.fr, L, l, [], by omega, rfl, rfl, START⟩
    case round =>
      clear START
      obtain ⟨j, last, L', l', ks, hj, rfl, rfl, T⟩ := hrel
      by_cases hlt : j < n.kids.length
      · obtain ⟨c, hc⟩ : ∃ c, n.kids[j]? = some c := ⟨_, List.getElem?_eq_getElem hlt⟩
        obtain ⟨kb, ko, rfl, d0⟩ := ints_atM ROW.out hc
        have d1 := cell_map M0.out T.out.grown d0
        have DR : Hid (n.kids.drop j = c :: n.kids.drop (j + 1)) := Lib.hid (by
          obtain ⟨hl', he'⟩ := List.getElem?_eq_some_iff.1 hc
          rw [List.drop_eq_getElem_cons hl', he'])
        have hi0 : (0 : Int) ≤ (j : Int) := by omega
        have hi1 : (j : Int) < (n.kids.length : Int) := by omega
        clear hc d0
        rcases ent_atK (c := c) (k := 0) T.out.ent.ent T.out.ent.len with ⟨h1, h2⟩ | ⟨i, y, kp', kc', -, h1, h2, h3, h4, h5⟩
        · have LK := lookup_none T.out.map h2
          unfold noN5 at LK
          have NO : Hid (kidsN n L = none) := Lib.hid (by
            have := T.out.eq
            rw [DR.out] at this
            rw [takeN_none h1] at this
            rw [KN.out, ← this]; rfl)
          clear h1 h2
          go_wp2_with (go_at_call 131; refine (belowK_any _ _).mono ?_; rintro e w2 ⟨rfl, rfl⟩)
          go_ret2
          exact ⟨grown_trans T.out.grown (grown_of_below ((Below.refl _ _).alloc (Nat.le_refl _) _) none) (fun g h => by cases h), .inl ⟨NO.out, rfl⟩⟩
        · have LK := lookup_some T.out.map h3
          unfold ndV at LK
          rw [Nat.sub_zero] at h2 h5
          have EQ : Hid (((if badK last (Nd.to n) y then none else (takeN (Nd.to n) (Nd.to y) (n.kids.drop (j + 1)) (L'.eraseIdx i)).map (fun r => (y :: r.1, r.2))) : Option (List Nd × List Nd)).map (fun r => (ks ++ r.1, r.2)) = kidsN n L) := Lib.hid (by
            have := T.out.eq
            rw [DR.out] at this
            rw [takeN_some h1 h2] at this
            rw [KN.out, ← this])
          have BOX : (wr.alloc (.cells #[.int .i64 y.id, .int .i64 y.kd, .int .i64 y.fr, .int .i64 (Nd.to y), .slice kp' y.kids.length kc'] 109)).cell? ⟨w.heap.size, 3, none⟩ = some (.int .i64 (Nd.to n)) := cell_later (show Below wr.heap.size wr _ from (Below.refl _ _).alloc (Nat.le_refl _) _) ((obj_cells T.out.box).1 3 _ rfl)
          have H3 := Lib.hid h3; have H2 := Lib.hid h2; have ROW' := Lib.hid h4
          have BKD := Lib.hid (show badK last (Nd.to n) y = (!belowK y.kd || decide (y.fr < last) || decide (Nd.to y < y.fr) || decide (Nd.to n < Nd.to y)) from rfl)
          have GR1 := Lib.hid (grown_trans T.out.grown (grown_of_below (show Below wr.heap.size wr (wr.alloc (.cells #[.int .i64 y.id, .int .i64 y.kd, .int .i64 y.fr, .int .i64 (Nd.to y), .slice kp' y.kids.length kc'] 109)) from (Below.refl _ _).alloc (Nat.le_refl _) _) none) (fun g h => by cases h))
          clear h1 h2 h3 h4
          cases hb1 : belowK y.kd with
          | false =>
            have NO : Hid (kidsN n L = none) := Lib.hid (by rw [← EQ.out, BKD.out, hb1]; simp)
            have HB1 := Lib.hid hb1; clear hb1
            go_wp2_with (go_at_call 131; refine (belowK_any _ _).mono ?_; rintro e w2 ⟨rfl, rfl⟩; rw [HB1.out])
            go_ret2
            exact ⟨GR1.out, .inl ⟨NO.out, rfl⟩⟩
          | true =>
            have HB1 := Lib.hid hb1; clear hb1
            by_cases e1 : y.fr < last
            · have NO : Hid (kidsN n L = none) := Lib.hid (by rw [← EQ.out, BKD.out, decide_eq_true e1]; simp)
              go_wp2_with (go_at_call 131; refine (belowK_any _ _).mono ?_; rintro e w2 ⟨rfl, rfl⟩; rw [HB1.out])
              go_ret2
              exact ⟨GR1.out, .inl ⟨NO.out, rfl⟩⟩
            · by_cases e2 : Nd.to y < y.fr
              · have NO : Hid (kidsN n L = none) := Lib.hid (by rw [← EQ.out, BKD.out, decide_eq_true e2]; simp)
                go_wp2_with (go_at_call 131; refine (belowK_any _ _).mono ?_; rintro e w2 ⟨rfl, rfl⟩; rw [HB1.out])
                go_ret2
                exact ⟨GR1.out, .inl ⟨NO.out, rfl⟩⟩
              · by_cases e3 : Nd.to n < Nd.to y
                · have NO : Hid (kidsN n L = none) := Lib.hid (by rw [← EQ.out, BKD.out, decide_eq_true e3]; simp)
                  go_wp2_with (go_at_call 131; refine (belowK_any _ _).mono ?_; rintro e w2 ⟨rfl, rfl⟩; rw [HB1.out])
                  go_ret2
                  exact ⟨GR1.out, .inl ⟨NO.out, rfl⟩⟩
                · have GO : Hid ((takeN (Nd.to n) (Nd.to y) (n.kids.drop (j + 1)) (L'.eraseIdx i)).map (fun r => ((ks ++ [y]) ++ r.1, r.2)) = kidsN n L) := Lib.hid (by
                    rw [← EQ.out, BKD.out, HB1.out, decide_eq_false e1, decide_eq_false e2, decide_eq_false e3]
                    simp only [Bool.not_true, Bool.or_self, Bool.false_eq_true, if_false, Option.map_map]
                    congr 1
                    funext r
                    simp)
                  obtain ⟨ob, hD, hM⟩ := delete_some (T.out.map.below ((Below.refl wr.heap.size wr).alloc (Nat.le_refl _) (.cells #[.int .i64 y.id, .int .i64 y.kd, .int .i64 y.fr, .int .i64 (Nd.to y), .slice kp' y.kids.length kc'] 109))) H3.out
                  have BA := Lib.hid (show Below wr.heap.size wr (wr.alloc (.cells #[.int .i64 y.id, .int .i64 y.kd, .int .i64 y.fr, .int .i64 (Nd.to y), .slice kp' y.kids.length kc'] 109)) from (Below.refl _ _).alloc (Nat.le_refl _) _)
                  have HM := Lib.hid hM; clear hM
                  have HD := hD 0; clear hD
                  have G5 := Lib.hid (setB_grown (wr.alloc (.cells #[.int .i64 y.id, .int .i64 y.kd, .int .i64 y.fr, .int .i64 (Nd.to y), .slice kp' y.kids.length kc'] 109)) mb ob)
                  have KB := Lib.hid (obj_map (T.out.map.below BA.out) G5.out (heap_alloc_new wr (.cells #[.int .i64 y.id, .int .i64 y.kd, .int .i64 y.fr, .int .i64 (Nd.to y), .slice kp' y.kids.length kc'] 109)))
                  have G5' := Lib.hid (grown_trans (grown_of_below BA.out (some mb)) G5.out (fun g h => .inl h))
                  have NB := Lib.hid (obj_map T.out.map G5'.out T.out.box)
                  obtain ⟨vs, hvs, hvl, hve⟩ := T.out.row
                  obtain ⟨p9, cap9, hform⟩ := hvs.form
                  rw [hvl] at hform
                  subst hform
                  have O5 := Lib.hid (own_map T.out.map G5'.out hvs)
                  have KNE : Hid ((Value.slice p9 ks.length cap9).ownBlock ≠ some wr.heap.size) := Lib.hid (fun e => absurd (hvs.lt e).2 (Nat.lt_irrefl _))
                  have VL := Lib.hid hvl; have VE := Lib.hid hve
                  clear hvs hvl hve
                  generalize setB (wr.alloc (.cells #[.int .i64 y.id, .int .i64 y.kd, .int .i64 y.fr, .int .i64 (Nd.to y), .slice kp' y.kids.length kc'] 109)) mb ob = w5 at HD HM G5 KB G5' NB O5
                  have G6 := Lib.hid (grown_trans T.out.grown G5'.out (fun g h => .inl h))
                  have S5 : w.heap.size < w5.heap.size := (obj_cells NB.out).2.2
                  have k0 : w5.cell? ⟨wr.heap.size, 0, none⟩ = some (.int .i64 y.id) := (obj_cells KB.out).1 0 _ rfl
                  have k1 : w5.cell? ⟨wr.heap.size, 1, none⟩ = some (.int .i64 y.kd) := (obj_cells KB.out).1 1 _ rfl
                  have k2 : w5.cell? ⟨wr.heap.size, 2, none⟩ = some (.int .i64 y.fr) := (obj_cells KB.out).1 2 _ rfl
                  have k3 : w5.cell? ⟨wr.heap.size, 3, none⟩ = some (.int .i64 (Nd.to y)) := (obj_cells KB.out).1 3 _ rfl
                  have k4 : w5.cell? ⟨wr.heap.size, 4, none⟩ = some (.slice kp' y.kids.length kc') := (obj_cells KB.out).1 4 _ rfl
                  have OW : Hid (∀ o, (w5.alloc o).ownsRow (w.heap.size + 1) 109 5 (.slice p9 ks.length cap9) ks.length (lyN.all vs)) := Lib.hid (fun o => by
                    have := O5.out.below ((Below.refl _ _).alloc (Nat.le_refl _) o)
                    unfold Ly.Own at this
                    rw [VL.out] at this
                    exact this)
                  have hks : ks.length ≤ 4096 := by have := T.out.short; omega
                  generalize hM : ks.length = M at *
                  have HMM := Lib.hid hM; clear hM
                  go_wp2_with (first | (go_at_call 131; refine (belowK_any _ _).mono ?_; rintro e w2 ⟨rfl, rfl⟩; rw [HB1.out]) | (at_builtin; refine wpList_append_lies _ rfl _ _ 24 rfl (w.heap.size + 1) 109 i0 _ 5 56 Tryz.underlying24 hi hz0 hz1 hz2 rfl (by decide) (.slice p9 M cap9) M (lyN.all vs) rfl (OW.out _) ⟨w5.heap.size, 0, none⟩ 1 1 (Nv.cells ⟨y.id, y.kd, y.fr, Nd.to y, kp', y.kids.length, kc'⟩) rfl rfl (five_new rfl ⟨y.id, y.kd, y.fr, Nd.to y, kp', y.kids.length, kc'⟩) (lyN.one ⟨y.id, y.kd, y.fr, Nd.to y, kp', y.kids.length, kc'⟩) (by decide) (by unfold maxLen; omega) (by omega) (Nat.le_trans (Nat.succ_le_of_lt S5) (by simp)) (w5.heap.size + 1) (by simp) ?_; intro g2 cap2 w6 hown hgrow hgg hlt2; have HO := Lib.hid hown; have HG := Lib.hid (grown_trans (grown_of_below ((Below.refl w5.heap.size w5).alloc (Nat.le_refl _) _) _) hgrow (fun g h => .inl h)); clear hown hgrow hgg; have KB6 := Lib.hid (obj_row HG.out KB.out KNE.out); have k6 : w6.cell? ⟨wr.heap.size, 3, none⟩ = some (.int .i64 (Nd.to y)) := (obj_cells KB6.out).1 3 _ rfl))
                  have MNE : (Value.slice p9 M cap9).ownBlock ≠ some mb := fun e => by
                    have h1 := (O5.out.lt e).1
                    obtain ⟨es, clock, h2⟩ := M0.out.obj
                    have h3 := (Array.getElem?_eq_some_iff.1 h2).1
                    omega
                  have BNE : (Value.slice p9 M cap9).ownBlock ≠ some w.heap.size := fun e => by
                    have h1 := (O5.out.lt e).1
                    omega
                  have hM := HMM.out
                  refine ⟨⟨j + 1, Nd.to y, L'.eraseIdx i, l'.eraseIdx i, ks ++ [y], by omega, by go_num, rfl, Lib.hid ⟨HM.out.keptR HG.out MNE, T.out.ent.erase i h5, ⟨vs ++ [⟨y.id, y.kd, y.fr, Nd.to y, kp', y.kids.length, kc'⟩], ?_, ?_, ?_⟩, ?_, ?_, obj_row HG.out NB.out BNE, ?_, fun e => by simp at e⟩⟩, ?_⟩
                  · unfold Ly.Own
                    rw [List.length_append, List.length_singleton, VL.out, all_app, all_one]
                    exact HO.out
                  · rw [List.length_append, List.length_append, VL.out, hM]; rfl
                  · intro i' m hi'
                    by_cases hl : i' < ks.length
                    · rw [List.getElem?_append_left hl] at hi'
                      rw [List.getElem?_append_left (by rw [VL.out, ← hM]; exact hl)]
                      exact VE.out i' m hi'
                    · have hle := (List.getElem?_eq_some_iff.1 hi').1
                      have e : i' = ks.length := by simp at hle; omega
                      subst e
                      rw [List.getElem?_append_right (Nat.le_refl _), Nat.sub_self] at hi'
                      simp only [List.getElem?_cons_zero, Option.some.injEq] at hi'
                      subst hi'
                      exact ⟨kp', kc', by rw [List.getElem?_append_right (by rw [VL.out, hM]; exact Nat.le_refl _), VL.out, hM, Nat.sub_self]; rfl, ROW'.out⟩
                  · rw [GO.out, KN.out]
                  · exact grown_trans G6.out HG.out (fun g h => .inr (by have := (O5.out.lt h).1; omega))
                  · have := List.length_eraseIdx_of_lt h5
                    have := T.out.short
                    rw [List.length_append, List.length_singleton]; omega
                  · simp [intOf]; omega
      · have EQ : Hid (kidsN n L = some (ks, L')) := Lib.hid (by
          have := T.out.eq
          rw [List.drop_eq_nil_of_le (by omega)] at this
          rw [KN.out, ← this]
          simp [takeN])
        obtain ⟨vs, hvs, hvl, hve⟩ := T.out.row
        obtain ⟨p9, cap9, hform⟩ := hvs.form
        rw [hvl] at hform
        subst hform
        have RK : Hid (RowK w0 wr w.heap.size (.slice p9 ks.length cap9) ks) := Lib.hid ⟨vs, hvs.mono (by omega), hvl, hve⟩
        clear hvs hvl hve
        go_wp2_with fail
        go_ret2
        exact ⟨T.out.grown, .inr ⟨ks, L', l', p9, cap9, EQ.out, rfl, T.out.map, T.out.ent, RK.out, T.out.short, fun e => by have := T.out.nil e; injection this with a b c; exact ⟨a, c⟩⟩⟩
theorem take_all (n : Nd) (kp : Option Addr) (kc mb : Nat) (L : List Nd) (l : List (Int × Value)) (w0 w : World) (hm : MapN w mb l) (he : EntN w0 l L) (hrow : lyI.Row w kp n.kids) (hkl : n.kids.length ≤ 140737488355328) (hL : L.length ≤ 4096) : Calls Tryz.prog 95 #[.map (some mb), ndV n kp kc] w (TkPost n L mb w0 w) := by
  by_cases h0 : n.kids.length = 0
  · exact take_any n kp kc mb L l w0 w hm he hrow hkl hL (.inl h0)
  · cases hf : leafK n.kd with
    | false => exact take_any n kp kc mb L l w0 w hm he hrow hkl hL (.inr hf)
    | true => exact take_leaf n kp kc mb L w0 w (by omega) hf
theorem takeN_mem {tt : Int} : ∀ {cs : List Int} {last : Int} {L ks L' : List Nd}, takeN tt last cs L = some (ks, L') → (∀ x ∈ ks, x ∈ L) ∧ (∀ x ∈ L', x ∈ L)
  | [], _, L, ks, L', h => by
    unfold takeN at h
    injection h with h
    injection h with h1 h2
    subst h1; subst h2
    exact ⟨fun x hx => absurd hx (by simp), fun x hx => hx⟩
  | c :: cs, last, L, ks, L', h => by
    cases h1 : fdI c L 0 with
    | none => rw [takeN_none h1] at h; cases h
    | some i =>
      cases h2 : L[i]? with
      | none => unfold takeN at h; rw [h1] at h; simp [h2] at h
      | some y =>
        rw [takeN_some h1 h2] at h
        split at h
        · cases h
        · obtain ⟨r, h3, h4⟩ := Option.map_eq_some_iff.1 h
          injection h4 with h5 h6
          subst h5; subst h6
          obtain ⟨a, b⟩ := takeN_mem (ks := r.1) (L' := r.2) h3
          refine ⟨fun x hx => ?_, fun x hx => List.mem_of_mem_eraseIdx (b x hx)⟩
          rcases List.mem_cons.1 hx with rfl | hx
          · exact List.mem_of_getElem? h2
          · exact List.mem_of_mem_eraseIdx (a x hx)
theorem kidsN_mem {n : Nd} {L ks L' : List Nd} (h : kidsN n L = some (ks, L')) : (∀ x ∈ ks, x ∈ L) ∧ (∀ x ∈ L', x ∈ L) := by
  unfold kidsN at h
  split at h
  · cases h
  · exact takeN_mem h

end Go.Proofs.YtjmfjlffcopnnaaGreatDoor
