/-
  LxA, LxB, PsB, PsC, Ps9, PsA, Par, in one text. Conditions: as each theorem's premises say.
-/
import Derived.Test.YtjmfjlffcopnnaaGreatDoorProg
import Derived.Test.YtjmfjlffcopnnaaGreatDoorPM04
import Derived.WalkKit
import Derived.WalkSpells
import Derived.WalkLawsBesides
import Derived.BigQuiet
import Derived.Lib.Hide
import Derived.IntWalk
import Derived.Deep.CutBlock
import Derived.Deep.DeepCutAuto
import Derived.Lib.Bytes
import Derived.Deep.AppendLies
import Derived.Laws.OwnMore
import Derived.OwnWalk
import Derived.RegionTactic
import Derived.Deep.RegionLawGrows
namespace Go.Proofs.YtjmfjlffcopnnaaGreatDoor
open Go.RowKit

theorem retB {a b : Bool} (h : a = b) : Ending.returned (.bool a) = .returned (.bool b) := by rw [h]
theorem retI {k : IntKind} {a b : Int} (h : a = b) : Ending.returned (.int k a) = .returned (.int k b) := by rw [h]

/-- The bytes of a text from a place on. -/
def fromL (s : ByteArray) (i : Nat) : List UInt8 := s.data.toList.drop i
theorem from_cons {s : ByteArray} {i : Nat} (h : i < s.size) : fromL s i = s[i] :: fromL s (i + 1) := by
  unfold fromL
  rw [List.drop_eq_getElem_cons (by simpa using h)]
  rfl
theorem from_nil {s : ByteArray} {i : Nat} (h : s.size ≤ i) : fromL s i = [] := by
  unfold fromL
  exact List.drop_eq_nil_of_le (by simpa using h)
theorem from_len (s : ByteArray) (i : Nat) : (fromL s i).length = s.size - i := by simp [fromL]

theorem from_drop (s : ByteArray) (a b : Nat) : (fromL s a).drop b = fromL s (a + b) := by unfold fromL; rw [List.drop_drop]

end Go.Proofs.YtjmfjlffcopnnaaGreatDoor

namespace Go.Proofs.YtjmfjlffcopnnaaGreatDoor
open Go.RowKit

theorem dr_below (w : World) (m : Nat) : Below w.heap.size w (w.drewN m) := ⟨rfl, rfl, rfl, Nat.le_refl _, fun _ _ => rfl⟩
theorem results_cell1 {fn : Func} {p : Tmp} {ty : TypeId} (h : fn.results = #[.cell p ty]) (tmps : Array Value) (P : Program) (w : World) :
    (results fn tmps).run P w = ((asAddr (tmps.getD p undef)).run P w).andThen fun a w₁ => (loadVar ty a).run P w₁ := by
  simp only [results, h]
  simp [Sem.run_bind, Result.andThen]

theorem add_plain (b o i : Nat) : (⟨b, o, none⟩ : Addr).add i = ⟨b, o + i, none⟩ := by unfold Addr.add; split <;> simp_all

/-- How the elements of a row lie: their type, how many cells each, which. -/
structure Ly (α : Type) where
  ty : Nat
  sz : Nat
  cells : α → List Value
  len : ∀ a, (cells a).length = sz
  one : ∀ a, ∀ u ∈ cells a, u.oneCell' = true
  pos : 0 < sz

variable {α : Type} {L : Ly α} {w w' : World} {base : Nat} {v : Value} {xs : List α}

def Ly.all (L : Ly α) (xs : List α) : List Value := xs.flatMap L.cells
theorem all_app (a b : List α) : L.all (a ++ b) = L.all a ++ L.all b := by simp [Ly.all]
theorem all_one (a : α) : L.all [a] = L.cells a := by simp [Ly.all]
theorem all_len (xs : List α) : (L.all xs).length = xs.length * L.sz := by
  induction xs with
  | nil => simp [Ly.all]
  | cons c cs ih =>
    have : L.all (c :: cs) = L.cells c ++ L.all cs := by simp [Ly.all]
    rw [this, List.length_append, ih, List.length_cons, L.len, Nat.succ_mul, Nat.add_comm]
theorem all_ones (xs : List α) : ∀ u ∈ L.all xs, u.oneCell' = true := by
  intro u hu
  obtain ⟨c, _, hc⟩ := List.mem_flatMap.1 hu
  exact L.one c u hc
theorem split_at {xs : List α} {i : Nat} {x : α} (h : xs[i]? = some x) : xs = xs.take i ++ (x :: xs.drop (i + 1)) ∧ i < xs.length := by
  obtain ⟨hl, he⟩ := List.getElem?_eq_some_iff.1 h
  exact ⟨by rw [← he]; simp, hl⟩
theorem all_split {xs : List α} {i : Nat} {x : α} (h : xs[i]? = some x) : L.all xs = L.all (xs.take i) ++ (L.cells x ++ L.all (xs.drop (i + 1))) ∧ (L.all (xs.take i)).length = i * L.sz := by
  obtain ⟨h1, hl⟩ := split_at h
  constructor
  · conv => lhs; rw [h1]
    rw [all_app]; simp [Ly.all]
  · rw [all_len, List.length_take, Nat.min_eq_left (by omega)]
theorem all_get {xs : List α} {i j : Nat} {x : α} {u : Value} (h : xs[i]? = some x) (hu : (L.cells x)[j]? = some u) : (L.all xs)[i * L.sz + j]? = some u := by
  obtain ⟨h1, h2⟩ := all_split (L := L) h
  have hj := (List.getElem?_eq_some_iff.1 hu).1
  rw [h1, List.getElem?_append_right (by omega), h2, Nat.add_sub_cancel_left, List.getElem?_append_left hj, hu]

/-- An element lies at an address. -/
def Ly.At (L : Ly α) (w : World) (b o : Nat) (x : α) : Prop := ∀ j u, (L.cells x)[j]? = some u → w.cell? ⟨b, o + j, none⟩ = some u
/-- The elements of a slice, as they lie in memory. -/
def Ly.Row (L : Ly α) (w : World) (p : Option Addr) (xs : List α) : Prop := ∀ (i : Nat) x, xs[i]? = some x → ∃ b o, p = some ⟨b, o, none⟩ ∧ L.At w b (o + i * L.sz) x
/-- v is a slice of these elements in memory of the call's own, from block base on. -/
def Ly.Own (L : Ly α) (w : World) (base : Nat) (v : Value) (xs : List α) : Prop := w.ownsRow base L.ty L.sz v xs.length (L.all xs)

theorem cell_later {w w' : World} (hb : Below w.heap.size w w') {b o : Nat} {u : Value} (h : w.cell? ⟨b, o, none⟩ = some u) : w'.cell? ⟨b, o, none⟩ = some u :=
  (hb.cell (p := ⟨b, o, none⟩) (World.block_lt_of_cell? w ⟨b, o, none⟩ h)).trans h
theorem Ly.At.below {b o : Nat} {x : α} (h : L.At w b o x) (hb : Below w.heap.size w w') : L.At w' b o x := fun j u hu => cell_later hb (h j u hu)
theorem Ly.Row.below {p : Option Addr} (h : L.Row w p xs) (hb : Below w.heap.size w w') : L.Row w' p xs := fun i x hi => by
  obtain ⟨b, o, hp, hc⟩ := h i x hi
  exact ⟨b, o, hp, Ly.At.below hc hb⟩
theorem Ly.Row.nil (p : Option Addr) : L.Row w p [] := fun i x h => by simp at h
theorem Ly.Own.nil (w : World) (base : Nat) : L.Own w base (.slice none 0 0) [] := World.ownsRow_nil _ _ _ _
theorem Ly.Own.form (h : L.Own w base v xs) : ∃ p cap, v = .slice p xs.length cap := by
  rcases h.2 with ⟨h, hn⟩ | ⟨g, cap, _, h, _⟩
  · rw [hn]; exact ⟨_, _, h⟩
  · exact ⟨_, _, h⟩
theorem Ly.Own.formS (h : L.Own w base v xs) (h0 : xs ≠ []) : ∃ g cap, v = .slice (some ⟨g, 0, none⟩) xs.length cap ∧ base ≤ g ∧ g < w.heap.size ∧ xs.length ≤ cap := by
  rcases h.2 with ⟨h, hn⟩ | ⟨g, cap, _, h, hb, hg, hc, _⟩
  · exact absurd (List.eq_nil_of_length_eq_zero hn) h0
  · exact ⟨g, cap, h, hb, (Array.getElem?_eq_some_iff.1 hg).1, hc⟩
theorem Ly.Own.at {g n cap : Nat} (h : L.Own w base (.slice (some ⟨g, 0, none⟩) n cap) xs) {i : Nat} {x : α} (hi : xs[i]? = some x) : L.At w g (i * L.sz) x := by
  intro j u hu
  have := World.ownsRow.cells h (g := g) rfl _ _ (all_get hi hu)
  rwa [add_plain, Nat.zero_add] at this
theorem Ly.Own.row {p : Option Addr} {n cap : Nat} (h : L.Own w base (.slice p n cap) xs) : L.Row w p xs := by
  intro i x hi
  rcases h.2 with ⟨_, hn⟩ | ⟨g, _, _, hv, _⟩
  · have := (List.getElem?_eq_some_iff.1 hi).1; omega
  · cases hv
    exact ⟨g, 0, rfl, by rw [Nat.zero_add]; exact Ly.Own.at h hi⟩
theorem Ly.Own.lt (h : L.Own w base v xs) {g : Nat} (hg : v.ownBlock = some g) : base ≤ g ∧ g < w.heap.size := World.ownsRow.lt h g hg
theorem Ly.Own.below (h : L.Own w base v xs) (hb : Below w.heap.size w w') : L.Own w' base v xs :=
  World.ownsRow.kept (row := none) h ⟨hb.os, hb.tape, hb.output, hb.size, fun k hk _ => hb.block k hk⟩ (by cases v.ownBlock <;> simp)
theorem Ly.Own.mono {base' : Nat} (h : L.Own w base v xs) (hb : base' ≤ base) : L.Own w base' v xs := by
  refine ⟨h.1, ?_⟩
  rcases h.2 with h | ⟨g, cap, cur, hv, h1, h2⟩
  · exact .inl h
  · exact .inr ⟨g, cap, cur, hv, Nat.le_trans hb h1, h2⟩
theorem Ly.Own.frozen {g n cap : Nat} (h : L.Own w base (.slice (some ⟨g, 0, none⟩) n cap) xs) (i : Nat) : w.frozen? ⟨g, i, none⟩ = false := by
  rcases h.2 with ⟨hv, _⟩ | ⟨g', cap', cur, hv, hb, hg, _⟩
  · cases hv
  · cases hv
    simp [World.frozen?, hg]
/-- The block of a row, as an object of its elements' type. -/
theorem Ly.Own.obj (h : L.Own w base v xs) {g : Nat} (hg : v.ownBlock = some g) : ∃ cur, w.heap[g]? = some (.cells cur L.ty (0, 0)) := by
  rcases h.2 with ⟨hv, _⟩ | ⟨g', cap', cur, hv, hb, hgg, _⟩
  · subst hv; cases hg
  · subst hv; cases hg; exact ⟨cur, hgg⟩
theorem Ly.Own.kept {row : Option Nat} (h : L.Own w base v xs) (hg : w.grownBy w' row) (hne : ∀ g, v.ownBlock = some g → row ≠ some g) : L.Own w' base v xs :=
  World.ownsRow.kept h hg (by
    cases hv : v.ownBlock with
    | none => exact .inl rfl
    | some g => exact .inr (fun e => hne g hv e.symm))
theorem heap_setCell_at {w : World} {g i : Nat} {cur : Array Value} {e : TypeId} {fr : Nat × Nat} (h : w.heap[g]? = some (.cells cur e fr)) (u : Value) : (w.setCell ⟨g, i, none⟩ u).heap[g]? = some (.cells (cur.setIfInBounds i u) e fr) := by
  simp [World.setCell, Array.getElem?_modify, h]
theorem grown_refl (w : World) (row : Option Nat) : w.grownBy w row := ⟨rfl, rfl, rfl, Nat.le_refl _, fun _ _ _ => rfl⟩
theorem grown_of_below {w w' : World} (h : Below w.heap.size w w') (row : Option Nat) : w.grownBy w' row := ⟨h.os, h.tape, h.output, h.size, fun k hk _ => h.block k hk⟩
theorem grown_trans {w w1 w2 : World} {row row1 : Option Nat} (h : w.grownBy w1 row) (h1 : w1.grownBy w2 row1) (hr : ∀ g, row1 = some g → row = some g ∨ w.heap.size ≤ g) : w.grownBy w2 row :=
  ⟨h1.os.trans h.os, h1.tape.trans h.tape, h1.output.trans h.output, Nat.le_trans h.size h1.size, fun k hk hne => (h1.block k (Nat.lt_of_lt_of_le hk h.size) (fun e => by rcases hr k e.symm with h | h; exact hne h.symm; omega)).trans (h.block k hk hne)⟩
theorem grown_set {w w1 : World} {g i : Nat} (h : w.grownBy w1 (some g)) (u : Value) : w.grownBy (w1.setCell ⟨g, i, none⟩ u) (some g) :=
  ⟨h.os, h.tape, h.output, by simpa using h.size, fun k hk hne => by
    have : k ≠ g := fun e => hne (by rw [e])
    rw [← h.block k hk hne]
    simp [World.setCell, Array.getElem?_modify, this.symm]⟩
/-- What was there ahead of block base is as it was, where only later blocks were written. -/
theorem below_grown {w w' : World} {base g : Nat} (h : w.grownBy w' (some g)) (hg : base ≤ g) (hb : base ≤ w.heap.size) : Below base w w' :=
  ⟨h.os, h.tape, h.output, h.size, fun k hk => h.block k (by omega) (fun e => by cases e; omega)⟩
theorem below_grownN {w w' : World} {base : Nat} {row : Option Nat} (h : w.grownBy w' row) (hg : ∀ g, row = some g → base ≤ g) (hb : base ≤ w.heap.size) : Below base w w' :=
  ⟨h.os, h.tape, h.output, h.size, fun k hk => h.block k (by omega) (fun e => by have := hg k e.symm; omega)⟩

def Tk.cells (t : Tk) : List Value := [.int .i64 t.k, .int .i64 t.fr, .int .i64 (Tk.to t)]
/-- Tokens. -/
def lyT : Ly Tk where
  ty := 99
  sz := 3
  cells := Tk.cells
  len _ := rfl
  one t u hu := by
    simp [Tk.cells] at hu
    rcases hu with rfl | rfl | rfl <;> rfl
  pos := by decide

theorem three_new {w : World} {H : Nat} (hH : w.heap.size = H) (a b c : Int) : ∀ j u, [Value.int .i64 a, .int .i64 b, .int .i64 c][j]? = some u → (w.alloc (.cells #[.int .i64 a, .int .i64 b, .int .i64 c] 99)).cell? ((⟨H, 0, none⟩ : Addr).add j) = some u := by
  subst hH
  exact World.news_of_block (heap_alloc_new w _)

theorem below1 {w w1 : World} {n : Nat} (h : Below n w w1) (hn : n ≤ w1.heap.size) (a : Obj) : Below n w (w1.alloc a) := h.alloc hn a
theorem below2 {w w1 : World} {n : Nat} (h : Below n w w1) (hn : n ≤ w1.heap.size) (a b : Obj) : Below n w ((w1.alloc a).alloc b) := (h.alloc hn a).alloc (by simp; omega) b

end Go.Proofs.YtjmfjlffcopnnaaGreatDoor

namespace Go.Proofs.YtjmfjlffcopnnaaGreatDoor
open Go.RowKit

/-- A node's own cells: its numbers, its children's slice. -/
structure Nv where
  id : Int
  kd : Int
  fr : Int
  tt : Int
  kp : Option Addr
  kn : Nat
  kc : Nat
def Nv.kv (x : Nv) : Value := .slice x.kp x.kn x.kc
def Nv.cells (x : Nv) : List Value := [.int .i64 x.id, .int .i64 x.kd, .int .i64 x.fr, .int .i64 x.tt, x.kv]
def lyN : Ly Nv where
  ty := 109
  sz := 5
  cells := Nv.cells
  len _ := rfl
  one t u hu := by
    simp [Nv.cells, Nv.kv] at hu
    rcases hu with rfl | rfl | rfl | rfl | rfl <;> rfl
  pos := by decide
def lyI : Ly Int where
  ty := 3
  sz := 1
  cells x := [.int .i64 x]
  len _ := rfl
  one t u hu := by simp at hu; subst hu; rfl
  pos := by decide
theorem info63 : (Tryz.prog.info? 109).map (fun i => (i.zero, i.size, i.bytes)) = some (some (.agg #[.int .i64 0, .int .i64 0, .int .i64 0, .int .i64 0, .slice none 0 0]), 5, 56) := by kernel_rfl
theorem info3 : (Tryz.prog.info? 3).map (fun i => (i.zero, i.size, i.bytes)) = some (some (.int .i64 0), 1, 8) := by kernel_rfl

/-! Writing over an element -/
def setAll (w : World) (g : Nat) : Nat → List Value → World
  | _, [] => w
  | o, u :: r => setAll (w.setCell ⟨g, o, none⟩ u) g (o + 1) r
theorem own_setAll {base e size g n cap : Nat} : ∀ (us xs : List Value) (o : Nat) (w : World), w.ownsRow base e size (.slice (some ⟨g, 0, none⟩) n cap) n xs → o + us.length ≤ xs.length →
    (setAll w g o us).ownsRow base e size (.slice (some ⟨g, 0, none⟩) n cap) n (xs.take o ++ us ++ xs.drop (o + us.length))
  | [], xs, o, w, h, _ => by
    have e : xs.take o ++ [] ++ xs.drop (o + ([] : List Value).length) = xs := by simp
    rw [e]; exact h
  | u :: r, xs, o, w, h, hl => by
    rw [List.length_cons] at hl
    have h1 : (w.setCell ⟨g, o, none⟩ u).ownsRow base e size (.slice (some ⟨g, 0, none⟩) n cap) n (xs.set o u) := by
      refine ⟨by rw [List.length_set]; exact h.1, ?_⟩
      rcases h.2 with ⟨hv, _⟩ | ⟨g', cap', cur, hv, hb, hg, hnc, hm, hs, ht⟩
      · cases hv
      · cases hv
        refine .inr ⟨g, cap, _, rfl, hb, heap_setCell_at hg u, hnc, hm, by simpa using hs, ?_⟩
        rw [Array.toList_setIfInBounds, List.take_set, ht]
    have h2 := own_setAll r (xs.set o u) (o + 1) _ h1 (by rw [List.length_set]; omega)
    have e : (xs.set o u).take (o + 1) ++ r ++ (xs.set o u).drop (o + 1 + r.length) = xs.take o ++ (u :: r) ++ xs.drop (o + (u :: r).length) := by
      rw [List.take_set, List.take_add_one, List.getElem?_eq_getElem (by omega), List.length_cons, show o + (r.length + 1) = o + 1 + r.length by omega, List.drop_set_of_lt (by omega)]
      rw [List.set_append_right _ _ (by rw [List.length_take]; omega), List.length_take, Nat.min_eq_left (by omega), Nat.sub_self]
      simp
    rw [e] at h2
    exact h2
theorem grown_setAll {w w1 : World} {g : Nat} : ∀ (us : List Value) (o : Nat), w.grownBy w1 (some g) → w.grownBy (setAll w1 g o us) (some g)
  | [], _, h => h
  | u :: r, o, h => grown_setAll r (o + 1) (grown_set h u)
theorem Ly.Own.set {α : Type} {L : Ly α} {w : World} {base g n cap : Nat} {xs : List α} {i : Nat} {x : α} (h : L.Own w base (.slice (some ⟨g, 0, none⟩) n cap) xs) (hi : xs[i]? = some x) (y : α) :
    L.Own (setAll w g (i * L.sz) (L.cells y)) base (.slice (some ⟨g, 0, none⟩) n cap) (xs.set i y) := by
  have hn : n = xs.length := by
    obtain ⟨p, c, e⟩ := h.form
    cases e; rfl
  subst hn
  obtain ⟨hs, hlt⟩ := split_at hi
  obtain ⟨h1, h2⟩ := all_split (L := L) hi
  have hle : i * L.sz + (L.cells y).length ≤ (L.all xs).length := by
    rw [L.len, all_len]
    have := Nat.mul_le_mul_right L.sz (show i + 1 ≤ xs.length from hlt)
    rw [Nat.succ_mul] at this
    exact this
  have := own_setAll (L.cells y) (L.all xs) (i * L.sz) w h hle
  have e : (L.all xs).take (i * L.sz) ++ L.cells y ++ (L.all xs).drop (i * L.sz + (L.cells y).length) = L.all (xs.set i y) := by
    have e1 : (L.all xs).take (i * L.sz) = L.all (xs.take i) := by rw [h1, List.take_left' h2]
    have e2 : (L.all xs).drop (i * L.sz + (L.cells y).length) = L.all (xs.drop (i + 1)) := by
      rw [h1, ← List.append_assoc, List.drop_left' (by rw [List.length_append, h2, L.len, L.len])]
    rw [e1, e2, List.set_eq_take_append_cons_drop, if_pos hlt, all_app]
    simp [Ly.all]
  rw [e] at this
  unfold Ly.Own
  rw [List.length_set]
  exact this

/-! Nodes with their children's rows, all of the call's own -/
def Fits (w : World) (base : Nat) (v : Nv) (n : Nd) : Prop := v.id = n.id ∧ v.kd = n.kd ∧ v.fr = n.fr ∧ v.tt = Nd.to n ∧ lyI.Own w base v.kv n.kids
structure OwnT (w : World) (base : Nat) (nv : Value) (vs : List Nv) (ns : List Nd) : Prop where
  row : lyN.Own w base nv vs
  len : vs.length = ns.length
  fit : ∀ (i : Nat) v n, vs[i]? = some v → ns[i]? = some n → Fits w base v n
  apart : ∀ (i j : Nat) v u g, vs[i]? = some v → vs[j]? = some u → i ≠ j → v.kv.ownBlock = some g → u.kv.ownBlock ≠ some g
/-- The parser at block pb: its tokens, its place, the end, its nodes so far. -/
structure PS (w : World) (base pb : Nat) (ts : List Tk) (i en : Nat) (tv nv : Value) (vs : List Nv) (ns : List Nd) : Prop where
  obj : w.heap[pb]? = some (.cells #[tv, .int .i64 i, .int .i64 en, .int .i64 0, .int .i64 0, nv] 97 (0, 0))
  new : base ≤ pb
  toks : lyT.Own w base tv ts
  nodes : OwnT w base nv vs ns
def PSx (w : World) (base pb : Nat) (ts : List Tk) (i en : Nat) (ns : List Nd) : Prop := ∃ tv nv vs, PS w base pb ts i en tv nv vs ns

theorem type_ne {w : World} {g g' : Nat} {c c' : Array Value} {e e' : TypeId} (h : w.heap[g]? = some (.cells c e (0, 0))) (h' : w.heap[g']? = some (.cells c' e' (0, 0))) (hne : e ≠ e') : g ≠ g' := by
  intro e0
  subst e0
  rw [h] at h'
  cases h'
  exact hne rfl
theorem OwnT.below {w w' : World} {base : Nat} {nv : Value} {vs : List Nv} {ns : List Nd} (h : OwnT w base nv vs ns) (hb : Below w.heap.size w w') : OwnT w' base nv vs ns :=
  ⟨h.row.below hb, h.len, fun i v n hv hn => by
    obtain ⟨a, b, c, d, e⟩ := h.fit i v n hv hn
    exact ⟨a, b, c, d, e.below hb⟩, h.apart⟩
theorem PS.below {w w' : World} {base pb i en : Nat} {ts : List Tk} {tv nv : Value} {vs : List Nv} {ns : List Nd} (h : PS w base pb ts i en tv nv vs ns) (hb : Below w.heap.size w w') : PS w' base pb ts i en tv nv vs ns :=
  ⟨(hb.block pb (Array.getElem?_eq_some_iff.1 h.obj).1).trans h.obj, h.new, h.toks.below hb, h.nodes.below hb⟩
theorem PS.cells {w : World} {base pb i en : Nat} {ts : List Tk} {tv nv : Value} {vs : List Nv} {ns : List Nd} (h : PS w base pb ts i en tv nv vs ns) :
    w.cell? ⟨pb, 0, none⟩ = some tv ∧ w.cell? ⟨pb, 1, none⟩ = some (.int .i64 i) ∧ w.cell? ⟨pb, 2, none⟩ = some (.int .i64 en) ∧ w.cell? ⟨pb, 3, none⟩ = some (.int .i64 0) ∧ w.cell? ⟨pb, 4, none⟩ = some (.int .i64 0) ∧ w.cell? ⟨pb, 5, none⟩ = some nv ∧ (∀ j, w.frozen? ⟨pb, j, none⟩ = false) ∧ pb < w.heap.size := by
  have ho := h.obj
  refine ⟨?_, ?_, ?_, ?_, ?_, ?_, fun j => by simp [World.frozen?, ho], (Array.getElem?_eq_some_iff.1 ho).1⟩ <;> simp [World.cell?, ho]
/-- Nodes stay, when blocks of other types are written. -/
theorem OwnT.kept {w w' : World} {base g : Nat} {nv : Value} {vs : List Nv} {ns : List Nd} {c : Array Value} {e : TypeId} (h : OwnT w base nv vs ns) (hg : w.grownBy w' (some g)) (hc : w.heap[g]? = some (.cells c e (0, 0))) (h1 : e ≠ 109) (h2 : e ≠ 3) : OwnT w' base nv vs ns :=
  ⟨h.row.kept hg (fun k hk => by
      obtain ⟨cur, hcur⟩ := h.row.obj hk
      intro e0; cases e0
      exact type_ne hc hcur h1 rfl), h.len, fun i v n hv hn => by
    obtain ⟨a, b, c', d, e'⟩ := h.fit i v n hv hn
    exact ⟨a, b, c', d, e'.kept hg (fun k hk => by
      obtain ⟨cur, hcur⟩ := e'.obj hk
      intro e0; cases e0
      exact type_ne hc hcur h2 rfl)⟩, h.apart⟩
theorem toks_kept {w w' : World} {base g : Nat} {tv : Value} {ts : List Tk} {c : Array Value} {e : TypeId} (h : lyT.Own w base tv ts) (hg : w.grownBy w' (some g)) (hc : w.heap[g]? = some (.cells c e (0, 0))) (h1 : e ≠ 99) : lyT.Own w' base tv ts :=
  h.kept hg (fun k hk => by
      obtain ⟨cur, hcur⟩ := h.obj hk
      intro e0; cases e0
      exact type_ne hc hcur h1 rfl)
theorem set_grown (w : World) (g j : Nat) (u : Value) : w.grownBy (w.setCell ⟨g, j, none⟩ u) (some g) := grown_set (grown_refl w _) u

theorem obj_cells {W : World} {b : Nat} {cs : Array Value} {ty : TypeId} (h : W.heap[b]? = some (.cells cs ty (0, 0))) : (∀ j u, cs[j]? = some u → W.cell? ⟨b, j, none⟩ = some u) ∧ (∀ j, W.frozen? ⟨b, j, none⟩ = false) ∧ b < W.heap.size :=
  ⟨fun j u hu => by simp [World.cell?, h, hu], fun j => by simp [World.frozen?, h], (Array.getElem?_eq_some_iff.1 h).1⟩
theorem below_set {n : Nat} {w W : World} (h : Below n w W) {g j : Nat} (hg : n ≤ g) (u : Value) : Below n w (W.setCell ⟨g, j, none⟩ u) := h.setCell hg u
theorem below_drew {n : Nat} {w W : World} (h : Below n w W) : Below n w W.drew := ⟨h.os, h.tape, h.output, h.size, h.block⟩

/-- Boxes of tokens stay, and where a parser's tokens lie. -/
def Keeps (w w' : World) : Prop := (∀ (k : Nat) (c : Array Value), w.heap[k]? = some (.cells c 99 (0, 0)) → w'.heap[k]? = some (.cells c 99 (0, 0))) ∧
  (∀ (k : Nat) (c : Array Value), w.heap[k]? = some (.cells c 97 (0, 0)) → ∃ c' : Array Value, w'.heap[k]? = some (.cells c' 97 (0, 0)) ∧ c'[0]? = c[0]?)
theorem Keeps.trans {a b c : World} (h : Keeps a b) (h' : Keeps b c) : Keeps a c := ⟨fun k x hx => h'.1 k x (h.1 k x hx), fun k x hx => by
  obtain ⟨y, h1, h2⟩ := h.2 k x hx
  obtain ⟨z, h3, h4⟩ := h'.2 k y h1
  exact ⟨z, h3, h4.trans h2⟩⟩

theorem five_new {w : World} {H : Nat} (hH : w.heap.size = H) (x : Nv) : ∀ j u, (Nv.cells x)[j]? = some u → (w.alloc (.cells #[.int .i64 x.id, .int .i64 x.kd, .int .i64 x.fr, .int .i64 x.tt, x.kv] 109)).cell? ((⟨H, 0, none⟩ : Addr).add j) = some u := by
  subst hH
  exact World.news_of_block (heap_alloc_new w _)
/-- One node more. -/
theorem OwnT.push {w W : World} {base g cap : Nat} {nv : Value} {vs : List Nv} {ns : List Nd} (h : OwnT w base nv vs ns) (hg : w.grownBy W nv.ownBlock) (v : Nv) (n : Nd) (hn : n.kids = []) (hv : v.id = n.id ∧ v.kd = n.kd ∧ v.fr = n.fr ∧ v.tt = Nd.to n ∧ v.kv = .slice none 0 0)
    (hr : W.ownsRow base 109 5 (.slice (some ⟨g, 0, none⟩) (vs.length + 1) cap) (vs.length + 1) (lyN.all vs ++ Nv.cells v)) : OwnT W base (.slice (some ⟨g, 0, none⟩) (vs.length + 1) cap) (vs ++ [v]) (ns ++ [n]) := by
  refine ⟨?_, by simp [h.len], ?_, ?_⟩
  · unfold Ly.Own
    rw [List.length_append, List.length_singleton, all_app, all_one]
    exact hr
  · intro i u m hu hm
    by_cases hi : i < vs.length
    · rw [List.getElem?_append_left hi] at hu
      rw [List.getElem?_append_left (by rw [← h.len]; exact hi)] at hm
      obtain ⟨a, b, c, d, e⟩ := h.fit i u m hu hm
      refine ⟨a, b, c, d, e.kept hg (fun k hk e0 => ?_)⟩
      obtain ⟨cur, hcur⟩ := e.obj hk
      obtain ⟨cur', hcur'⟩ := h.row.obj e0
      exact type_ne hcur hcur' (by decide) rfl
    · have hi2 : i = vs.length := by
        have := (List.getElem?_eq_some_iff.1 hu).1
        simp at this; omega
      subst hi2
      rw [List.getElem?_append_right (Nat.le_refl _), Nat.sub_self] at hu
      rw [List.getElem?_append_right (by rw [h.len]; exact Nat.le_refl _), h.len, Nat.sub_self] at hm
      simp at hu hm
      subst hu; subst hm
      obtain ⟨a, b, c, d, e⟩ := hv
      exact ⟨a, b, c, d, by rw [hn, e]; exact Ly.Own.nil _ _⟩
  · intro i j x y k hx hy hij hk
    have key : ∀ (i : Nat) (x : Nv), (vs ++ [v])[i]? = some x → x.kv.ownBlock = some k → vs[i]? = some x := by
      intro i x hx hk
      by_cases hi : i < vs.length
      · rwa [List.getElem?_append_left hi] at hx
      · have hi2 : i = vs.length := by
          have := (List.getElem?_eq_some_iff.1 hx).1
          simp at this; omega
        subst hi2
        rw [List.getElem?_append_right (Nat.le_refl _), Nat.sub_self] at hx
        simp at hx
        subst hx
        rw [hv.2.2.2.2] at hk
        cases hk
    intro hk2
    exact h.apart i j x y k (key i x hx hk) (key j y hy hk2) hij hk hk2

theorem grown_setNew {w W : World} {row : Option Nat} {g j : Nat} (h : w.grownBy W row) (hg : w.heap.size ≤ g) (u : Value) : w.grownBy (W.setCell ⟨g, j, none⟩ u) row :=
  grown_trans h (set_grown W g j u) (fun k e => by cases e; exact .inr hg)
theorem setAll_one (W : World) (g o : Nat) (us : List Value) : W.grownBy (setAll W g o us) (some g) := grown_setAll us o (grown_refl W _)

end Go.Proofs.YtjmfjlffcopnnaaGreatDoor

namespace Go.Proofs.YtjmfjlffcopnnaaGreatDoor
open Go.RowKit

def nid (i : Nat) : Int := (i : Int)
/-- A forest is added below a node. -/
def gro (ns : List Nd) (id : Nat) (F : Fo) : List Nd := ns.modify id (fun m => ⟨m.id, m.kd, m.fr, Nd.to m, m.kids ++ F.ids nid ns.length⟩) ++ F.flat nid ns.length

/-- The parser stands ahead of these tokens. -/
def PL (w : World) (base pb : Nat) (ts left : List Tk) (en : Nat) (ns : List Nd) : Prop := ∃ i, i ≤ ts.length ∧ ts.drop i = left ∧ PSx w base pb ts i en ns
/-- There is room, and the tokens stand in their row. -/
def Rm (B : Nat) (ts left : List Tk) (en : Nat) (ns : List Nd) : Prop := ts.length ≤ 300 ∧ ns.length + 6 * left.length ≤ B ∧ ∃ lo, Srt en lo left

theorem drop_cons {ts r : List Tk} {i : Nat} {t : Tk} (h : ts.drop i = t :: r) : ts[i]? = some t ∧ ts.drop (i + 1) = r ∧ i < ts.length := by
  have hi : i < ts.length := by
    apply Nat.lt_of_not_le
    intro hle
    rw [List.drop_eq_nil_of_le hle] at h
    cases h
  rw [List.drop_eq_getElem_cons hi] at h
  injection h with h1 h2
  exact ⟨by rw [List.getElem?_eq_getElem hi, h1], h2, hi⟩

theorem Rm.next {ts r : List Tk} {en : Nat} {ns : List Nd} {t : Tk} (h : Rm 3000 ts (t :: r) en ns) (x : Nd) : Rm 2995 ts r en (ns ++ [x]) := by
  obtain ⟨h1, h2, lo, h3⟩ := h
  exact ⟨h1, by rw [List.length_append, List.length_singleton]; rw [List.length_cons] at h2; omega, _, h3.2.2⟩

-- value

theorem Rm.mono {B B' : Nat} {ts left : List Tk} {en : Nat} {ns ns' : List Nd} (h : Rm B ts left en ns) (h' : ns'.length + B ≤ ns.length + B') : Rm B' ts left en ns' := ⟨h.1, by have := h.2.1; omega, h.2.2⟩

end Go.Proofs.YtjmfjlffcopnnaaGreatDoor

namespace Go.Proofs.YtjmfjlffcopnnaaGreatDoor
open Go.RowKit

end Go.Proofs.YtjmfjlffcopnnaaGreatDoor

namespace Go.Proofs.YtjmfjlffcopnnaaGreatDoor
open Go.RowKit

theorem lst_nil (k e c d st : Nat) : lstF k e c d st [] = (lackF e .nil, e, []) := by cases k <;> rw [lstF.eq_def]
theorem PSx.cells {w : World} {base pb i en : Nat} {ts : List Tk} {ns : List Nd} (h : PSx w base pb ts i en ns) : w.cell? ⟨pb, 1, none⟩ = some (.int .i64 i) ∧ w.cell? ⟨pb, 2, none⟩ = some (.int .i64 en) ∧ (∀ j, w.frozen? ⟨pb, j, none⟩ = false) := by
  obtain ⟨tv, nv, vs, h⟩ := h
  obtain ⟨c0, c1, c2, c3, c4, c5, cf, hpb⟩ := h.cells
  exact ⟨c1, c2, cf⟩
/-- What the list's loop holds. -/
structure LI (w : World) (base pb : Nat) (ts : List Tk) (en c d : Nat) (ns : List Nd) (id : Nat) (n : Nat) (left0 : List Tk) (tot : Fo × Nat × List Tk) (wr : World) (k st i : Nat) (left : List Tk) (F : Fo) : Prop where
  le : i ≤ ts.length
  drop : ts.drop i = left
  ps : PSx wr base pb ts i en (gro ns id F)
  eq1 : F.app (lstF k en c d st left).1 = tot.1
  eq2 : (lstF k en c d st left).2 = tot.2
  fuel : 4 * left.length + 3 ≤ k
  fuel2 : k ≤ n
  srt : ∃ lo, Srt en lo left
  room : F.size + 6 * left.length ≤ 6 * left0.length
  below : Below base w wr
  keeps : Keeps w wr
def LIx (w : World) (base pb : Nat) (ts : List Tk) (en c d : Nat) (ns : List Nd) (id : Nat) (n : Nat) (left0 : List Tk) (tot : Fo × Nat × List Tk) (v : Value) (wr : World) : Prop :=
  ∃ k st i left F, v = .int .i64 (st : Nat) ∧ LI w base pb ts en c d ns id n left0 tot wr k st i left F

-- rounds
variable {w wr W : World} {base pb : Nat} {ts : List Tk} {en c d : Nat} {ns : List Nd} {id n : Nat} {left0 : List Tk} {tot : Fo × Nat × List Tk} {k st i : Nat} {F : Fo} {t : Tk} {r : List Tk}
theorem LI.pos (L : LI w base pb ts en c d ns id n left0 tot wr k st i (t :: r) F) : ∃ k', k = k' + 1 := ⟨k - 1, by have := L.fuel; omega⟩
theorem LI.none (L : LI w base pb ts en c d ns id n left0 tot wr k st i [] F) : tot = (F.app (lackF en .nil), en, []) := by
  have e1 := L.eq1
  have e2 := L.eq2
  rw [lst_nil] at e1 e2
  rw [show tot = (tot.1, tot.2) from rfl, ← e1, ← e2]
theorem LIx.of {st' k' i' : Nat} {left' : List Tk} {F' : Fo} {v : Value} (hv : v = .int .i64 (st' : Nat)) (L : LI w base pb ts en c d ns id n left0 tot W k' st' i' left' F') : LIx w base pb ts en c d ns id n left0 tot v W := ⟨k', st', i', left', F', hv, L⟩

end Go.Proofs.YtjmfjlffcopnnaaGreatDoor

namespace Go.Proofs.YtjmfjlffcopnnaaGreatDoor
open Go.RowKit

/-- One token more. -/
theorem PS.pushT {w W : World} {base pb i en g cap : Nat} {ts : List Tk} {tv : Value} (h : PS w base pb ts i en tv (.slice none 0 0) [] []) (hg : w.grownBy W tv.ownBlock) (t : Tk)
    (hr : W.ownsRow base 99 3 (.slice (some ⟨g, 0, none⟩) (ts.length + 1) cap) (ts.length + 1) (lyT.all ts ++ Tk.cells t)) :
    PS (W.setCell ⟨pb, 0, none⟩ (.slice (some ⟨g, 0, none⟩) (ts.length + 1) cap)) base pb (ts ++ [t]) i en (.slice (some ⟨g, 0, none⟩) (ts.length + 1) cap) (.slice none 0 0) [] [] := by
  have ho : W.heap[pb]? = some (.cells #[tv, .int .i64 i, .int .i64 en, .int .i64 0, .int .i64 0, .slice none 0 0] 97 (0, 0)) :=
    (hg.block pb (Array.getElem?_eq_some_iff.1 h.obj).1 (fun e => by
      obtain ⟨cur, hcur⟩ := h.toks.obj e.symm
      exact type_ne h.obj hcur (by decide) rfl)).trans h.obj
  have ht : lyT.Own W base (.slice (some ⟨g, 0, none⟩) (ts.length + 1) cap) (ts ++ [t]) := by
    unfold Ly.Own
    rw [List.length_append, List.length_singleton, all_app, all_one]
    exact hr
  exact ⟨by rw [heap_setCell_at ho]; rfl, h.new, toks_kept ht (set_grown ..) ho (by decide), ⟨Ly.Own.nil _ _, rfl, fun i v n hv => by simp at hv, fun i j v u g hv => by simp at hv⟩⟩

-- tops
/-- What the root's loop holds. -/
structure TL (w : World) (base pb : Nat) (ts : List Tk) (en : Nat) (ns : List Nd) (tot : Fo) (wr : World) (k : Nat) (one : Bool) (i : Nat) (left : List Tk) (F : Fo) : Prop where
  le : i ≤ ts.length
  drop : ts.drop i = left
  ps : PSx wr base pb ts i en (gro ns 0 F)
  eq : F.app (topF k en one left) = tot
  fuel : left.length ≤ k
  srt : ∃ lo, Srt en lo left
  room : F.size + 6 * left.length ≤ 6 * ts.length
  below : Below base w wr
def TLx (w : World) (base pb : Nat) (ts : List Tk) (en : Nat) (ns : List Nd) (tot : Fo) (v : Value) (wr : World) : Prop := ∃ k one i left F, v = .bool one ∧ TL w base pb ts en ns tot wr k one i left F
theorem top_nil (k e : Nat) (one : Bool) : topF k e one [] = if one then .nil else lackF e .nil := by cases k <;> rfl
theorem top_is (k e : Nat) (one : Bool) (t : Tk) (r : List Tk) : topF (k + 1) e one (t :: r) =
    (if !starts t 1 then .cons 7 t.fr (Tk.to t) .nil (topF k e one r)
    else if one then .cons 7 t.fr (max (Tk.to t) ((valF (4 * (r.length + 1)) e 1 (t :: r)).1.last 0)) (valF (4 * (r.length + 1)) e 1 (t :: r)).1 (topF k e one (valF (4 * (r.length + 1)) e 1 (t :: r)).2)
    else (valF (4 * (r.length + 1)) e 1 (t :: r)).1.app (topF k e true (valF (4 * (r.length + 1)) e 1 (t :: r)).2)) := rfl
section
variable {w wr W : World} {base pb : Nat} {ts : List Tk} {en : Nat} {ns : List Nd} {tot : Fo} {k i : Nat} {one : Bool} {F : Fo} {t : Tk} {r : List Tk}
theorem TL.pos (L : TL w base pb ts en ns tot wr k one i (t :: r) F) : ∃ k', k = k' + 1 := ⟨k - 1, by have := L.fuel; rw [List.length_cons] at this; omega⟩
theorem TL.none (L : TL w base pb ts en ns tot wr k one i [] F) : tot = F.app (if one then .nil else lackF en .nil) := by rw [← L.eq, top_nil]
/-- What a value at the root adds. -/
def tpF (one : Bool) (t : Tk) (X : Fo) : Fo := if one then .cons 7 t.fr (max (Tk.to t) (X.last 0)) X .nil else X
theorem TL.value (L : TL w base pb ts en ns tot wr (k + 1) one i (t :: r) F) (hs : starts t 1 = true) {j : Nat} (hj : j ≤ ts.length) (hdj : ts.drop j = (valF (4 * (r.length + 1)) en 1 (t :: r)).2)
    (hps : PSx W base pb ts j en (gro ns 0 (F.app (tpF one t (valF (4 * (r.length + 1)) en 1 (t :: r)).1)))) (hb : Below base wr W) :
    TL w base pb ts en ns tot W k true j (valF (4 * (r.length + 1)) en 1 (t :: r)).2 (F.app (tpF one t (valF (4 * (r.length + 1)) en 1 (t :: r)).1)) ∧ i + 1 ≤ j := by
  obtain ⟨lo, hsr⟩ := L.srt
  have ho := (all_ok (4 * (r.length + 1))).1 en 1 lo t r hsr
  obtain ⟨h1, h2, h3⟩ := drop_cons L.drop
  have f := L.fuel
  have g := L.room
  rw [List.length_cons] at f g
  have l1 := congrArg List.length hdj
  have l2 := congrArg List.length h2
  rw [List.length_drop] at l1 l2
  refine ⟨⟨hj, hdj, hps, ?_, by omega, ⟨_, ho.1.choose_spec.2.1⟩, ?_, L.below.trans hb⟩, by omega⟩
  · rw [← L.eq, top_is, if_neg (by simp [hs]), Fo.app_app]
    unfold tpF
    cases one <;> rfl
  · rw [Fo.size_app]
    unfold tpF
    cases one
    · simp only [Bool.false_eq_true, if_false]; omega
    · simp only [if_true, Fo.size]; omega
theorem TLx.of {k' i' : Nat} {one' : Bool} {left' : List Tk} {F' : Fo} {v : Value} (hv : v = .bool one') (L : TL w base pb ts en ns tot W k' one' i' left' F') : TLx w base pb ts en ns tot v W := ⟨k', one', i', left', F', hv, L⟩
end
theorem OwnT.mono {w : World} {base base' : Nat} {nv : Value} {vs : List Nv} {ns : List Nd} (h : OwnT w base nv vs ns) (hb : base' ≤ base) : OwnT w base' nv vs ns :=
  ⟨h.row.mono hb, h.len, fun i v n hv hn => by
    obtain ⟨a, b, c, d, e⟩ := h.fit i v n hv hn
    exact ⟨a, b, c, d, e.mono hb⟩, h.apart⟩

end Go.Proofs.YtjmfjlffcopnnaaGreatDoor
