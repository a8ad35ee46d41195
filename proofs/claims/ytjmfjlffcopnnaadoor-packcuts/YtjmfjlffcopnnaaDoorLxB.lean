/-
  Lx4, Mem, Lx5, in one text. Conditions: as each theorem's premises say.
-/
import Derived.Test.YtjmfjlffcopnnaaDoorLxA
import Derived.Lib.Bytes
import Derived.Deep.AppendLies
import Derived.Laws.OwnMore
import Derived.OwnWalk
namespace Go.Proofs.YtjmfjlffcopnnaaDoor
open Go.RowKit

theorem dr_below (w : World) (m : Nat) : Below w.heap.size w (w.drewN m) := ⟨rfl, rfl, rfl, Nat.le_refl _, fun _ _ => rfl⟩
theorem results_cell1 {fn : Func} {p : Tmp} {ty : TypeId} (h : fn.results = #[.cell p ty]) (tmps : Array Value) (P : Program) (w : World) :
    (results fn tmps).run P w = ((asAddr (tmps.getD p undef)).run P w).andThen fun a w₁ => (loadVar ty a).run P w₁ := by
  simp only [results, h]
  simp [Sem.run_bind, Result.andThen]

/-- A token comes back. -/
def TokPost (k a b : Nat) (w : World) (e : Ending) (w' : World) : Prop := e = .returned (.agg #[.int .i64 k, .int .i64 a, .int .i64 b]) ∧ Below w.heap.size w w'

abbrev sgs : ByteArray := ⟨#[123, 125, 91, 93, 58, 44]⟩
theorem sgs_cases {P : Nat → Nat → Prop} (h0 : P 0 123) (h1 : P 1 125) (h2 : P 2 91) (h3 : P 3 93) (h4 : P 4 58) (h5 : P 5 44) (k : Nat) (hk : k < sgs.size) : P k sgs[k].toNat := by
  have : k < 6 := hk
  rcases (by omega : k = 0 ∨ k = 1 ∨ k = 2 ∨ k = 3 ∨ k = 4 ∨ k = 5) with rfl | rfl | rfl | rfl | rfl | rfl
  · exact h0
  · exact h1
  · exact h2
  · exact h3
  · exact h4
  · exact h5
theorem beq_nat {n m : Nat} (h : ((n : Int) == (m : Int)) = true) : m = n := by
  rw [beq_iff_eq] at h; omega
theorem sign_hit (b : UInt8) (k : Nat) (hk : k < sgs.size) (h : ((sgs[k].toNat : Int) == (b.toNat : Int)) = true) : signL b = some k := by
  have h' := beq_nat h
  clear h
  revert h'
  refine sgs_cases (P := fun k n => b.toNat = n → signL b = some k) ?_ ?_ ?_ ?_ ?_ ?_ k hk <;>
    (intro h; unfold signL; rw [h]; rfl)
theorem sign_none (b : UInt8) (h : ∀ k (hk : k < sgs.size), ((sgs[k].toNat : Int) == (b.toNat : Int)) = false) : signL b = none := by
  have key : ∀ k (hk : k < sgs.size), (b.toNat == sgs[k].toNat) = false := fun k hk => by
    have := h k hk
    rw [beq_eq_false_iff_ne] at this ⊢
    intro e; apply this; rw [e]
  have k0 : (b.toNat == 123) = false := key 0 (by decide)
  have k1 : (b.toNat == 125) = false := key 1 (by decide)
  have k2 : (b.toNat == 91) = false := key 2 (by decide)
  have k3 : (b.toNat == 93) = false := key 3 (by decide)
  have k4 : (b.toNat == 58) = false := key 4 (by decide)
  have k5 : (b.toNat == 44) = false := key 5 (by decide)
  unfold signL
  rw [k0, k1, k2, k3, k4, k5]; rfl
theorem tok_cons (b : UInt8) (r : List UInt8) (h : signL b = none) : tokL (b :: r) =
      if blkB b then (10, 1 + runL blkB r)
      else if b.toNat == 34 then (if (quoL r).2 then 6 else 11, 1 + (quoL r).1)
      else if b.toNat == 47 then (if (remL r).2 then 9 else 11, 1 + (remL r).1)
      else if letB b then (if wordL ((b :: r).takeWhile letB) then 8 else 11, 1 + runL letB r)
      else if numL (b :: r) = 0 then (11, 1) else (7, numL (b :: r)) := by
  simp only [tokL, h]
/-- The token at a place: its kind, where it ends. -/
def tkE (s : ByteArray) (i : Nat) : Nat × Nat := ((tokL (fromL s i)).1, i + (tokL (fromL s i)).2)
theorem tkE_sign {s : ByteArray} {i k : Nat} (h : i < s.size) (hk : signL s[i] = some k) : tkE s i = (k, i + 1) := by
  unfold tkE
  rw [from_cons h]
  simp only [tokL, hk]

theorem take_run (p : UInt8 → Bool) (l : List UInt8) : l.takeWhile p = l.take (runL p l) := by
  unfold runL
  exact List.prefix_iff_eq_take.1 (List.takeWhile_prefix p)
theorem extract_from (s : ByteArray) (i k : Nat) : (s.extract i k).toList = (fromL s i).take (k - i) := by
  rw [Go.Lib.toList_data, ByteArray.data_extract, Array.toList_extract, List.extract_eq_take_drop]
  rfl
theorem word_map (l m : List UInt8) : (l.map UInt8.toNat == m.map UInt8.toNat) = (l == m) := by
  rw [Bool.eq_iff_iff, beq_iff_eq, beq_iff_eq]
  constructor
  · intro h
    exact (List.map_inj_right (fun a b h => UInt8.toNat_inj.1 h)).1 h
  · rintro rfl; rfl
theorem word_is {s : ByteArray} {i k : Nat} (h : i < s.size) (hk : k = i + 1 + runL letB (fromL s (i + 1))) (hl : letB s[i] = true) :
    wordL ((fromL s i).takeWhile letB) = ((s.extract i k).toList == [116, 114, 117, 101] || (s.extract i k).toList == [102, 97, 108, 115, 101] || (s.extract i k).toList == [110, 117, 108, 108]) := by
  have e : (s.extract i k).toList = (fromL s i).takeWhile letB := by
    rw [extract_from, take_run]
    congr 1
    rw [run_from h, hl, hk]
    simp only [if_true]
    omega
  rw [e]
  unfold wordL
  rw [← word_map, ← word_map _ [102, 97, 108, 115, 101], ← word_map _ [110, 117, 108, 108]]
  rfl

theorem add_plain (b o i : Nat) : (⟨b, o, none⟩ : Addr).add i = ⟨b, o + i, none⟩ := by unfold Addr.add; split <;> simp_all

/-- How the elements of a row lie: their type, how many cells each, which. -/
structure Ly (α : Type) where
  ty : Nat
  sz : Nat
  cells : α → List Value
  len : ∀ a, (cells a).length = sz
  one : ∀ a, ∀ u ∈ cells a, u.oneCell' = true
  pos : 0 < sz

variable {α : Type} {L : Ly α} {w w' : World} {base : Nat} {v : Value} {xs : List α}

def Ly.all (L : Ly α) (xs : List α) : List Value := xs.flatMap L.cells
theorem all_nil : L.all [] = [] := rfl
theorem all_app (a b : List α) : L.all (a ++ b) = L.all a ++ L.all b := by simp [Ly.all]
theorem all_one (a : α) : L.all [a] = L.cells a := by simp [Ly.all]
theorem all_len (xs : List α) : (L.all xs).length = xs.length * L.sz := by
  induction xs with
  | nil => simp [Ly.all]
  | cons c cs ih =>
    have : L.all (c :: cs) = L.cells c ++ L.all cs := by simp [Ly.all]
    rw [this, List.length_append, ih, List.length_cons, L.len, Nat.succ_mul, Nat.add_comm]
theorem all_ones (xs : List α) : ∀ u ∈ L.all xs, u.oneCell' = true := by
  intro u hu
  obtain ⟨c, _, hc⟩ := List.mem_flatMap.1 hu
  exact L.one c u hc
theorem split_at {xs : List α} {i : Nat} {x : α} (h : xs[i]? = some x) : xs = xs.take i ++ (x :: xs.drop (i + 1)) ∧ i < xs.length := by
  obtain ⟨hl, he⟩ := List.getElem?_eq_some_iff.1 h
  exact ⟨by rw [← he]; simp, hl⟩
theorem all_split {xs : List α} {i : Nat} {x : α} (h : xs[i]? = some x) : L.all xs = L.all (xs.take i) ++ (L.cells x ++ L.all (xs.drop (i + 1))) ∧ (L.all (xs.take i)).length = i * L.sz := by
  obtain ⟨h1, hl⟩ := split_at h
  constructor
  · conv => lhs; rw [h1]
    rw [all_app]; simp [Ly.all]
  · rw [all_len, List.length_take, Nat.min_eq_left (by omega)]
theorem all_get {xs : List α} {i j : Nat} {x : α} {u : Value} (h : xs[i]? = some x) (hu : (L.cells x)[j]? = some u) : (L.all xs)[i * L.sz + j]? = some u := by
  obtain ⟨h1, h2⟩ := all_split (L := L) h
  have hj := (List.getElem?_eq_some_iff.1 hu).1
  rw [h1, List.getElem?_append_right (by omega), h2, Nat.add_sub_cancel_left, List.getElem?_append_left hj, hu]

/-- An element lies at an address. -/
def Ly.At (L : Ly α) (w : World) (b o : Nat) (x : α) : Prop := ∀ j u, (L.cells x)[j]? = some u → w.cell? ⟨b, o + j, none⟩ = some u
/-- The elements of a slice, as they lie in memory. -/
def Ly.Row (L : Ly α) (w : World) (p : Option Addr) (xs : List α) : Prop := ∀ (i : Nat) x, xs[i]? = some x → ∃ b o, p = some ⟨b, o, none⟩ ∧ L.At w b (o + i * L.sz) x
/-- v is a slice of these elements in memory of the call's own, from block base on. -/
def Ly.Own (L : Ly α) (w : World) (base : Nat) (v : Value) (xs : List α) : Prop := w.ownsRow base L.ty L.sz v xs.length (L.all xs)

theorem cell_later {w w' : World} (hb : Below w.heap.size w w') {b o : Nat} {u : Value} (h : w.cell? ⟨b, o, none⟩ = some u) : w'.cell? ⟨b, o, none⟩ = some u :=
  (hb.cell (p := ⟨b, o, none⟩) (World.block_lt_of_cell? w ⟨b, o, none⟩ h)).trans h
theorem Ly.At.below {b o : Nat} {x : α} (h : L.At w b o x) (hb : Below w.heap.size w w') : L.At w' b o x := fun j u hu => cell_later hb (h j u hu)
theorem Ly.Row.below {p : Option Addr} (h : L.Row w p xs) (hb : Below w.heap.size w w') : L.Row w' p xs := fun i x hi => by
  obtain ⟨b, o, hp, hc⟩ := h i x hi
  exact ⟨b, o, hp, Ly.At.below hc hb⟩
theorem Ly.Row.nil (p : Option Addr) : L.Row w p [] := fun i x h => by simp at h
theorem Ly.Own.nil (w : World) (base : Nat) : L.Own w base (.slice none 0 0) [] := World.ownsRow_nil _ _ _ _
theorem Ly.Own.form (h : L.Own w base v xs) : ∃ p cap, v = .slice p xs.length cap := by
  rcases h.2 with ⟨h, hn⟩ | ⟨g, cap, _, h, _⟩
  · rw [hn]; exact ⟨_, _, h⟩
  · exact ⟨_, _, h⟩
theorem Ly.Own.formS (h : L.Own w base v xs) (h0 : xs ≠ []) : ∃ g cap, v = .slice (some ⟨g, 0, none⟩) xs.length cap ∧ base ≤ g ∧ g < w.heap.size ∧ xs.length ≤ cap := by
  rcases h.2 with ⟨h, hn⟩ | ⟨g, cap, _, h, hb, hg, hc, _⟩
  · exact absurd (List.eq_nil_of_length_eq_zero hn) h0
  · exact ⟨g, cap, h, hb, (Array.getElem?_eq_some_iff.1 hg).1, hc⟩
theorem Ly.Own.at {g n cap : Nat} (h : L.Own w base (.slice (some ⟨g, 0, none⟩) n cap) xs) {i : Nat} {x : α} (hi : xs[i]? = some x) : L.At w g (i * L.sz) x := by
  intro j u hu
  have := World.ownsRow.cells h (g := g) rfl _ _ (all_get hi hu)
  rwa [add_plain, Nat.zero_add] at this
theorem Ly.Own.row {p : Option Addr} {n cap : Nat} (h : L.Own w base (.slice p n cap) xs) : L.Row w p xs := by
  intro i x hi
  rcases h.2 with ⟨_, hn⟩ | ⟨g, _, _, hv, _⟩
  · have := (List.getElem?_eq_some_iff.1 hi).1; omega
  · cases hv
    exact ⟨g, 0, rfl, by rw [Nat.zero_add]; exact Ly.Own.at h hi⟩
theorem Ly.Own.lt (h : L.Own w base v xs) {g : Nat} (hg : v.ownBlock = some g) : base ≤ g ∧ g < w.heap.size := World.ownsRow.lt h g hg
theorem Ly.Own.below (h : L.Own w base v xs) (hb : Below w.heap.size w w') : L.Own w' base v xs :=
  World.ownsRow.kept (row := none) h ⟨hb.os, hb.tape, hb.output, hb.size, fun k hk _ => hb.block k hk⟩ (by cases v.ownBlock <;> simp)
theorem Ly.Own.mono {base' : Nat} (h : L.Own w base v xs) (hb : base' ≤ base) : L.Own w base' v xs := by
  refine ⟨h.1, ?_⟩
  rcases h.2 with h | ⟨g, cap, cur, hv, h1, h2⟩
  · exact .inl h
  · exact .inr ⟨g, cap, cur, hv, Nat.le_trans hb h1, h2⟩
theorem Ly.Own.frozen {g n cap : Nat} (h : L.Own w base (.slice (some ⟨g, 0, none⟩) n cap) xs) (i : Nat) : w.frozen? ⟨g, i, none⟩ = false := by
  rcases h.2 with ⟨hv, _⟩ | ⟨g', cap', cur, hv, hb, hg, _⟩
  · cases hv
  · cases hv
    simp [World.frozen?, hg]
/-- The block of a row, as an object of its elements' type. -/
theorem Ly.Own.obj (h : L.Own w base v xs) {g : Nat} (hg : v.ownBlock = some g) : ∃ cur, w.heap[g]? = some (.cells cur L.ty (0, 0)) := by
  rcases h.2 with ⟨hv, _⟩ | ⟨g', cap', cur, hv, hb, hgg, _⟩
  · subst hv; cases hg
  · subst hv; cases hg; exact ⟨cur, hgg⟩
theorem Ly.Own.kept {row : Option Nat} (h : L.Own w base v xs) (hg : w.grownBy w' row) (hne : ∀ g, v.ownBlock = some g → row ≠ some g) : L.Own w' base v xs :=
  World.ownsRow.kept h hg (by
    cases hv : v.ownBlock with
    | none => exact .inl rfl
    | some g => exact .inr (fun e => hne g hv e.symm))
theorem heap_setCell_at {w : World} {g i : Nat} {cur : Array Value} {e : TypeId} {fr : Nat × Nat} (h : w.heap[g]? = some (.cells cur e fr)) (u : Value) : (w.setCell ⟨g, i, none⟩ u).heap[g]? = some (.cells (cur.setIfInBounds i u) e fr) := by
  simp [World.setCell, Array.getElem?_modify, h]
theorem grown_refl (w : World) (row : Option Nat) : w.grownBy w row := ⟨rfl, rfl, rfl, Nat.le_refl _, fun _ _ _ => rfl⟩
theorem grown_of_below {w w' : World} (h : Below w.heap.size w w') (row : Option Nat) : w.grownBy w' row := ⟨h.os, h.tape, h.output, h.size, fun k hk _ => h.block k hk⟩
theorem grown_trans {w w1 w2 : World} {row row1 : Option Nat} (h : w.grownBy w1 row) (h1 : w1.grownBy w2 row1) (hr : ∀ g, row1 = some g → row = some g ∨ w.heap.size ≤ g) : w.grownBy w2 row :=
  ⟨h1.os.trans h.os, h1.tape.trans h.tape, h1.output.trans h.output, Nat.le_trans h.size h1.size, fun k hk hne => (h1.block k (Nat.lt_of_lt_of_le hk h.size) (fun e => by rcases hr k e.symm with h | h; exact hne h.symm; omega)).trans (h.block k hk hne)⟩
theorem grown_set {w w1 : World} {g i : Nat} (h : w.grownBy w1 (some g)) (u : Value) : w.grownBy (w1.setCell ⟨g, i, none⟩ u) (some g) :=
  ⟨h.os, h.tape, h.output, by simpa using h.size, fun k hk hne => by
    have : k ≠ g := fun e => hne (by rw [e])
    rw [← h.block k hk hne]
    simp [World.setCell, Array.getElem?_modify, this.symm]⟩
/-- What was there ahead of block base is as it was, where only later blocks were written. -/
theorem below_grown {w w' : World} {base g : Nat} (h : w.grownBy w' (some g)) (hg : base ≤ g) (hb : base ≤ w.heap.size) : Below base w w' :=
  ⟨h.os, h.tape, h.output, h.size, fun k hk => h.block k (by omega) (fun e => by cases e; omega)⟩
theorem below_grownN {w w' : World} {base : Nat} {row : Option Nat} (h : w.grownBy w' row) (hg : ∀ g, row = some g → base ≤ g) (hb : base ≤ w.heap.size) : Below base w w' :=
  ⟨h.os, h.tape, h.output, h.size, fun k hk => h.block k (by omega) (fun e => by have := hg k e.symm; omega)⟩

def Tk.cells (t : Tk) : List Value := [.int .i64 t.k, .int .i64 t.fr, .int .i64 (Tk.to t)]
theorem toks_fuel : ∀ (n m a : Nat) (l : List UInt8), l.length ≤ n → l.length ≤ m → toksF n a l = toksF m a l
  | 0, 0, _, [], _, _ => rfl
  | 0, _ + 1, _, [], _, _ => rfl
  | _ + 1, 0, _, [], _, _ => rfl
  | _ + 1, _ + 1, _, [], _, _ => rfl
  | 0, _, _, _ :: _, h, _ => by simp at h
  | _ + 1, 0, _, _ :: _, _, h => by simp at h
  | n + 1, m + 1, a, b :: r, h, h' => by
    have := tok_le b r
    unfold toksF
    rw [toks_fuel n m _ _ (by rw [List.length_drop, List.length_cons] at *; omega) (by rw [List.length_drop, List.length_cons] at *; omega)]
/-- The tokens from a place on. -/
def tkF (s : ByteArray) (i : Nat) : List Tk := toksF s.size i (fromL s i)
theorem tkF_end {s : ByteArray} {i : Nat} (h : s.size ≤ i) : tkF s i = [] := by
  unfold tkF
  rw [from_nil h]
  cases s.size <;> rfl
theorem tkE_le {s : ByteArray} {i : Nat} (h : i < s.size) : i + 1 ≤ (tkE s i).2 ∧ (tkE s i).2 ≤ s.size := by
  unfold tkE
  have hl := from_len s (i + 1)
  rw [from_cons h]
  have := tok_le s[i] (fromL s (i + 1))
  dsimp only
  omega
theorem tkF_step {s : ByteArray} {i : Nat} (h : i < s.size) : tkF s i = ⟨(tkE s i).1, i, (tkE s i).2⟩ :: tkF s (tkE s i).2 := by
  obtain ⟨n, hn⟩ : ∃ n, s.size = n + 1 := ⟨s.size - 1, by omega⟩
  have hl := from_len s i
  have hle := tkE_le h
  have e : (fromL s i).drop (tokL (fromL s i)).2 = fromL s (tkE s i).2 := by rw [from_drop]; rfl
  unfold tkF
  rw [hn]
  have h2 : fromL s i = s[i] :: fromL s (i + 1) := from_cons h
  conv => lhs; rw [h2]; unfold toksF
  rw [← h2, e, toks_fuel n (n + 1) _ _ (by rw [from_len]; omega) (by rw [from_len]; omega)]
  rfl
theorem tkF_toks (s : ByteArray) : tkF s 0 = toks s.data.toList := by
  unfold tkF toks fromL
  rw [List.drop_zero]
  congr 1
theorem tkF_len {s : ByteArray} : ∀ (n i : Nat), s.size - i ≤ n → (tkF s i).length ≤ s.size - i := by
  intro n
  induction n with
  | zero => intro i h; rw [tkF_end (by omega)]; simp
  | succ n ih =>
    intro i h
    by_cases hi : i < s.size
    · have hle := tkE_le hi
      have := ih (tkE s i).2 (by omega)
      rw [tkF_step hi, List.length_cons]
      omega
    · rw [tkF_end (by omega)]; simp

theorem box_cell (w : World) (cs : Array Value) (ty : Nat) (o : Obj) {j : Nat} {u : Value} (h : cs[j]? = some u) : ((w.alloc (.cells cs ty)).alloc o).cell? ⟨w.heap.size, j, none⟩ = some u :=
  cell_later ((Below.refl _ _).alloc (Nat.le_refl _) o) (by rw [World.cell?_alloc_mark]; exact h)
theorem below1 {w w1 : World} {n : Nat} (h : Below n w w1) (hn : n ≤ w1.heap.size) (a : Obj) : Below n w (w1.alloc a) := h.alloc hn a
theorem below2 {w w1 : World} {n : Nat} (h : Below n w w1) (hn : n ≤ w1.heap.size) (a b : Obj) : Below n w ((w1.alloc a).alloc b) := (h.alloc hn a).alloc (by simp; omega) b
end Go.Proofs.YtjmfjlffcopnnaaDoor
