/-
  KBase, KMath, in one text. Conditions: as each theorem's premises say.
-/
import Derived.WalkKit
import Derived.WalkSpells
import Derived.WalkLawsBesides
namespace Go.Proofs.YtjmfjlffcopnnaaDoor.K
open Go.RowKit

/-- A piece: its kind, its number, its text. -/
structure C where
  k : Int
  n : Int
  t : ByteArray

def C.cells (c : C) : List Value := [.int .i64 c.k, .int .i64 c.n, .string c.t]
def C.val (c : C) : Value := .agg #[.int .i64 c.k, .int .i64 c.n, .string c.t]
def cellsC (cs : List C) : List Value := cs.flatMap C.cells

end Go.Proofs.YtjmfjlffcopnnaaDoor.K

namespace Go.Proofs.YtjmfjlffcopnnaaDoor.K

theorem C.ext' {a b : C} (hk : a.k = b.k) (hn : a.n = b.n) (ht : a.t = b.t) : a = b := by
  cases a; cases b; simp_all

def C.sz (c : C) : Int := c.n + c.t.size
def C.join (l c : C) : C := ⟨l.k, l.n + c.n, l.t ++ c.t⟩

/-- What a raw piece is, its bounds aside. -/
def C.Soft (c : C) : Prop := ((c.k = 0 ∨ c.k = 2) ∧ 0 ≤ c.n ∧ c.t.size = 0) ∨ (c.k = 1 ∧ c.n = 0)
def C.Raw (c : C) : Prop := ((c.k = 0 ∨ c.k = 2) ∧ 0 ≤ c.n ∧ c.n ≤ 4096 ∧ c.t.size = 0) ∨ (c.k = 1 ∧ c.n = 0 ∧ c.t.size ≤ 4096)
instance (c : C) : Decidable c.Raw := by unfold C.Raw; exact inferInstance
def rawB (c : C) : Bool := decide c.Raw
theorem rawB_iff {c : C} : rawB c = true ↔ c.Raw := decide_eq_true_iff

def fromC (c : C) : Int := if c.k = 1 then 0 else c.n
def toC (c : C) : Int := if c.k = 2 then 0 else c.sz
def keepC (c : C) : Int := if c.k = 0 then c.n else 0
def cutC (c : C) : Int := if c.k = 2 then c.n else 0
def putC (c : C) : List UInt8 := if c.k = 0 ∨ c.k = 2 then [] else c.t.data.toList
def sumOf (f : C → Int) : List C → Int
  | [] => 0
  | c :: cs => f c + sumOf f cs
def putsOf : List C → List UInt8
  | [] => []
  | c :: cs => putC c ++ putsOf cs

theorem sumOf_append (f : C → Int) (a b : List C) : sumOf f (a ++ b) = sumOf f a + sumOf f b := by
  induction a with
  | nil => simp [sumOf]
  | cons c a ih => simp only [List.cons_append, sumOf, ih]; omega
theorem putsOf_append (a b : List C) : putsOf (a ++ b) = putsOf a ++ putsOf b := by
  induction a with
  | nil => simp [putsOf]
  | cons c a ih => simp only [List.cons_append, putsOf, ih, List.append_assoc]

def okB (cs : List C) : Bool := decide (cs.length ≤ 4096) && cs.all rawB && decide (sumOf fromC cs ≤ 4096) && decide (sumOf toC cs ≤ 4096)
theorem okB_iff {cs : List C} : okB cs = true ↔ cs.length ≤ 4096 ∧ (∀ c ∈ cs, c.Raw) ∧ sumOf fromC cs ≤ 4096 ∧ sumOf toC cs ≤ 4096 := by
  simp [okB, rawB_iff, and_assoc]

def addR : List C → C → List C
  | [], c => [c]
  | l :: r, c => if l.k = c.k then l.join c :: r else if l.k = 2 ∧ c.k = 1 then l :: addR r c else c :: l :: r
def addC (all : List C) (c : C) : List C := if c.sz = 0 then all else (addR all.reverse c).reverse
def normOf (cs : List C) : List C := cs.foldl addC []

theorem normOf_snoc (cs : List C) (c : C) : normOf (cs ++ [c]) = addC (normOf cs) c := by simp [normOf]

theorem ba_append_assoc (a b c : ByteArray) : a ++ b ++ c = a ++ (b ++ c) := by
  apply ByteArray.ext; simp [ByteArray.data_append, Array.append_assoc]
theorem ba_append_list (a b : ByteArray) : (a ++ b).data.toList = a.data.toList ++ b.data.toList := by simp [ByteArray.data_append]
theorem ba_append_size (a b : ByteArray) : (a ++ b).size = a.size + b.size := by simp

theorem join_join (a b c : C) : (a.join b).join c = a.join (b.join c) := by
  simp only [C.join, C.mk.injEq, true_and]
  exact ⟨by omega, ba_append_assoc _ _ _⟩
theorem join_sz (a b : C) : (a.join b).sz = a.sz + b.sz := by simp only [C.join, C.sz, ba_append_size]; omega

theorem addR_join {l c : C} (h : l.k = c.k) : ∀ r, addR (addR r l) c = addR r (l.join c)
  | [] => by simp [addR, h]
  | x :: r => by
    have ih := addR_join h r
    have hj : (l.join c).k = c.k := h
    by_cases h1 : x.k = c.k
    · have hx : (x.join l).k = c.k := h1
      simp [addR, h, hj, h1, hx, join_join]
    · by_cases h2 : x.k = 2 ∧ c.k = 1
      · have h3 : ¬ (2 : Int) = 1 := by omega
        simp only [addR, h, hj, if_neg h1, if_pos h2, ih]
      · simp only [addR, h, hj, if_neg h1, if_neg h2, if_true]

theorem addR_swap {u p : C} (hu : u.k = 2) (hp : p.k = 1) (r : List C) : addR (addR r u) p = addR (addR r p) u := by
  have e1 : ¬ (2 : Int) = 1 := by omega
  have e2 : ¬ (1 : Int) = 2 := by omega
  cases r with
  | nil => simp [addR, hu, hp]
  | cons x r =>
    by_cases h1 : x.k = 2
    · have hx : (x.join u).k = 2 := h1
      simp [addR, hu, hp, h1, hx]
    · by_cases h2 : x.k = 1
      · have hx : (x.join p).k = 1 := h2
        simp [addR, hu, hp, h2, hx]
      · simp [addR, hu, hp, h1, h2]

def Pos (cs : List C) : Prop := ∀ c ∈ cs, 0 < c.sz

theorem addR_mem {P : C → Prop} (hj : ∀ l c : C, l.k = c.k → P l → P c → P (l.join c)) {c : C} (hc : P c) : ∀ r : List C, (∀ x ∈ r, P x) → ∀ x ∈ addR r c, P x
  | [], _ => by simp [addR, hc]
  | l :: r, h => by
    have hl := h l (by simp)
    have hr : ∀ x ∈ r, P x := fun x hx => h x (by simp [hx])
    have ih := addR_mem hj hc r hr
    intro x hx
    by_cases h1 : l.k = c.k
    · rw [addR, if_pos h1] at hx
      rcases List.mem_cons.1 hx with rfl | hx
      · exact hj l c h1 hl hc
      · exact hr x hx
    · by_cases h2 : l.k = 2 ∧ c.k = 1
      · rw [addR, if_neg h1, if_pos h2] at hx
        rcases List.mem_cons.1 hx with rfl | hx
        · exact hl
        · exact ih x hx
      · rw [addR, if_neg h1, if_neg h2] at hx
        rcases List.mem_cons.1 hx with rfl | hx
        · exact hc
        · exact h x hx

theorem Pos.addR {r : List C} {c : C} (h : Pos r) (hc : 0 < c.sz) : Pos (addR r c) :=
  addR_mem (P := fun c => 0 < c.sz) (fun l c _ hl hc => by show 0 < (l.join c).sz; rw [join_sz]; omega) hc r h
theorem soft_join (l c : C) (hk : l.k = c.k) (hl : l.Soft) (hc : c.Soft) : (l.join c).Soft := by
  unfold C.Soft at *
  simp only [C.join, ba_append_size]
  omega
theorem Soft.sz0 {c : C} (h : c.Soft) : 0 ≤ c.sz := by
  unfold C.Soft at h; unfold C.sz; omega
theorem Raw.soft {c : C} (h : c.Raw) : c.Soft := by
  unfold C.Raw at h; unfold C.Soft; omega
theorem rev_mem {P : C → Prop} {r : List C} (h : ∀ x ∈ r, P x) : ∀ x ∈ r.reverse, P x := fun x hx => h x (by simpa using hx)

theorem addC_soft {all : List C} {c : C} (h : ∀ x ∈ all, x.Soft) (hc : c.Soft) : ∀ x ∈ addC all c, x.Soft := by
  unfold addC
  split
  · exact h
  · exact rev_mem (addR_mem soft_join hc _ (rev_mem h))
theorem addC_pos {all : List C} {c : C} (h : Pos all) (hc : c.Soft) : Pos (addC all c) := by
  unfold addC
  split
  · exact h
  · have := Soft.sz0 hc
    exact rev_mem (P := fun c => 0 < c.sz) (Pos.addR (rev_mem (P := fun c => 0 < c.sz) h) (by omega))

theorem list_snoc {α : Type} {P : List α → Prop} (h0 : P []) (h1 : ∀ l a, P l → P (l ++ [a])) (l : List α) : P l := by
  have : ∀ r : List α, P r.reverse := fun r => by
    induction r with
    | nil => exact h0
    | cons a r ih => rw [List.reverse_cons]; exact h1 _ _ ih
  simpa using this l.reverse

theorem normOf_soft (cs : List C) : (∀ x ∈ cs, x.Soft) → ∀ x ∈ normOf cs, x.Soft := by
  refine list_snoc (P := fun cs => (∀ x ∈ cs, x.Soft) → ∀ x ∈ normOf cs, x.Soft) ?_ ?_ cs
  · intro _ x hx; simp [normOf] at hx
  · intro l a ih h
    rw [normOf_snoc]
    exact addC_soft (ih fun x hx => h x (by simp [hx])) (h a (by simp))
theorem normOf_pos (cs : List C) : (∀ x ∈ cs, x.Soft) → Pos (normOf cs) := by
  refine list_snoc (P := fun cs => (∀ x ∈ cs, x.Soft) → Pos (normOf cs)) ?_ ?_ cs
  · intro _ x hx; simp [normOf] at hx
  · intro l a ih h
    rw [normOf_snoc]
    exact addC_pos (ih fun x hx => h x (by simp [hx])) (h a (by simp))

theorem addC_of_pos {all : List C} {c : C} (h : 0 < c.sz) : addC all c = (addR all.reverse c).reverse := by
  unfold addC; rw [if_neg (by omega)]

theorem fold_addR {c : C} (hc : 0 < c.sz) (x : List C) : ∀ r, Pos r → (addR r c).reverse.foldl addC x = addC (r.reverse.foldl addC x) c
  | [], _ => by simp [addR]
  | l :: r, h => by
    have hl : 0 < l.sz := h l (by simp)
    have hr : Pos r := fun x hx => h x (by simp [hx])
    have ih := fold_addR hc x r hr
    by_cases h1 : l.k = c.k
    · rw [addR, if_pos h1]
      simp only [List.reverse_cons, List.foldl_append, List.foldl_cons, List.foldl_nil]
      rw [addC_of_pos (by rw [join_sz]; omega), addC_of_pos hc, addC_of_pos hl, List.reverse_reverse, addR_join h1]
    · by_cases h2 : l.k = 2 ∧ c.k = 1
      · rw [addR, if_neg h1, if_pos h2]
        simp only [List.reverse_cons, List.foldl_append, List.foldl_cons, List.foldl_nil]
        rw [ih, addC_of_pos hc, addC_of_pos hl, addC_of_pos hc, addC_of_pos hl, List.reverse_reverse, List.reverse_reverse, addR_swap h2.1 h2.2]
      · rw [addR, if_neg h1, if_neg h2]
        simp only [List.reverse_cons, List.foldl_append, List.foldl_cons, List.foldl_nil]

theorem fold_addC {c : C} (hc : c.Soft) (x : List C) {y : List C} (hy : Pos y) : (addC y c).foldl addC x = addC (y.foldl addC x) c := by
  by_cases h0 : c.sz = 0
  · simp [addC, h0]
  · have hs := Soft.sz0 hc
    have hr : Pos y.reverse := rev_mem (P := fun c => 0 < c.sz) hy
    rw [addC_of_pos (all := y) (by omega), fold_addR (by omega) x _ hr, List.reverse_reverse]

theorem fold_normOf (x : List C) (cs : List C) : (∀ c ∈ cs, c.Soft) → (normOf cs).foldl addC x = cs.foldl addC x := by
  refine list_snoc (P := fun cs => (∀ c ∈ cs, c.Soft) → (normOf cs).foldl addC x = cs.foldl addC x) ?_ ?_ cs
  · intro _; rfl
  · intro l a ih h
    have hl : ∀ c ∈ l, c.Soft := fun x hx => h x (by simp [hx])
    rw [normOf_snoc, fold_addC (h a (by simp)) x (normOf_pos l hl), ih hl]
    simp

theorem normOf_normOf {cs : List C} (h : ∀ c ∈ cs, c.Soft) : normOf (normOf cs) = normOf cs := fold_normOf [] cs h
theorem normOf_both {a b : List C} (ha : ∀ c ∈ a, c.Soft) (hb : ∀ c ∈ b, c.Soft) : normOf (normOf a ++ normOf b) = normOf (a ++ b) := by
  show (normOf a ++ normOf b).foldl addC [] = (a ++ b).foldl addC []
  rw [List.foldl_append, List.foldl_append, fold_normOf _ b hb, fold_normOf [] a ha]

/-- Sums and texts stay. -/
theorem sum_addR {f : C → Int} (hf : ∀ l c : C, l.k = c.k → f (l.join c) = f l + f c) (c : C) : ∀ r, sumOf f (addR r c).reverse = sumOf f r.reverse + f c
  | [] => by simp [addR, sumOf]
  | l :: r => by
    have ih := sum_addR hf c r
    by_cases h1 : l.k = c.k
    · rw [addR, if_pos h1]
      simp only [List.reverse_cons, sumOf_append, sumOf, hf l c h1]; omega
    · by_cases h2 : l.k = 2 ∧ c.k = 1
      · rw [addR, if_neg h1, if_pos h2]
        simp only [List.reverse_cons, sumOf_append, sumOf, ih]; omega
      · rw [addR, if_neg h1, if_neg h2]
        simp only [List.reverse_cons, sumOf_append, sumOf]; omega
theorem puts_addR (c : C) : ∀ r, putsOf (addR r c).reverse = putsOf r.reverse ++ putC c
  | [] => by simp [addR, putsOf]
  | l :: r => by
    have ih := puts_addR c r
    by_cases h1 : l.k = c.k
    · rw [addR, if_pos h1]
      simp only [List.reverse_cons, putsOf_append, putsOf, List.append_nil, List.append_assoc]
      congr 1
      simp only [putC, C.join, h1]
      split
      · rfl
      · exact ba_append_list _ _
    · by_cases h2 : l.k = 2 ∧ c.k = 1
      · rw [addR, if_neg h1, if_pos h2]
        simp only [List.reverse_cons, putsOf_append, putsOf, ih, List.append_nil, List.append_assoc]
        congr 1
        simp [putC, h2.1]
      · rw [addR, if_neg h1, if_neg h2]
        simp only [List.reverse_cons, putsOf_append, putsOf, List.append_nil]

theorem sum_addC {f : C → Int} (hf : ∀ l c : C, l.k = c.k → f (l.join c) = f l + f c) (h0 : ∀ c : C, c.Soft → c.sz = 0 → f c = 0) (all : List C) {c : C} (hc : c.Soft) : sumOf f (addC all c) = sumOf f all + f c := by
  unfold addC
  split
  · rw [h0 c hc (by assumption)]; omega
  · rw [sum_addR hf, List.reverse_reverse]
theorem sum_normOf {f : C → Int} (hf : ∀ l c : C, l.k = c.k → f (l.join c) = f l + f c) (h0 : ∀ c : C, c.Soft → c.sz = 0 → f c = 0) (cs : List C) : (∀ c ∈ cs, c.Soft) → sumOf f (normOf cs) = sumOf f cs := by
  refine list_snoc (P := fun cs => (∀ c ∈ cs, c.Soft) → sumOf f (normOf cs) = sumOf f cs) ?_ ?_ cs
  · intro _; rfl
  · intro l a ih h
    rw [normOf_snoc, sum_addC hf h0 _ (h a (by simp)), ih fun x hx => h x (by simp [hx]), sumOf_append]
    simp [sumOf]

theorem from_join (l c : C) (h : l.k = c.k) : fromC (l.join c) = fromC l + fromC c := by simp only [fromC, C.join, h]; split <;> omega
theorem to_join (l c : C) (h : l.k = c.k) : toC (l.join c) = toC l + toC c := by
  have := join_sz l c
  have hk : (l.join c).k = l.k := rfl
  simp only [toC, hk, h, this]; split <;> omega
theorem keep_join (l c : C) (h : l.k = c.k) : keepC (l.join c) = keepC l + keepC c := by simp only [keepC, C.join, h]; split <;> omega
theorem cut_join (l c : C) (h : l.k = c.k) : cutC (l.join c) = cutC l + cutC c := by simp only [cutC, C.join, h]; split <;> omega
theorem soft_zero {c : C} (h : c.Soft) (h0 : c.sz = 0) : c.n = 0 ∧ c.t.size = 0 := by unfold C.Soft at h; unfold C.sz at h0; omega
theorem from_zero (c : C) (h : c.Soft) (h0 : c.sz = 0) : fromC c = 0 := by simp [fromC, (soft_zero h h0).1]
theorem to_zero (c : C) (_ : c.Soft) (h0 : c.sz = 0) : toC c = 0 := by simp [toC, h0]
theorem keep_zero (c : C) (h : c.Soft) (h0 : c.sz = 0) : keepC c = 0 := by simp [keepC, (soft_zero h h0).1]
theorem cut_zero (c : C) (h : c.Soft) (h0 : c.sz = 0) : cutC c = 0 := by simp [cutC, (soft_zero h h0).1]

theorem puts_normOf (cs : List C) : (∀ c ∈ cs, c.Soft) → putsOf (normOf cs) = putsOf cs := by
  refine list_snoc (P := fun cs => (∀ c ∈ cs, c.Soft) → putsOf (normOf cs) = putsOf cs) ?_ ?_ cs
  · intro _; rfl
  · intro l a ih h
    have ih := ih fun x hx => h x (by simp [hx])
    rw [normOf_snoc, putsOf_append]
    unfold addC
    split
    · rename_i h0
      have := soft_zero (h a (by simp)) h0
      have ht : a.t.data.toList = [] := List.eq_nil_of_length_eq_zero (this.2 ▸ Array.length_toList)
      simp [putsOf, putC, ht, ih]
    · rw [puts_addR, List.reverse_reverse, ih]; simp [putsOf]

theorem addR_length (c : C) : ∀ r, (addR r c).length ≤ r.length + 1
  | [] => by simp [addR]
  | l :: r => by
    have := addR_length c r
    rw [addR]
    split
    · simp
    · split
      · simp; omega
      · simp
theorem addC_length (all : List C) (c : C) : (addC all c).length ≤ all.length + 1 := by
  unfold addC
  split
  · omega
  · have := addR_length c all.reverse
    simpa using this
theorem normOf_length (cs : List C) : (normOf cs).length ≤ cs.length := by
  refine list_snoc (P := fun cs => (normOf cs).length ≤ cs.length) (by simp [normOf]) ?_ cs
  intro l a ih
  have := addC_length (normOf l) a
  rw [normOf_snoc, List.length_append]; simp; omega

/-- Members stay below the sum. -/
theorem sumOf_nonneg {f : C → Int} {cs : List C} (h : ∀ c ∈ cs, 0 ≤ f c) : 0 ≤ sumOf f cs := by
  induction cs with
  | nil => simp [sumOf]
  | cons c cs ih => simp only [sumOf]; have := h c (by simp); have := ih fun x hx => h x (by simp [hx]); omega
theorem mem_le_sum {f : C → Int} {cs : List C} (h : ∀ c ∈ cs, 0 ≤ f c) {c : C} (hc : c ∈ cs) : f c ≤ sumOf f cs := by
  induction cs with
  | nil => simp at hc
  | cons x cs ih =>
    have h1 := h x (by simp)
    have h2 := sumOf_nonneg (f := f) (cs := cs) fun x hx => h x (by simp [hx])
    simp only [sumOf]
    rcases List.mem_cons.1 hc with rfl | hc
    · omega
    · have := ih (fun x hx => h x (by simp [hx])) hc; omega
theorem sumOf_take_le {f : C → Int} {cs : List C} (h : ∀ c ∈ cs, 0 ≤ f c) (i : Nat) : sumOf f (cs.take i) ≤ sumOf f cs := by
  have h1 := sumOf_append f (cs.take i) (cs.drop i)
  rw [List.take_append_drop] at h1
  have := sumOf_nonneg (f := f) (cs := cs.drop i) fun x hx => h x (List.mem_of_mem_drop hx)
  omega
theorem sumOf_take_succ {f : C → Int} {cs : List C} {i : Nat} {c : C} (h : cs[i]? = some c) : sumOf f (cs.take (i + 1)) = sumOf f (cs.take i) + f c := by
  rw [List.take_add_one, h, sumOf_append]; simp [sumOf]
theorem from_nonneg {c : C} (h : c.Soft) : 0 ≤ fromC c := by unfold C.Soft at h; unfold fromC; split <;> omega
theorem to_nonneg {c : C} (h : c.Soft) : 0 ≤ toC c := by have := Soft.sz0 h; unfold toC; split <;> omega

theorem raw_of_soft {cs : List C} (h : ∀ c ∈ cs, c.Soft) (h1 : sumOf fromC cs ≤ 4096) (h2 : sumOf toC cs ≤ 4096) : ∀ c ∈ cs, c.Raw := by
  intro c hc
  have a := mem_le_sum (f := fromC) (fun c hc => from_nonneg (h c hc)) hc
  have b := mem_le_sum (f := toC) (fun c hc => to_nonneg (h c hc)) hc
  have s := h c hc
  have a' := Int.le_trans a h1
  have b' := Int.le_trans b h2
  clear a b h h1 h2
  unfold C.Soft at s
  unfold C.Raw
  unfold fromC at a'
  unfold toC C.sz at b'
  rcases s with s | s
  · rw [if_neg (by omega)] at a'; omega
  · rw [if_neg (by omega)] at b'; omega

theorem soft_all {cs : List C} (h : ∀ c ∈ cs, c.Raw) : ∀ c ∈ cs, c.Soft := fun c hc => Raw.soft (h c hc)

theorem okB_normOf {cs : List C} (h : okB cs = true) : okB (normOf cs) = true := by
  obtain ⟨h1, h2, h3, h4⟩ := okB_iff.1 h
  have hs := soft_all h2
  have e1 := sum_normOf from_join from_zero cs hs
  have e2 := sum_normOf to_join to_zero cs hs
  refine okB_iff.2 ⟨Nat.le_trans (normOf_length cs) h1, raw_of_soft (normOf_soft cs hs) (by omega) (by omega), by omega, by omega⟩

/-- The normal form. -/
def fol (a b : Int) : Prop := a ≠ b ∧ (a ≠ 2 ∨ b ≠ 1)
instance (a b : Int) : Decidable (fol a b) := by unfold fol; exact inferInstance
def NormR : List C → Prop
  | [] => True
  | c :: r => c.sz ≠ 0 ∧ (∀ l, r.head? = some l → fol l.k c.k) ∧ NormR r

theorem normR_addR {c : C} (hc : 0 < c.sz) : ∀ r, Pos r → NormR r → NormR (addR r c)
  | [], _, _ => by simp [addR, NormR]; omega
  | l :: r, hp, ⟨h0, h1, h2⟩ => by
    have hl : 0 < l.sz := hp l (by simp)
    have hr : Pos r := fun x hx => hp x (by simp [hx])
    have ih := normR_addR hc r hr h2
    by_cases k1 : l.k = c.k
    · rw [addR, if_pos k1]
      exact ⟨by rw [join_sz]; omega, h1, h2⟩
    · by_cases k2 : l.k = 2 ∧ c.k = 1
      · rw [addR, if_neg k1, if_pos k2]
        refine ⟨h0, ?_, ih⟩
        intro x hx
        cases r with
        | nil => simp [addR] at hx; subst hx; unfold fol; omega
        | cons y r =>
          have hy := h1 y rfl
          unfold fol at hy ⊢
          rw [addR] at hx
          split at hx
          · simp at hx; subst hx; simp only [C.join]; omega
          · rw [if_neg (by omega)] at hx; simp at hx; subst hx; omega
      · rw [addR, if_neg k1, if_neg k2]
        refine ⟨by omega, ?_, h0, h1, h2⟩
        intro x hx
        simp at hx; subst hx
        unfold fol; omega

theorem normR_normOf (cs : List C) : (∀ c ∈ cs, c.Soft) → NormR (normOf cs).reverse := by
  refine list_snoc (P := fun cs => (∀ c ∈ cs, c.Soft) → NormR (normOf cs).reverse) ?_ ?_ cs
  · intro _; simp [normOf, NormR]
  · intro l a ih h
    have hl : ∀ c ∈ l, c.Soft := fun x hx => h x (by simp [hx])
    have ih := ih hl
    rw [normOf_snoc]
    by_cases h0 : a.sz = 0
    · simpa [addC, h0] using ih
    · have := Soft.sz0 (h a (by simp))
      rw [addC_of_pos (by omega), List.reverse_reverse]
      exact normR_addR (by omega) _ (rev_mem (P := fun c => 0 < c.sz) (normOf_pos l hl)) ih

theorem normOf_of_normR (cs : List C) : NormR cs.reverse → normOf cs = cs := by
  refine list_snoc (P := fun cs => NormR cs.reverse → normOf cs = cs) ?_ ?_ cs
  · intro _; rfl
  · intro l a ih h
    rw [List.reverse_append] at h
    obtain ⟨h0, h1, h2⟩ := h
    rw [normOf_snoc, ih h2]
    unfold addC
    rw [if_neg h0]
    cases hr : l.reverse with
    | nil => simp at hr; subst hr; simp [addR]
    | cons x r =>
      have hf := h1 x (by simp [hr])
      unfold fol at hf
      rw [addR, if_neg hf.1, if_neg (by omega)]
      have : l = (x :: r).reverse := by rw [← hr]; simp
      rw [this]; simp

/-- Piece by piece, as the program asks. -/
def Norm (cs : List C) : Prop := ∀ (i : Nat) c, cs[i]? = some c → c.sz ≠ 0 ∧ ∀ l, (i = 0 → False) → cs[i - 1]? = some l → fol l.k c.k

theorem norm_snoc {cs : List C} {a : C} : Norm (cs ++ [a]) ↔ Norm cs ∧ a.sz ≠ 0 ∧ ∀ l, cs.getLast? = some l → fol l.k a.k := by
  constructor
  · intro h
    refine ⟨fun i c hi => ?_, ?_, ?_⟩
    · have hl := (List.getElem?_eq_some_iff.1 hi).1
      obtain ⟨h1, h2⟩ := h i c (by rw [List.getElem?_append_left hl]; exact hi)
      exact ⟨h1, fun l h0 hl' => h2 l h0 (by rw [List.getElem?_append_left (by omega)]; exact hl')⟩
    · exact (h cs.length a (by simp)).1
    · intro l hl
      have hne : cs ≠ [] := by rintro rfl; simp at hl
      have hp : 0 < cs.length := List.length_pos_iff.2 hne
      refine (h cs.length a (by simp)).2 l (by omega) ?_
      rw [List.getElem?_append_left (by omega)]
      rw [List.getLast?_eq_getElem?] at hl
      exact hl
  · rintro ⟨h, h0, h1⟩ i c hi
    by_cases hl : i < cs.length
    · rw [List.getElem?_append_left hl] at hi
      obtain ⟨g1, g2⟩ := h i c hi
      exact ⟨g1, fun l hi0 hl' => g2 l hi0 (by rwa [List.getElem?_append_left (by omega)] at hl')⟩
    · rw [List.getElem?_append_right (by omega)] at hi
      have hi1 : i = cs.length := by
        have := (List.getElem?_eq_some_iff.1 hi).1
        simp at this; omega
      rw [show i - cs.length = 0 by omega] at hi
      simp at hi; subst hi
      refine ⟨h0, fun l hi0 hl' => h1 l ?_⟩
      subst hi1
      have hi2 : ¬ cs.length = 0 := hi0
      rw [List.getElem?_append_left (by omega)] at hl'
      rw [List.getLast?_eq_getElem?]
      exact hl'

theorem norm_iff (cs : List C) : Norm cs ↔ NormR cs.reverse := by
  refine list_snoc (P := fun cs => Norm cs ↔ NormR cs.reverse) ?_ ?_ cs
  · simp [Norm, NormR]
  · intro l a ih
    rw [norm_snoc, ih, List.reverse_append]
    simp only [List.reverse_cons, List.reverse_nil, List.nil_append, List.cons_append, NormR, List.head?_reverse]
    exact ⟨fun ⟨x, y, z⟩ => ⟨y, z, x⟩, fun ⟨y, z, x⟩ => ⟨x, y, z⟩⟩

theorem norm_normOf {cs : List C} (h : ∀ c ∈ cs, c.Soft) : Norm (normOf cs) := (norm_iff _).2 (normR_normOf cs h)
theorem normOf_iff {cs : List C} (h : ∀ c ∈ cs, c.Soft) : normOf cs = cs ↔ Norm cs := by
  constructor
  · intro e; rw [← e]; exact norm_normOf h
  · intro e; exact normOf_of_normR cs ((norm_iff cs).1 e)

end Go.Proofs.YtjmfjlffcopnnaaDoor.K
