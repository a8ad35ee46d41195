/-
  KBase, KMath, KW1, KW2, KOwn, in one text. Conditions: as each theorem's premises say.
-/
import Derived.WalkKit
import Derived.WalkSpells
import Derived.WalkLawsBesides
import Derived.Test.YtjmfjlffcopnnaaGreatDoorProg
import Derived.Lib.Bytes
import Derived.BigQuiet
import Derived.Lib.Hide
import Derived.Deep.AppendLies
namespace Go.Proofs.YtjmfjlffcopnnaaGreatDoor.K
open Go.RowKit

/-- A piece: its kind, its number, its text. -/
structure C where
  k : Int
  n : Int
  t : ByteArray

def C.cells (c : C) : List Value := [.int .i64 c.k, .int .i64 c.n, .string c.t]
def C.val (c : C) : Value := .agg #[.int .i64 c.k, .int .i64 c.n, .string c.t]
def cellsC (cs : List C) : List Value := cs.flatMap C.cells

end Go.Proofs.YtjmfjlffcopnnaaGreatDoor.K

namespace Go.Proofs.YtjmfjlffcopnnaaGreatDoor.K

theorem C.ext' {a b : C} (hk : a.k = b.k) (hn : a.n = b.n) (ht : a.t = b.t) : a = b := by
  cases a; cases b; simp_all

def C.sz (c : C) : Int := c.n + c.t.size
def C.join (l c : C) : C := ⟨l.k, l.n + c.n, l.t ++ c.t⟩

/-- What a raw piece is, its bounds aside. -/
def C.Soft (c : C) : Prop := ((c.k = 0 ∨ c.k = 2) ∧ 0 ≤ c.n ∧ c.t.size = 0) ∨ (c.k = 1 ∧ c.n = 0)
def C.Raw (c : C) : Prop := ((c.k = 0 ∨ c.k = 2) ∧ 0 ≤ c.n ∧ c.n ≤ 4096 ∧ c.t.size = 0) ∨ (c.k = 1 ∧ c.n = 0 ∧ c.t.size ≤ 4096)
instance (c : C) : Decidable c.Raw := by unfold C.Raw; exact inferInstance
def rawB (c : C) : Bool := decide c.Raw
theorem rawB_iff {c : C} : rawB c = true ↔ c.Raw := decide_eq_true_iff

def fromC (c : C) : Int := if c.k = 1 then 0 else c.n
def toC (c : C) : Int := if c.k = 2 then 0 else c.sz
def sumOf (f : C → Int) : List C → Int
  | [] => 0
  | c :: cs => f c + sumOf f cs

theorem sumOf_append (f : C → Int) (a b : List C) : sumOf f (a ++ b) = sumOf f a + sumOf f b := by
  induction a with
  | nil => simp [sumOf]
  | cons c a ih => simp only [List.cons_append, sumOf, ih]; omega

def okB (cs : List C) : Bool := decide (cs.length ≤ 4096) && cs.all rawB && decide (sumOf fromC cs ≤ 4096) && decide (sumOf toC cs ≤ 4096)
theorem okB_iff {cs : List C} : okB cs = true ↔ cs.length ≤ 4096 ∧ (∀ c ∈ cs, c.Raw) ∧ sumOf fromC cs ≤ 4096 ∧ sumOf toC cs ≤ 4096 := by
  simp [okB, rawB_iff, and_assoc]

def addR : List C → C → List C
  | [], c => [c]
  | l :: r, c => if l.k = c.k then l.join c :: r else if l.k = 2 ∧ c.k = 1 then l :: addR r c else c :: l :: r
def addC (all : List C) (c : C) : List C := if c.sz = 0 then all else (addR all.reverse c).reverse
def normOf (cs : List C) : List C := cs.foldl addC []

theorem normOf_snoc (cs : List C) (c : C) : normOf (cs ++ [c]) = addC (normOf cs) c := by simp [normOf]

theorem ba_append_assoc (a b c : ByteArray) : a ++ b ++ c = a ++ (b ++ c) := by
  apply ByteArray.ext; simp [ByteArray.data_append, Array.append_assoc]
theorem ba_append_size (a b : ByteArray) : (a ++ b).size = a.size + b.size := by simp

theorem join_join (a b c : C) : (a.join b).join c = a.join (b.join c) := by
  simp only [C.join, C.mk.injEq, true_and]
  exact ⟨by omega, ba_append_assoc _ _ _⟩
theorem join_sz (a b : C) : (a.join b).sz = a.sz + b.sz := by simp only [C.join, C.sz, ba_append_size]; omega

theorem addR_join {l c : C} (h : l.k = c.k) : ∀ r, addR (addR r l) c = addR r (l.join c)
  | [] => by simp [addR, h]
  | x :: r => by
    have ih := addR_join h r
    have hj : (l.join c).k = c.k := h
    by_cases h1 : x.k = c.k
    · have hx : (x.join l).k = c.k := h1
      simp [addR, h, hj, h1, hx, join_join]
    · by_cases h2 : x.k = 2 ∧ c.k = 1
      · have h3 : ¬ (2 : Int) = 1 := by omega
        simp only [addR, h, hj, if_neg h1, if_pos h2, ih]
      · simp only [addR, h, hj, if_neg h1, if_neg h2, if_true]

def Pos (cs : List C) : Prop := ∀ c ∈ cs, 0 < c.sz

theorem addR_mem {P : C → Prop} (hj : ∀ l c : C, l.k = c.k → P l → P c → P (l.join c)) {c : C} (hc : P c) : ∀ r : List C, (∀ x ∈ r, P x) → ∀ x ∈ addR r c, P x
  | [], _ => by simp [addR, hc]
  | l :: r, h => by
    have hl := h l (by simp)
    have hr : ∀ x ∈ r, P x := fun x hx => h x (by simp [hx])
    have ih := addR_mem hj hc r hr
    intro x hx
    by_cases h1 : l.k = c.k
    · rw [addR, if_pos h1] at hx
      rcases List.mem_cons.1 hx with rfl | hx
      · exact hj l c h1 hl hc
      · exact hr x hx
    · by_cases h2 : l.k = 2 ∧ c.k = 1
      · rw [addR, if_neg h1, if_pos h2] at hx
        rcases List.mem_cons.1 hx with rfl | hx
        · exact hl
        · exact ih x hx
      · rw [addR, if_neg h1, if_neg h2] at hx
        rcases List.mem_cons.1 hx with rfl | hx
        · exact hc
        · exact h x hx

theorem Pos.addR {r : List C} {c : C} (h : Pos r) (hc : 0 < c.sz) : Pos (addR r c) :=
  addR_mem (P := fun c => 0 < c.sz) (fun l c _ hl hc => by show 0 < (l.join c).sz; rw [join_sz]; omega) hc r h
theorem soft_join (l c : C) (hk : l.k = c.k) (hl : l.Soft) (hc : c.Soft) : (l.join c).Soft := by
  unfold C.Soft at *
  simp only [C.join, ba_append_size]
  omega
theorem Soft.sz0 {c : C} (h : c.Soft) : 0 ≤ c.sz := by
  unfold C.Soft at h; unfold C.sz; omega
theorem Raw.soft {c : C} (h : c.Raw) : c.Soft := by
  unfold C.Raw at h; unfold C.Soft; omega
theorem rev_mem {P : C → Prop} {r : List C} (h : ∀ x ∈ r, P x) : ∀ x ∈ r.reverse, P x := fun x hx => h x (by simpa using hx)

theorem addC_soft {all : List C} {c : C} (h : ∀ x ∈ all, x.Soft) (hc : c.Soft) : ∀ x ∈ addC all c, x.Soft := by
  unfold addC
  split
  · exact h
  · exact rev_mem (addR_mem soft_join hc _ (rev_mem h))
theorem addC_pos {all : List C} {c : C} (h : Pos all) (hc : c.Soft) : Pos (addC all c) := by
  unfold addC
  split
  · exact h
  · have := Soft.sz0 hc
    exact rev_mem (P := fun c => 0 < c.sz) (Pos.addR (rev_mem (P := fun c => 0 < c.sz) h) (by omega))

theorem list_snoc {α : Type} {P : List α → Prop} (h0 : P []) (h1 : ∀ l a, P l → P (l ++ [a])) (l : List α) : P l := by
  have : ∀ r : List α, P r.reverse := fun r => by
    induction r with
    | nil => exact h0
    | cons a r ih => rw [List.reverse_cons]; exact h1 _ _ ih
  simpa using this l.reverse

theorem normOf_soft (cs : List C) : (∀ x ∈ cs, x.Soft) → ∀ x ∈ normOf cs, x.Soft := by
  refine list_snoc (P := fun cs => (∀ x ∈ cs, x.Soft) → ∀ x ∈ normOf cs, x.Soft) ?_ ?_ cs
  · intro _ x hx; simp [normOf] at hx
  · intro l a ih h
    rw [normOf_snoc]
    exact addC_soft (ih fun x hx => h x (by simp [hx])) (h a (by simp))
theorem normOf_pos (cs : List C) : (∀ x ∈ cs, x.Soft) → Pos (normOf cs) := by
  refine list_snoc (P := fun cs => (∀ x ∈ cs, x.Soft) → Pos (normOf cs)) ?_ ?_ cs
  · intro _ x hx; simp [normOf] at hx
  · intro l a ih h
    rw [normOf_snoc]
    exact addC_pos (ih fun x hx => h x (by simp [hx])) (h a (by simp))

theorem addC_of_pos {all : List C} {c : C} (h : 0 < c.sz) : addC all c = (addR all.reverse c).reverse := by
  unfold addC; rw [if_neg (by omega)]

/-- Sums and texts stay. -/
theorem sum_addR {f : C → Int} (hf : ∀ l c : C, l.k = c.k → f (l.join c) = f l + f c) (c : C) : ∀ r, sumOf f (addR r c).reverse = sumOf f r.reverse + f c
  | [] => by simp [addR, sumOf]
  | l :: r => by
    have ih := sum_addR hf c r
    by_cases h1 : l.k = c.k
    · rw [addR, if_pos h1]
      simp only [List.reverse_cons, sumOf_append, sumOf, hf l c h1]; omega
    · by_cases h2 : l.k = 2 ∧ c.k = 1
      · rw [addR, if_neg h1, if_pos h2]
        simp only [List.reverse_cons, sumOf_append, sumOf, ih]; omega
      · rw [addR, if_neg h1, if_neg h2]
        simp only [List.reverse_cons, sumOf_append, sumOf]; omega

theorem sum_addC {f : C → Int} (hf : ∀ l c : C, l.k = c.k → f (l.join c) = f l + f c) (h0 : ∀ c : C, c.Soft → c.sz = 0 → f c = 0) (all : List C) {c : C} (hc : c.Soft) : sumOf f (addC all c) = sumOf f all + f c := by
  unfold addC
  split
  · rw [h0 c hc (by assumption)]; omega
  · rw [sum_addR hf, List.reverse_reverse]
theorem sum_normOf {f : C → Int} (hf : ∀ l c : C, l.k = c.k → f (l.join c) = f l + f c) (h0 : ∀ c : C, c.Soft → c.sz = 0 → f c = 0) (cs : List C) : (∀ c ∈ cs, c.Soft) → sumOf f (normOf cs) = sumOf f cs := by
  refine list_snoc (P := fun cs => (∀ c ∈ cs, c.Soft) → sumOf f (normOf cs) = sumOf f cs) ?_ ?_ cs
  · intro _; rfl
  · intro l a ih h
    rw [normOf_snoc, sum_addC hf h0 _ (h a (by simp)), ih fun x hx => h x (by simp [hx]), sumOf_append]
    simp [sumOf]

theorem from_join (l c : C) (h : l.k = c.k) : fromC (l.join c) = fromC l + fromC c := by simp only [fromC, C.join, h]; split <;> omega
theorem to_join (l c : C) (h : l.k = c.k) : toC (l.join c) = toC l + toC c := by
  have := join_sz l c
  have hk : (l.join c).k = l.k := rfl
  simp only [toC, hk, h, this]; split <;> omega
theorem soft_zero {c : C} (h : c.Soft) (h0 : c.sz = 0) : c.n = 0 ∧ c.t.size = 0 := by unfold C.Soft at h; unfold C.sz at h0; omega
theorem from_zero (c : C) (h : c.Soft) (h0 : c.sz = 0) : fromC c = 0 := by simp [fromC, (soft_zero h h0).1]
theorem to_zero (c : C) (_ : c.Soft) (h0 : c.sz = 0) : toC c = 0 := by simp [toC, h0]

theorem addR_length (c : C) : ∀ r, (addR r c).length ≤ r.length + 1
  | [] => by simp [addR]
  | l :: r => by
    have := addR_length c r
    rw [addR]
    split
    · simp
    · split
      · simp; omega
      · simp
theorem addC_length (all : List C) (c : C) : (addC all c).length ≤ all.length + 1 := by
  unfold addC
  split
  · omega
  · have := addR_length c all.reverse
    simpa using this
theorem normOf_length (cs : List C) : (normOf cs).length ≤ cs.length := by
  refine list_snoc (P := fun cs => (normOf cs).length ≤ cs.length) (by simp [normOf]) ?_ cs
  intro l a ih
  have := addC_length (normOf l) a
  rw [normOf_snoc, List.length_append]; simp; omega

/-- Members stay below the sum. -/
theorem sumOf_nonneg {f : C → Int} {cs : List C} (h : ∀ c ∈ cs, 0 ≤ f c) : 0 ≤ sumOf f cs := by
  induction cs with
  | nil => simp [sumOf]
  | cons c cs ih => simp only [sumOf]; have := h c (by simp); have := ih fun x hx => h x (by simp [hx]); omega
theorem mem_le_sum {f : C → Int} {cs : List C} (h : ∀ c ∈ cs, 0 ≤ f c) {c : C} (hc : c ∈ cs) : f c ≤ sumOf f cs := by
  induction cs with
  | nil => simp at hc
  | cons x cs ih =>
    have h1 := h x (by simp)
    have h2 := sumOf_nonneg (f := f) (cs := cs) fun x hx => h x (by simp [hx])
    simp only [sumOf]
    rcases List.mem_cons.1 hc with rfl | hc
    · omega
    · have := ih (fun x hx => h x (by simp [hx])) hc; omega
theorem sumOf_take_le {f : C → Int} {cs : List C} (h : ∀ c ∈ cs, 0 ≤ f c) (i : Nat) : sumOf f (cs.take i) ≤ sumOf f cs := by
  have h1 := sumOf_append f (cs.take i) (cs.drop i)
  rw [List.take_append_drop] at h1
  have := sumOf_nonneg (f := f) (cs := cs.drop i) fun x hx => h x (List.mem_of_mem_drop hx)
  omega
theorem sumOf_take_succ {f : C → Int} {cs : List C} {i : Nat} {c : C} (h : cs[i]? = some c) : sumOf f (cs.take (i + 1)) = sumOf f (cs.take i) + f c := by
  rw [List.take_add_one, h, sumOf_append]; simp [sumOf]
theorem from_nonneg {c : C} (h : c.Soft) : 0 ≤ fromC c := by unfold C.Soft at h; unfold fromC; split <;> omega
theorem to_nonneg {c : C} (h : c.Soft) : 0 ≤ toC c := by have := Soft.sz0 h; unfold toC; split <;> omega

theorem soft_all {cs : List C} (h : ∀ c ∈ cs, c.Raw) : ∀ c ∈ cs, c.Soft := fun c hc => Raw.soft (h c hc)

/-- The normal form. -/
def fol (a b : Int) : Prop := a ≠ b ∧ (a ≠ 2 ∨ b ≠ 1)
instance (a b : Int) : Decidable (fol a b) := by unfold fol; exact inferInstance
def NormR : List C → Prop
  | [] => True
  | c :: r => c.sz ≠ 0 ∧ (∀ l, r.head? = some l → fol l.k c.k) ∧ NormR r

theorem normR_addR {c : C} (hc : 0 < c.sz) : ∀ r, Pos r → NormR r → NormR (addR r c)
  | [], _, _ => by simp [addR, NormR]; omega
  | l :: r, hp, ⟨h0, h1, h2⟩ => by
    have hl : 0 < l.sz := hp l (by simp)
    have hr : Pos r := fun x hx => hp x (by simp [hx])
    have ih := normR_addR hc r hr h2
    by_cases k1 : l.k = c.k
    · rw [addR, if_pos k1]
      exact ⟨by rw [join_sz]; omega, h1, h2⟩
    · by_cases k2 : l.k = 2 ∧ c.k = 1
      · rw [addR, if_neg k1, if_pos k2]
        refine ⟨h0, ?_, ih⟩
        intro x hx
        cases r with
        | nil => simp [addR] at hx; subst hx; unfold fol; omega
        | cons y r =>
          have hy := h1 y rfl
          unfold fol at hy ⊢
          rw [addR] at hx
          split at hx
          · simp at hx; subst hx; simp only [C.join]; omega
          · rw [if_neg (by omega)] at hx; simp at hx; subst hx; omega
      · rw [addR, if_neg k1, if_neg k2]
        refine ⟨by omega, ?_, h0, h1, h2⟩
        intro x hx
        simp at hx; subst hx
        unfold fol; omega

theorem normR_normOf (cs : List C) : (∀ c ∈ cs, c.Soft) → NormR (normOf cs).reverse := by
  refine list_snoc (P := fun cs => (∀ c ∈ cs, c.Soft) → NormR (normOf cs).reverse) ?_ ?_ cs
  · intro _; simp [normOf, NormR]
  · intro l a ih h
    have hl : ∀ c ∈ l, c.Soft := fun x hx => h x (by simp [hx])
    have ih := ih hl
    rw [normOf_snoc]
    by_cases h0 : a.sz = 0
    · simpa [addC, h0] using ih
    · have := Soft.sz0 (h a (by simp))
      rw [addC_of_pos (by omega), List.reverse_reverse]
      exact normR_addR (by omega) _ (rev_mem (P := fun c => 0 < c.sz) (normOf_pos l hl)) ih

theorem normOf_of_normR (cs : List C) : NormR cs.reverse → normOf cs = cs := by
  refine list_snoc (P := fun cs => NormR cs.reverse → normOf cs = cs) ?_ ?_ cs
  · intro _; rfl
  · intro l a ih h
    rw [List.reverse_append] at h
    obtain ⟨h0, h1, h2⟩ := h
    rw [normOf_snoc, ih h2]
    unfold addC
    rw [if_neg h0]
    cases hr : l.reverse with
    | nil => simp at hr; subst hr; simp [addR]
    | cons x r =>
      have hf := h1 x (by simp [hr])
      unfold fol at hf
      rw [addR, if_neg hf.1, if_neg (by omega)]
      have : l = (x :: r).reverse := by rw [← hr]; simp
      rw [this]; simp

/-- Piece by piece, as the program asks. -/
def Norm (cs : List C) : Prop := ∀ (i : Nat) c, cs[i]? = some c → c.sz ≠ 0 ∧ ∀ l, (i = 0 → False) → cs[i - 1]? = some l → fol l.k c.k

theorem norm_snoc {cs : List C} {a : C} : Norm (cs ++ [a]) ↔ Norm cs ∧ a.sz ≠ 0 ∧ ∀ l, cs.getLast? = some l → fol l.k a.k := by
  constructor
  · intro h
    refine ⟨fun i c hi => ?_, ?_, ?_⟩
    · have hl := (List.getElem?_eq_some_iff.1 hi).1
      obtain ⟨h1, h2⟩ := h i c (by rw [List.getElem?_append_left hl]; exact hi)
      exact ⟨h1, fun l h0 hl' => h2 l h0 (by rw [List.getElem?_append_left (by omega)]; exact hl')⟩
    · exact (h cs.length a (by simp)).1
    · intro l hl
      have hne : cs ≠ [] := by rintro rfl; simp at hl
      have hp : 0 < cs.length := List.length_pos_iff.2 hne
      refine (h cs.length a (by simp)).2 l (by omega) ?_
      rw [List.getElem?_append_left (by omega)]
      rw [List.getLast?_eq_getElem?] at hl
      exact hl
  · rintro ⟨h, h0, h1⟩ i c hi
    by_cases hl : i < cs.length
    · rw [List.getElem?_append_left hl] at hi
      obtain ⟨g1, g2⟩ := h i c hi
      exact ⟨g1, fun l hi0 hl' => g2 l hi0 (by rwa [List.getElem?_append_left (by omega)] at hl')⟩
    · rw [List.getElem?_append_right (by omega)] at hi
      have hi1 : i = cs.length := by
        have := (List.getElem?_eq_some_iff.1 hi).1
        simp at this; omega
      rw [show i - cs.length = 0 by omega] at hi
      simp at hi; subst hi
      refine ⟨h0, fun l hi0 hl' => h1 l ?_⟩
      subst hi1
      have hi2 : ¬ cs.length = 0 := hi0
      rw [List.getElem?_append_left (by omega)] at hl'
      rw [List.getLast?_eq_getElem?]
      exact hl'

theorem norm_iff (cs : List C) : Norm cs ↔ NormR cs.reverse := by
  refine list_snoc (P := fun cs => Norm cs ↔ NormR cs.reverse) ?_ ?_ cs
  · simp [Norm, NormR]
  · intro l a ih
    rw [norm_snoc, ih, List.reverse_append]
    simp only [List.reverse_cons, List.reverse_nil, List.nil_append, List.cons_append, NormR, List.head?_reverse]
    exact ⟨fun ⟨x, y, z⟩ => ⟨y, z, x⟩, fun ⟨y, z, x⟩ => ⟨x, y, z⟩⟩

theorem norm_normOf {cs : List C} (h : ∀ c ∈ cs, c.Soft) : Norm (normOf cs) := (norm_iff _).2 (normR_normOf cs h)
theorem normOf_iff {cs : List C} (h : ∀ c ∈ cs, c.Soft) : normOf cs = cs ↔ Norm cs := by
  constructor
  · intro e; rw [← e]; exact norm_normOf h
  · intro e; exact normOf_of_normR cs ((norm_iff cs).1 e)

end Go.Proofs.YtjmfjlffcopnnaaGreatDoor.K

namespace Go.Proofs.YtjmfjlffcopnnaaGreatDoor.K
open Go.RowKit

theorem isEmpty_size (t : ByteArray) : t.toList.isEmpty = decide (t.size = 0) := by
  rw [Go.Lib.toList_data]
  obtain ⟨⟨l⟩⟩ := t
  cases l <;> simp [ByteArray.size]

set_option maxHeartbeats 400000 in
theorem num_any (n : Int) (w : World) : Calls Tryz.prog 10 #[.int .i64 n] w fun e w' => e = .returned (.int .i64 n) ∧ w = w' := by
  go_enter Tryz.func10, Tryz.ntmps10
  go_wp2
  go_ret
  exact ⟨rfl, rfl⟩

set_option maxHeartbeats 400000 in
theorem size_any (k n : Int) (t : ByteArray) (w : World) (_hn0 : 0 ≤ n) (_hn : n ≤ 16777216) (_ht : t.size ≤ 16777216) : Calls Tryz.prog 120 #[.agg #[.int .i64 k, .int .i64 n, .string t]] w fun e w' => e = .returned (.int .i64 (n + t.size)) ∧ Below w.heap.size w w' := by
  go_enter Tryz.func120, Tryz.ntmps120
  go_wp2
  go_ret
  exact ⟨rfl, (Below.refl _ _).alloc (Nat.le_refl _) _⟩

set_option maxHeartbeats 400000 in
theorem follows_any (a b : Int) (w : World) : Calls Tryz.prog 121 #[.int .i64 a, .int .i64 b] w fun e w' => e = .returned (.bool (decide (fol a b))) ∧ w = w' := by
  go_enter Tryz.func121, Tryz.ntmps121
  go_wp2
  all_goals go_ret
  all_goals refine ⟨congrArg (fun b => Ending.returned (Value.bool b)) ?_, rfl⟩
  all_goals (rw [Bool.eq_iff_iff, decide_eq_true_iff]; unfold fol; simp at *; try omega)

set_option maxHeartbeats 400000 in
theorem raw_any (c : C) (w : World) : Calls Tryz.prog 119 #[.agg #[.int .i64 c.k, .int .i64 c.n, .string c.t]] w fun e w' => e = .returned (.bool (rawB c)) ∧ Below w.heap.size w w' := by
  obtain ⟨k, n, t⟩ := c
  dsimp only
  go_enter Tryz.func119, Tryz.ntmps119
  go_wp2
  all_goals go_ret
  all_goals refine ⟨congrArg (fun b => Ending.returned (Value.bool b)) ?_, (Below.refl _ _).alloc (Nat.le_refl _) _⟩
  all_goals (rw [Bool.eq_iff_iff, rawB_iff]; unfold C.Raw; try rw [isEmpty_size])
  all_goals (dsimp only; generalize t.size = m at *; simp at *; try omega)

end Go.Proofs.YtjmfjlffcopnnaaGreatDoor.K

namespace Go.Proofs.YtjmfjlffcopnnaaGreatDoor.K
open Go.RowKit

theorem add_plain (b o i : Nat) : (⟨b, o, none⟩ : Addr).add i = ⟨b, o + i, none⟩ := by unfold Addr.add; split <;> simp_all

/-- One piece lies at an address. -/
def PieceAt (w : World) (b o : Nat) (c : C) : Prop :=
  w.cell? ⟨b, o, none⟩ = some (.int .i64 c.k) ∧ w.cell? ⟨b, o + 1, none⟩ = some (.int .i64 c.n) ∧ w.cell? ⟨b, o + 2, none⟩ = some (.string c.t)

/-- The pieces of a slice, as they lie in memory. -/
def RowC (w : World) (p : Option Addr) (cs : List C) : Prop :=
  ∀ (i : Nat) c, cs[i]? = some c → ∃ b o, p = some ⟨b, o, none⟩ ∧ PieceAt w b (o + i * 3) c

theorem PieceAt.below {w w' : World} {b o : Nat} {c : C} (h : PieceAt w b o c) (hb : Below w.heap.size w w') : PieceAt w' b o c :=
  ⟨cell_later hb h.1, cell_later hb h.2.1, cell_later hb h.2.2⟩
theorem RowC.below {w w' : World} {p : Option Addr} {cs : List C} (h : RowC w p cs) (hb : Below w.heap.size w w') : RowC w' p cs := fun i c hi => by
  obtain ⟨b, o, hp, hc⟩ := h i c hi
  exact ⟨b, o, hp, hc.below hb⟩

theorem new_piece (w : World) (k n : Int) (t : ByteArray) : PieceAt (w.alloc (.cells #[.int .i64 k, .int .i64 n, .string t] 48)) w.heap.size 0 ⟨k, n, t⟩ := by
  refine ⟨?_, ?_, ?_⟩ <;> (rw [World.cell?_alloc_mark]; rfl)

theorem sum_bounds {f : C → Int} (hf : ∀ c : C, c.Raw → 0 ≤ f c ∧ f c ≤ 4096) (cs : List C) : (∀ c ∈ cs, c.Raw) → 0 ≤ sumOf f cs ∧ sumOf f cs ≤ 4096 * cs.length := by
  induction cs with
  | nil => intro _; simp [sumOf]
  | cons c cs ih =>
    intro h
    have h1 := hf c (h c (by simp))
    have h2 := ih fun x hx => h x (by simp [hx])
    simp only [sumOf, List.length_cons]
    omega
theorem from_bounds (c : C) (h : c.Raw) : 0 ≤ fromC c ∧ fromC c ≤ 4096 := by unfold C.Raw at h; unfold fromC; split <;> omega
theorem to_bounds (c : C) (h : c.Raw) : 0 ≤ toC c ∧ toC c ≤ 4096 := by unfold C.Raw at h; unfold toC C.sz; split <;> omega
theorem raw_step {cs : List C} {j : Nat} {c : C} (h : ∀ x ∈ cs.take j, x.Raw) (hc : cs[j]? = some c) (hr : c.Raw) : ∀ x ∈ cs.take (j + 1), x.Raw := by
  intro x hx
  rw [List.take_add_one, hc] at hx
  rcases List.mem_append.1 hx with hx | hx
  · exact h x hx
  · simp at hx; subst hx; exact hr

def MeasPost (cs : List C) (w : World) (e : Ending) (w' : World) : Prop :=
  e = .returned (if okB cs then .tuple #[.int .i64 (sumOf fromC cs), .int .i64 (sumOf toC cs), .bool true] else .tuple #[.int .i64 0, .int .i64 0, .bool false]) ∧ Below w.heap.size w w'

set_option maxHeartbeats 400000 in
theorem measure_long (p : Option Addr) (cs : List C) (cap : Nat) (w : World) (hl : 4096 < cs.length) : Calls Tryz.prog 87 #[.slice p cs.length cap] w (MeasPost cs w) := by
  have h0 : okB cs = false := by simp [okB]; omega
  go_enter Tryz.func87, Tryz.ntmps87
  go_wp2
  go_ret3
  exact ⟨by rw [h0]; rfl, Below.refl _ _⟩

set_option maxHeartbeats 2000000 in
theorem measure_short (p : Option Addr) (cs : List C) (cap : Nat) (w : World) (hr : RowC w p cs) (hl : cs.length ≤ 4096) : Calls Tryz.prog 87 #[.slice p cs.length cap] w (MeasPost cs w) := by
  have R := Lib.hid hr; clear hr
  go_enter Tryz.func87, Tryz.ntmps87
  go_wp2
  go_loopw [5, 6, 14] (fun f t i wr => ∃ j : Nat, j ≤ cs.length ∧ i = .int .i64 j ∧ f = .int .i64 (sumOf fromC (cs.take j)) ∧ t = .int .i64 (sumOf toC (cs.take j)) ∧ Hid (∀ c ∈ cs.take j, c.Raw) ∧ Hid (Below w.heap.size w wr)) (fun _ _ i _ => cs.length - (intOf i).toNat)
  case atStart => exact ⟨0, Nat.zero_le _, rfl, rfl, rfl, Lib.hid (by simp), Lib.hid (Below.refl _ _)⟩
  case round =>
    obtain ⟨j, hj, rfl, rfl, rfl, HR, B⟩ := hrel
    have hf1 := sum_bounds from_bounds _ HR.out
    have ht1 := sum_bounds to_bounds _ HR.out
    rw [List.length_take] at hf1 ht1
    have hf0 : 0 ≤ sumOf fromC (cs.take j) := hf1.1
    have hf2 : sumOf fromC (cs.take j) ≤ 16777216 := by omega
    have ht0 : 0 ≤ sumOf toC (cs.take j) := ht1.1
    have ht2 : sumOf toC (cs.take j) ≤ 16777216 := by omega
    clear hf1 ht1
    by_cases hlt : j < cs.length
    · have hc := List.getElem?_eq_getElem hlt
      generalize cs[j] = c at hc
      have e1 := sumOf_take_succ (f := fromC) hc
      have e2 := sumOf_take_succ (f := toC) hc
      obtain ⟨b, o, rfl, hp⟩ := R.out j c hc
      obtain ⟨c0, c1, c2⟩ := hp.below B.out
      have E1 := Lib.hid e1; have E2 := Lib.hid e2; have HC := Lib.hid hc
      clear e1 e2 hc hp
      obtain ⟨k, n, t⟩ := c
      dsimp only at c0 c1 c2
      by_cases hraw : C.Raw ⟨k, n, t⟩
      · have HRS := Lib.hid (raw_step HR.out HC.out hraw)
        have hrb : rawB ⟨k, n, t⟩ = true := decide_eq_true hraw
        have HRB := Lib.hid hrb; clear hrb
        rcases hraw with ⟨hk | hk, h1, h2, h3⟩ | ⟨hk, h1, h2⟩ <;> dsimp only at hk h1 h2 <;> subst hk
        · dsimp only at h3
          go_wp2_with (first | (go_at_call 119; refine (raw_any ⟨0, n, t⟩ _).mono ?_; rintro e w1 ⟨rfl, hb1⟩; rw [HRB.out]; obtain ⟨d0, d1, d2⟩ := (new_piece wr 0 n t).below hb1; simp only [Nat.zero_add] at d0 d1 d2; have B1 := Lib.hid ((B.out.alloc B.out.size _).trans (hb1.mono (by simp; have := B.out.size; omega))); clear hb1) | (go_at_call 120; refine (size_any _ _ _ _ h1 (by omega) (by omega)).mono ?_; rintro e w2 ⟨rfl, hb2⟩))
          go_roundw
          case rel => exact ⟨j + 1, by omega, by go_num, by rw [E1.out]; rfl, by rw [E2.out]; simp [toC, C.sz, h3], HRS, Lib.hid (B1.out.trans (hb2.mono B1.out.size))⟩
          case measure => simp [intOf]; omega
        · dsimp only at h3
          go_wp2_with (first | (go_at_call 119; refine (raw_any ⟨2, n, t⟩ _).mono ?_; rintro e w1 ⟨rfl, hb1⟩; rw [HRB.out]; obtain ⟨d0, d1, d2⟩ := (new_piece wr 2 n t).below hb1; simp only [Nat.zero_add] at d0 d1 d2; have B1 := Lib.hid ((B.out.alloc B.out.size _).trans (hb1.mono (by simp; have := B.out.size; omega))); clear hb1) | (go_at_call 120; refine (size_any _ _ _ _ h1 (by omega) (by omega)).mono ?_; rintro e w2 ⟨rfl, hb2⟩))
          go_roundw
          case rel => exact ⟨j + 1, by omega, by go_num, by rw [E1.out]; rfl, by rw [E2.out]; simp [toC], HRS, B1⟩
          case measure => simp [intOf]; omega
        · subst h1
          go_wp2_with (first | (go_at_call 119; refine (raw_any ⟨1, 0, t⟩ _).mono ?_; rintro e w1 ⟨rfl, hb1⟩; rw [HRB.out]; obtain ⟨d0, d1, d2⟩ := (new_piece wr 1 0 t).below hb1; simp only [Nat.zero_add] at d0 d1 d2; have B1 := Lib.hid ((B.out.alloc B.out.size _).trans (hb1.mono (by simp; have := B.out.size; omega))); clear hb1) | (go_at_call 120; refine (size_any _ _ _ _ (by omega) (by omega) (by omega)).mono ?_; rintro e w2 ⟨rfl, hb2⟩))
          go_roundw
          case rel => exact ⟨j + 1, by omega, by go_num, by rw [E1.out]; simp [fromC], by rw [E2.out]; simp [toC, C.sz], HRS, Lib.hid (B1.out.trans (hb2.mono B1.out.size))⟩
          case measure => simp [intOf]; omega
      · go_wp2_with (go_at_call 119; refine (raw_any ⟨k, n, t⟩ _).mono ?_; rintro e w1 ⟨rfl, hb1⟩; rw [show rawB ⟨k, n, t⟩ = false from decide_eq_false hraw])
        go_ret3
        have h0 : okB cs = false := by
          cases h : okB cs with
          | false => rfl
          | true => exact absurd ((okB_iff.1 h).2.1 _ (List.mem_of_getElem? HC.out)) hraw
        exact ⟨by rw [h0]; rfl, (B.out.alloc B.out.size _).trans (hb1.mono (by simp; have := B.out.size; omega))⟩
    · have hjj : j = cs.length := by omega
      subst hjj
      rw [List.take_length] at *
      have OK := Lib.hid (okB_iff (cs := cs))
      by_cases g1 : sumOf fromC cs ≤ 4096
      · by_cases g2 : sumOf toC cs ≤ 4096
        · go_wp2
          go_ret3
          have h0 : okB cs = true := OK.out.2 ⟨hl, HR.out, g1, g2⟩
          exact ⟨by rw [h0]; rfl, B.out⟩
        · go_wp2
          go_ret3
          have h0 : okB cs = false := by
            cases h : okB cs with
            | false => rfl
            | true => have := (OK.out.1 h).2.2.2; omega
          exact ⟨by rw [h0]; rfl, B.out⟩
      · go_wp2
        go_ret3
        have h0 : okB cs = false := by
          cases h : okB cs with
          | false => rfl
          | true => have := (OK.out.1 h).2.2.1; omega
        exact ⟨by rw [h0]; rfl, B.out⟩

theorem measure_any (p : Option Addr) (cs : List C) (cap : Nat) (w : World) (hr : RowC w p cs) : Calls Tryz.prog 87 #[.slice p cs.length cap] w (MeasPost cs w) := by
  by_cases h : cs.length ≤ 4096
  · exact measure_short p cs cap w hr h
  · exact measure_long p cs cap w (by omega)

end Go.Proofs.YtjmfjlffcopnnaaGreatDoor.K

namespace Go.Proofs.YtjmfjlffcopnnaaGreatDoor.K
open Go.RowKit

theorem info39 : (Tryz.prog.info? 48).map (fun i => (i.zero, i.size, i.bytes)) = some (some (.agg #[.int .i64 0, .int .i64 0, .string ⟨#[]⟩]), 3, 32) := by kernel_rfl

theorem cellsC_append (a b : List C) : cellsC (a ++ b) = cellsC a ++ cellsC b := by simp [cellsC]
theorem cellsC_length (cs : List C) : (cellsC cs).length = cs.length * 3 := by
  induction cs with
  | nil => rfl
  | cons c cs ih =>
    have : cellsC (c :: cs) = C.cells c ++ cellsC cs := by simp [cellsC]
    rw [this, List.length_append, ih, List.length_cons]; simp [C.cells]; omega
theorem cellsC_one (cs : List C) : ∀ u ∈ cellsC cs, u.oneCell' = true := by
  intro u hu
  obtain ⟨c, _, hc⟩ := List.mem_flatMap.1 hu
  simp [C.cells] at hc
  rcases hc with rfl | rfl | rfl <;> rfl
theorem cellsC_get {cs : List C} {i : Nat} {c : C} (h : cs[i]? = some c) : (cellsC cs)[i * 3]? = some (.int .i64 c.k) ∧ (cellsC cs)[i * 3 + 1]? = some (.int .i64 c.n) ∧ (cellsC cs)[i * 3 + 2]? = some (.string c.t) := by
  obtain ⟨hl, he⟩ := List.getElem?_eq_some_iff.1 h
  have h1 : cs = cs.take i ++ (c :: cs.drop (i + 1)) := by
    rw [← he]; simp
  have h2 : cellsC cs = cellsC (cs.take i) ++ (C.cells c ++ cellsC (cs.drop (i + 1))) := by
    conv => lhs; rw [h1]
    rw [cellsC_append]; simp [cellsC]
  have h3 : (cellsC (cs.take i)).length = i * 3 := by rw [cellsC_length, List.length_take]; congr 1; omega
  rw [h2]
  refine ⟨?_, ?_, ?_⟩
  · rw [List.getElem?_append_right (by omega), h3, Nat.sub_self]; rfl
  · rw [List.getElem?_append_right (by omega), h3, Nat.add_sub_cancel_left]; rfl
  · rw [List.getElem?_append_right (by omega), h3, Nat.add_sub_cancel_left]; rfl

/-- v is a slice of these pieces in memory of the call's own, from block base on. -/
def Own (w : World) (base : Nat) (v : Value) (cs : List C) : Prop := w.ownsRow base 48 3 v cs.length (cellsC cs)

theorem Own.nil (w : World) (base : Nat) : Own w base (.slice none 0 0) [] := World.ownsRow_nil _ _ _ _
theorem Own.form {w : World} {base : Nat} {v : Value} {cs : List C} (h : Own w base v cs) : ∃ p cap, v = .slice p cs.length cap := by
  rcases h.2 with ⟨h, hn⟩ | ⟨g, cap, _, h, _⟩
  · rw [hn]; exact ⟨_, _, h⟩
  · exact ⟨_, _, h⟩
theorem Own.formS {w : World} {base : Nat} {v : Value} {cs : List C} {l : C} (h : Own w base v (cs ++ [l])) : ∃ g cap, v = .slice (some ⟨g, 0, none⟩) (cs.length + 1) cap ∧ base ≤ g ∧ g < w.heap.size ∧ cs.length + 1 ≤ cap := by
  rcases h.2 with ⟨h, hn⟩ | ⟨g, cap, _, h, hb, hg, hc, _⟩
  · simp at hn
  · exact ⟨g, cap, by simpa using h, hb, (Array.getElem?_eq_some_iff.1 hg).1, by simpa using hc⟩
theorem Own.piece {w : World} {base : Nat} {g n cap : Nat} {cs : List C} (h : Own w base (.slice (some ⟨g, 0, none⟩) n cap) cs) {i : Nat} {c : C} (hi : cs[i]? = some c) : PieceAt w g (i * 3) c := by
  obtain ⟨h0, h1, h2⟩ := cellsC_get hi
  have e0 := World.ownsRow.cells h (g := g) rfl _ _ h0
  have e1 := World.ownsRow.cells h (g := g) rfl _ _ h1
  have e2 := World.ownsRow.cells h (g := g) rfl _ _ h2
  rw [add_plain, Nat.zero_add] at e0 e1 e2
  exact ⟨e0, e1, e2⟩
theorem Own.row {w : World} {base : Nat} {p : Option Addr} {n cap : Nat} {cs : List C} (h : Own w base (.slice p n cap) cs) : RowC w p cs := by
  intro i c hi
  rcases h.2 with ⟨_, hn⟩ | ⟨g, _, _, hv, _⟩
  · have := (List.getElem?_eq_some_iff.1 hi).1; omega
  · cases hv
    exact ⟨g, 0, rfl, by rw [Nat.zero_add]; exact h.piece hi⟩
theorem Own.front {w : World} {base : Nat} {g n cap : Nat} {cs : List C} {l : C} (h : Own w base (.slice (some ⟨g, 0, none⟩) n cap) (cs ++ [l])) : Own w base (.slice (some ⟨g, 0, none⟩) cs.length cap) cs := by
  refine ⟨cellsC_length cs, ?_⟩
  rcases h.2 with ⟨_, hn⟩ | ⟨g', cap', cur, hv, hb, hg, hc, hm, hs, ht⟩
  · simp at hn
  · cases hv
    refine .inr ⟨g, cap, cur, rfl, hb, hg, by simp at hc; omega, hm, hs, ?_⟩
    have e := congrArg (List.take (cs.length * 3)) ht
    rw [List.take_take, cellsC_append, List.take_append_of_le_length (by rw [cellsC_length]; omega), List.take_of_length_le (l := cellsC cs) (by rw [cellsC_length]; omega), List.length_append, Nat.min_eq_left (by simp; omega)] at e
    exact e
theorem Own.lt {w : World} {base : Nat} {v : Value} {cs : List C} (h : Own w base v cs) {g : Nat} (hg : v.ownBlock = some g) : base ≤ g ∧ g < w.heap.size := World.ownsRow.lt h g hg
theorem Own.below {w w' : World} {base : Nat} {v : Value} {cs : List C} (h : Own w base v cs) (hb : Below w.heap.size w w') : Own w' base v cs :=
  World.ownsRow.kept (row := none) h ⟨hb.os, hb.tape, hb.output, hb.size, fun k hk _ => hb.block k hk⟩ (by cases v.ownBlock <;> simp)
theorem Own.mono {w : World} {base base' : Nat} {v : Value} {cs : List C} (h : Own w base v cs) (hb : base' ≤ base) : Own w base' v cs := by
  refine ⟨h.1, ?_⟩
  rcases h.2 with h | ⟨g, cap, cur, hv, h1, h2⟩
  · exact .inl h
  · exact .inr ⟨g, cap, cur, hv, Nat.le_trans hb h1, h2⟩

theorem heap_setCell_at {w : World} {g i : Nat} {cur : Array Value} {e : TypeId} {fr : Nat × Nat} (h : w.heap[g]? = some (.cells cur e fr)) (u : Value) : (w.setCell ⟨g, i, none⟩ u).heap[g]? = some (.cells (cur.setIfInBounds i u) e fr) := by
  simp [World.setCell, Array.getElem?_modify, h]

theorem owns_set {w : World} {base e size g n cap i : Nat} {xs : List Value} (h : w.ownsRow base e size (.slice (some ⟨g, 0, none⟩) n cap) n xs) (u : Value) :
    (w.setCell ⟨g, i, none⟩ u).ownsRow base e size (.slice (some ⟨g, 0, none⟩) n cap) n (xs.set i u) := by
  refine ⟨by rw [List.length_set]; exact h.1, ?_⟩
  rcases h.2 with ⟨hv, _⟩ | ⟨g', cap', cur, hv, hb, hg, hnc, hm, hs, ht⟩
  · cases hv
  · cases hv
    refine .inr ⟨g, cap, _, rfl, hb, heap_setCell_at hg u, hnc, hm, by simpa using hs, ?_⟩
    rw [Array.toList_setIfInBounds, List.take_set, ht]

theorem Own.frozen {w : World} {base g n cap : Nat} {cs : List C} (h : Own w base (.slice (some ⟨g, 0, none⟩) n cap) cs) (i : Nat) : w.frozen? ⟨g, i, none⟩ = false := by
  rcases h.2 with ⟨hv, _⟩ | ⟨g', cap', cur, hv, hb, hg, _⟩
  · cases hv
  · cases hv
    simp [World.frozen?, hg]

theorem grown_refl (w : World) (row : Option Nat) : w.grownBy w row := ⟨rfl, rfl, rfl, Nat.le_refl _, fun _ _ _ => rfl⟩
theorem grown_of_below {w w' : World} (h : Below w.heap.size w w') (row : Option Nat) : w.grownBy w' row := ⟨h.os, h.tape, h.output, h.size, fun k hk _ => h.block k hk⟩
theorem grown_trans {w w1 w2 : World} {row row1 : Option Nat} (h : w.grownBy w1 row) (h1 : w1.grownBy w2 row1) (hr : ∀ g, row1 = some g → row = some g ∨ w.heap.size ≤ g) : w.grownBy w2 row :=
  ⟨h1.os.trans h.os, h1.tape.trans h.tape, h1.output.trans h.output, Nat.le_trans h.size h1.size, fun k hk hne => (h1.block k (Nat.lt_of_lt_of_le hk h.size) (fun e => by rcases hr k e.symm with h | h; exact hne h.symm; omega)).trans (h.block k hk hne)⟩
theorem grown_set {w w1 : World} {g i : Nat} (h : w.grownBy w1 (some g)) (u : Value) : w.grownBy (w1.setCell ⟨g, i, none⟩ u) (some g) :=
  ⟨h.os, h.tape, h.output, by simpa using h.size, fun k hk hne => by
    have : k ≠ g := fun e => hne (by rw [e])
    rw [← h.block k hk hne]
    simp [World.setCell, Array.getElem?_modify, this.symm]⟩

/-- What add answers. -/
def AddPost (base : Nat) (v : Value) (out : List C) (w : World) (e : Ending) (w' : World) : Prop :=
  ∃ v', e = .returned v' ∧ Own w' base v' out ∧ w.grownBy w' v.ownBlock ∧ ∀ g, v'.ownBlock = some g → v.ownBlock = some g ∨ w.heap.size ≤ g

def Fit (c : C) : Prop := 0 ≤ c.n ∧ c.n ≤ 16777216 ∧ c.t.size ≤ 16777216

theorem dr_below (w : World) (m : Nat) : Below w.heap.size w (w.drewN m) := ⟨rfl, rfl, rfl, Nat.le_refl _, fun _ _ => rfl⟩

theorem three_new {w : World} {H : Nat} (hH : w.heap.size = H) (c : C) : ∀ j u, (C.cells c)[j]? = some u → (w.alloc (.cells #[.int .i64 c.k, .int .i64 c.n, .string c.t] 48)).cell? ((⟨H, 0, none⟩ : Addr).add j) = some u := by
  subst hH
  exact World.news_of_block (heap_alloc_new w _)
theorem cells_one (c : C) : ∀ u ∈ C.cells c, u.oneCell' = true := by
  intro u hu
  simp [C.cells] at hu
  rcases hu with rfl | rfl | rfl <;> rfl
/-- What append gives. -/
theorem AddPost.of_append {base : Nat} {v : Value} {cs : List C} {c : C} {w W w' : World} {g n cap : Nat} (hB : Below w.heap.size w W) (hn : n = cs.length + 1) (ho : w'.ownsRow base 48 3 (.slice (some ⟨g, 0, none⟩) n cap) n (cellsC cs ++ C.cells c)) (hg : W.grownBy w' v.ownBlock) (hgg : v.ownBlock = some g ∨ g = W.heap.size) :
    AddPost base v (cs ++ [c]) w (.returned (.slice (some ⟨g, 0, none⟩) n cap)) w' := by
  refine ⟨_, rfl, ?_, ?_, ?_⟩
  · unfold Own
    rw [List.length_append, List.length_singleton, ← hn, cellsC_append]
    have : cellsC [c] = C.cells c := by simp [cellsC]
    rw [this]; exact ho
  · exact grown_trans (grown_of_below hB _) hg (fun g h => .inl h)
  · intro g' h
    simp only [Value.ownBlock, Option.some.injEq] at h
    subst h
    rcases hgg with h | h
    · exact .inl h
    · right; rw [h]; exact hB.size

/-- A box of the call's own with one piece in it; nothing of w0 has turned. -/
def Box (w0 w : World) (b : Nat) (c : C) : Prop :=
  Below w0.heap.size w0 w ∧ PieceAt w b 0 c ∧ (∀ i, w.frozen? ⟨b, i, none⟩ = false) ∧ w0.heap.size ≤ b ∧ b < w.heap.size
theorem Box.new (w : World) (k n : Int) (t : ByteArray) : Box w (w.alloc (.cells #[.int .i64 k, .int .i64 n, .string t] 48)) w.heap.size ⟨k, n, t⟩ :=
  ⟨(Below.refl _ _).alloc (Nat.le_refl _) _, new_piece w k n t, fun i => by simp [World.frozen?_alloc_mark], Nat.le_refl _, by simp⟩
theorem Box.below {w0 w w' : World} {b : Nat} {c : C} (h : Box w0 w b c) (hb : Below w.heap.size w w') : Box w0 w' b c :=
  ⟨h.1.trans (hb.mono h.1.size), h.2.1.below hb, fun i => (hb.frozen (p := ⟨b, i, none⟩) h.2.2.2.2).trans (h.2.2.1 i), h.2.2.2.1, Nat.lt_of_lt_of_le h.2.2.2.2 hb.size⟩
theorem Box.dr {w0 w : World} {b : Nat} {c : C} (h : Box w0 w b c) (m : Nat) : Box w0 (w.drewN m) b c := h.below (dr_below w m)
theorem Box.cells {w0 w : World} {b : Nat} {k n : Int} {t : ByteArray} (h : Box w0 w b ⟨k, n, t⟩) : w.cell? ⟨b, 0, none⟩ = some (.int .i64 k) ∧ w.cell? ⟨b, 1, none⟩ = some (.int .i64 n) ∧ w.cell? ⟨b, 2, none⟩ = some (.string t) := by
  have := h.2.1
  simpa [PieceAt] using this

end Go.Proofs.YtjmfjlffcopnnaaGreatDoor.K
