/-
  A packed text read again: plain functions that do what the reference's taker does, and what they make of a message's text. No program in it, no condition.
-/
import Derived.Test.YtjmfjlffcopnnaaDoorPkM
namespace Go.Proofs.YtjmfjlffcopnnaaDoor
open Go.Proofs.YtjmfjlffcopnnaaDoor.K (C)

/-- What is left of the text; is it bad? -/
abbrev Ts := List UInt8 × Bool
def isDg (c : UInt8) : Bool := decide (48 ≤ c.toNat) && decide (c.toNat ≤ 57)
def dgs (l : List UInt8) : List UInt8 := (l.take 9).takeWhile isDg
def pDig (e : UInt8) (t : Ts) : Int × Ts :=
  match dgs t.1, t.1.drop (dgs t.1).length with
  | [], r => (0, r, true)
  | _ :: _, [] => (0, [], true)
  | d :: ds, c :: r => if c = e then ((valD 0 (d :: ds) : Nat), r, t.2) else (0, c :: r, true)
def pNum (t : Ts) : Int × Ts := pDig 44 t
def pCount (t : Ts) : Int × Ts := if ((pNum t).2.1.length : Int) < (pNum t).1 then (0, (pNum t).2.1, true) else pNum t
def pStr (t : Ts) : List UInt8 × Ts :=
  if (pDig 58 t).2.2 = true ∨ ((pDig 58 t).2.1.length : Int) < (pDig 58 t).1 then ([], (pDig 58 t).2.1, true)
  else ((pDig 58 t).2.1.take (pDig 58 t).1.toNat, (pDig 58 t).2.1.drop (pDig 58 t).1.toNat, (pDig 58 t).2.2)
def pRow {α : Type} (f : Ts → α × Ts) : Nat → List α → Ts → List α × Ts
  | 0, acc, t => (acc, t)
  | k + 1, acc, t => if t.2 = true then (acc, t) else pRow f k (acc ++ [(f t).1]) (f t).2
def pList {α : Type} (f : Ts → α × Ts) (t : Ts) : List α × Ts := pRow f (pCount t).1.toNat [] (pCount t).2
/-- A piece, behind its letter. -/
def pComp (c : UInt8) (t : Ts) : C × Ts :=
  if c = 107 then (⟨0, (pNum t).1, ⟨#[]⟩⟩, (pNum t).2)
  else if c = 99 then (⟨2, (pNum t).1, ⟨#[]⟩⟩, (pNum t).2)
  else (⟨1, 0, ⟨(pStr t).1.toArray⟩⟩, (pStr t).2)
def pCompRow : Nat → List C → Ts → List C × Ts
  | 0, acc, t => (acc, t)
  | k + 1, acc, t => if t.2 = true then (acc, t) else match t.1 with
    | [] => ([], [], true)
    | c :: r => pCompRow k (acc ++ [(pComp c (r, t.2)).1]) (pComp c (r, t.2)).2
def pComps (t : Ts) : List C × Ts := pCompRow (pCount t).1.toNat [] (pCount t).2
def pNode (t : Ts) : Nd × Ts :=
  let a := pNum t
  let b := pNum a.2
  let c := pNum b.2
  let d := pNum c.2
  let e := pList pNum d.2
  (⟨a.1, b.1, c.1, d.1, e.1⟩, e.2)
def pStep (t : Ts) : St × Ts :=
  let z := pNum t
  let a := pNum z.2
  let b := pNum a.2
  let c := pNum b.2
  let d := pNum c.2
  let e := pList pNum d.2
  (⟨z.1, a.1, b.1, c.1, d.1, e.1⟩, e.2)
def pTree (t : Ts) : (Int × Int × List Nd) × Ts :=
  let a := pNum t
  let b := pNum a.2
  let c := pList pNode b.2
  ((a.1, b.1, c.1), c.2)
def pEnt (t : Ts) : En × Ts :=
  let a := pNum t
  let b := pNum a.2
  let c := pComps b.2
  let d := pList pStep c.2
  (⟨a.1, b.1, c.1, d.1⟩, d.2)
/-- A message, behind its letter. -/
def pMsg (h : UInt8) (t : Ts) : Ms × Ts :=
  let a := pNum t
  let b := pNum a.2
  if h = 80 then
    let c := pNum b.2
    let d := pComps c.2
    (⟨0, a.1, b.1, c.1, 0, 0, false, ⟨#[]⟩, 0, 0, [], d.1, []⟩, d.2)
  else if h = 67 then
    let c := pList pEnt b.2
    (⟨1, a.1, b.1, 0, 0, 0, false, ⟨#[]⟩, 0, 0, [], [], c.1⟩, c.2)
  else
    let c := pNum b.2
    let d := pNum c.2
    let e := pNum d.2
    let f := pNum e.2
    let g := pStr f.2
    let k := pTree g.2
    (⟨2, a.1, b.1, c.1, d.1, e.1, f.1 == 1, ⟨g.1.toArray⟩, k.1.1, k.1.2.1, k.1.2.2, [], []⟩, k.2)

theorem take_dgs : ∀ (m : Nat) (l : List UInt8) (c : UInt8) (r : List UInt8), l.length ≤ m → (∀ x ∈ l, isDg x = true) → isDg c = false → ((l ++ c :: r).take m).takeWhile isDg = l
  | 0, [], c, r, _, _, _ => by simp
  | m + 1, [], c, r, _, _, hc => by simp [hc]
  | 0, x :: l, c, r, h, _, _ => by simp at h
  | m + 1, x :: l, c, r, h, hl, hc => by
    have ih := take_dgs m l c r (by simpa using h) (fun y hy => hl y (List.mem_cons_of_mem _ hy)) hc
    rw [List.cons_append, List.take_succ_cons, List.takeWhile_cons, if_pos (hl x (List.mem_cons_self ..)), ih]
theorem isDg_dgB {c : UInt8} : isDg c = true ↔ dgB c := by
  unfold isDg dgB
  simp
theorem decL_short {n : Nat} (h : n < 1000000000) : (decL n).length ≤ 9 := Nat.le_trans (decL_mono (Nat.le_of_lt_succ h)) (by decide +kernel)
theorem dgs_dec {n : Nat} (h : n < 1000000000) {c : UInt8} (hc : isDg c = false) (r : List UInt8) : dgs (decL n ++ c :: r) = decL n := take_dgs 9 _ c r (decL_short h) (fun x hx => isDg_dgB.2 (decL_dg n x hx)) hc
theorem decL_ne (n : Nat) : decL n ≠ [] := decA_ne _ _ _ (by omega)
theorem dig_rt {n : Nat} (h : n < 1000000000) {c : UInt8} (hc : isDg c = false) (r : List UInt8) (b : Bool) : pDig c (decL n ++ c :: r, b) = ((n : Int), r, b) := by
  unfold pDig
  dsimp only
  rw [dgs_dec h hc, List.drop_left]
  have hv := decL_val n
  cases hd : decL n with
  | nil => exact absurd hd (decL_ne n)
  | cons d ds =>
    rw [hd] at hv
    dsimp only
    rw [if_pos rfl, hv]
/-- What is read again as it was packed. -/
def Rt {α : Type} (P : α → Prop) (f : Ts → α × Ts) (g : α → List UInt8 → List UInt8) : Prop := ∀ x r, P x → f (g x r, false) = (x, r, false)
def Sm (x : Int) : Prop := 0 ≤ x ∧ x < 1000000000
theorem num_rt : Rt Sm pNum numC := by
  intro x r h
  have := dig_rt (n := x.toNat) (by have := h.2; omega) (c := 44) (by decide) r false
  unfold pNum numC
  rw [this]
  have : ((x.toNat : Nat) : Int) = x := Int.toNat_of_nonneg h.1
  rw [this]
theorem str_rt : Rt (fun t => t.length < 1000000000) pStr strC := by
  intro t r h
  have := dig_rt (n := t.length) h (c := 58) (by decide) (t ++ r) false
  unfold pStr strC
  rw [this]
  dsimp only
  rw [if_neg (by
    rintro (h | h)
    · simp at h
    · simp at h
      omega)]
  simp
def Gt {α : Type} (g : α → List UInt8 → List UInt8) : Prop := ∀ x r, r.length + 1 ≤ (g x r).length
theorem num_gt : Gt numC := by
  intro x r
  unfold numC
  simp
theorem row_gt {α : Type} {g : α → List UInt8 → List UInt8} (hg : Gt g) (r : List UInt8) : ∀ xs : List α, r.length + xs.length ≤ (rowC g xs r).length
  | [] => by simp [rowC]
  | x :: xs => by
    have ih := row_gt hg r xs
    have h1 : rowC g (x :: xs) r = g x (rowC g xs r) := rfl
    have := hg x (rowC g xs r)
    rw [h1, List.length_cons]
    omega
theorem row_rt {α : Type} {P : α → Prop} {f : Ts → α × Ts} {g : α → List UInt8 → List UInt8} (h : Rt P f g) (r : List UInt8) : ∀ (xs acc : List α), (∀ x ∈ xs, P x) → pRow f xs.length acc (rowC g xs r, false) = (acc ++ xs, r, false)
  | [], acc, _ => by simp [pRow, rowC]
  | x :: xs, acc, hx => by
    have ih := row_rt h r xs (acc ++ [x]) (fun y hy => hx y (List.mem_cons_of_mem _ hy))
    have h1 : rowC g (x :: xs) r = g x (rowC g xs r) := rfl
    have h2 := h x (rowC g xs r) (hx x (List.mem_cons_self ..))
    rw [h1, List.length_cons]
    unfold pRow
    rw [if_neg (by simp), h2, ih]
    simp
theorem count_rt {α : Type} {g : α → List UInt8 → List UInt8} (hg : Gt g) (xs : List α) (r : List UInt8) (hl : xs.length < 1000000000) : pCount (listC g xs r, false) = ((xs.length : Int), rowC g xs r, false) := by
  have h1 := num_rt (xs.length : Int) (rowC g xs r) ⟨by omega, by omega⟩
  unfold pCount listC
  rw [h1]
  dsimp only
  rw [if_neg (by have := row_gt hg r xs; omega)]
theorem list_rt {α : Type} {P : α → Prop} {f : Ts → α × Ts} {g : α → List UInt8 → List UInt8} (h : Rt P f g) (hg : Gt g) : Rt (fun xs : List α => (∀ x ∈ xs, P x) ∧ xs.length < 1000000000) (pList f) (listC g) := by
  intro xs r hx
  unfold pList
  rw [count_rt hg xs r hx.2]
  dsimp only
  rw [Int.toNat_natCast, row_rt h r xs [] hx.1, List.nil_append]
def CpS (c : C) : Prop := (c.k = 1 ∧ c.n = 0 ∧ (bytesOf c.t).length < 1000000000) ∨ ((c.k = 0 ∨ c.k = 2) ∧ Sm c.n ∧ c.t = ⟨#[]⟩)
theorem comp_rt (c : C) (r : List UInt8) (h : CpS c) : ∃ k, compC c r = k :: (compC c r).tail ∧ pComp k ((compC c r).tail, false) = (c, r, false) := by
  obtain ⟨k, n, t⟩ := c
  unfold compC pComp
  simp only [CpS] at h
  rcases h with ⟨rfl, rfl, ht⟩ | ⟨rfl | rfl, hn, rfl⟩
  · refine ⟨112, by simp, ?_⟩
    have := str_rt (bytesOf t) r ht
    have e : (⟨(bytesOf t).toArray⟩ : ByteArray) = t := by simp [bytesOf]
    simp [this, e]
  · refine ⟨107, by simp, ?_⟩
    have := num_rt n r hn
    simp [this]
  · refine ⟨99, by simp, ?_⟩
    have := num_rt n r hn
    simp [this]
theorem comp_gt : Gt compC := by
  intro x r
  unfold compC strC numC
  split
  · simp; omega
  split <;> simp <;> omega
theorem compRow_rt (r : List UInt8) : ∀ (xs acc : List C), (∀ x ∈ xs, CpS x) → pCompRow xs.length acc (rowC compC xs r, false) = (acc ++ xs, r, false)
  | [], acc, _ => by simp [pCompRow, rowC]
  | x :: xs, acc, hx => by
    have ih := compRow_rt r xs (acc ++ [x]) (fun y hy => hx y (List.mem_cons_of_mem _ hy))
    have h1 : rowC compC (x :: xs) r = compC x (rowC compC xs r) := rfl
    obtain ⟨k, h2, h3⟩ := comp_rt x (rowC compC xs r) (hx x (List.mem_cons_self ..))
    rw [h1, List.length_cons, h2]
    unfold pCompRow
    rw [if_neg (by simp)]
    dsimp only
    rw [h3, ih]
    simp
theorem comps_rt : Rt (fun xs : List C => (∀ x ∈ xs, CpS x) ∧ xs.length < 1000000000) pComps (listC compC) := by
  intro xs r hx
  unfold pComps
  rw [count_rt comp_gt xs r hx.2]
  dsimp only
  rw [Int.toNat_natCast, compRow_rt r xs [] hx.1, List.nil_append]
def NsS (l : List Int) : Prop := (∀ x ∈ l, Sm x) ∧ l.length < 1000000000
theorem nums_rt : Rt NsS (pList pNum) (listC numC) := list_rt num_rt num_gt
def NdS (x : Nd) : Prop := Sm x.id ∧ Sm x.kd ∧ Sm x.fr ∧ Sm (Nd.to x) ∧ NsS x.kids
def StS (x : St) : Prop := Sm x.kd ∧ Sm x.id ∧ Sm x.nd ∧ Sm x.fr ∧ Sm (St.to x) ∧ NsS x.kids
theorem node_rt : Rt NdS pNode nodeC := by
  intro x r h
  unfold pNode nodeC
  simp only [num_rt x.id _ h.1, num_rt x.kd _ h.2.1, num_rt x.fr _ h.2.2.1, num_rt (Nd.to x) _ h.2.2.2.1, nums_rt x.kids r h.2.2.2.2]
theorem step_rt : Rt StS pStep stepC := by
  intro x r h
  unfold pStep stepC
  simp only [num_rt x.kd _ h.1, num_rt x.id _ h.2.1, num_rt x.nd _ h.2.2.1, num_rt x.fr _ h.2.2.2.1, num_rt (St.to x) _ h.2.2.2.2.1, nums_rt x.kids r h.2.2.2.2.2]
theorem numC_len (x : Int) (r : List UInt8) : r.length + 1 ≤ (numC x r).length := num_gt x r
theorem listC_len {α : Type} {g : α → List UInt8 → List UInt8} (hg : Gt g) (xs : List α) (r : List UInt8) : r.length + 1 ≤ (listC g xs r).length := by
  unfold listC
  have := numC_len (xs.length : Int) (rowC g xs r)
  have := row_gt hg r xs
  omega
theorem node_gt : Gt nodeC := by
  intro x r
  unfold nodeC
  have h1 := listC_len num_gt x.kids r
  have h2 := numC_len (Nd.to x) (listC numC x.kids r)
  have h3 := numC_len x.fr (numC (Nd.to x) (listC numC x.kids r))
  have h4 := numC_len x.kd (numC x.fr (numC (Nd.to x) (listC numC x.kids r)))
  have h5 := numC_len x.id (numC x.kd (numC x.fr (numC (Nd.to x) (listC numC x.kids r))))
  omega
theorem step_gt : Gt stepC := by
  intro x r
  unfold stepC
  have h1 := listC_len num_gt x.kids r
  have h2 := numC_len (St.to x) (listC numC x.kids r)
  have h3 := numC_len x.fr (numC (St.to x) (listC numC x.kids r))
  have h4 := numC_len x.nd (numC x.fr (numC (St.to x) (listC numC x.kids r)))
  have h5 := numC_len x.id (numC x.nd (numC x.fr (numC (St.to x) (listC numC x.kids r))))
  have h6 := numC_len x.kd (numC x.id (numC x.nd (numC x.fr (numC (St.to x) (listC numC x.kids r)))))
  omega
def EnS (e : En) : Prop := Sm e.cl ∧ Sm e.sq ∧ ((∀ x ∈ e.ed, CpS x) ∧ e.ed.length < 1000000000) ∧ ((∀ x ∈ e.dl, StS x) ∧ e.dl.length < 1000000000)
theorem ent_rt : Rt EnS pEnt entC := by
  intro x r h
  unfold pEnt entC
  simp only [num_rt x.cl _ h.1, num_rt x.sq _ h.2.1, comps_rt x.ed _ h.2.2.1, list_rt step_rt step_gt x.dl r h.2.2.2]
theorem ent_gt : Gt entC := by
  intro x r
  unfold entC
  have h1 := listC_len step_gt x.dl r
  have h2 := listC_len comp_gt x.ed (listC stepC x.dl r)
  have h3 := numC_len x.sq (listC compC x.ed (listC stepC x.dl r))
  have h4 := numC_len x.cl (numC x.sq (listC compC x.ed (listC stepC x.dl r)))
  omega

end Go.Proofs.YtjmfjlffcopnnaaDoor
