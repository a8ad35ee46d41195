/-
  PkL, PgM, in one text. Conditions: as each theorem's premises say.
-/
import Derived.Test.YtjmfjlffcopnnaaGreatDoorPF19
import Derived.Test.YtjmfjlffcopnnaaGreatDoorPF18
namespace Go.Proofs.YtjmfjlffcopnnaaGreatDoor
open Go.Proofs.YtjmfjlffcopnnaaGreatDoor.K (C MayP)

theorem row_len {α : Type} {f : α → List UInt8 → List UInt8} (hf : App f) {M : Nat} : ∀ {xs : List α}, (∀ x ∈ xs, (f x []).length ≤ M) → (rowC f xs []).length ≤ xs.length * M
  | [], _ => by simp [rowC]
  | x :: xs, h => by
    have ih := row_len hf (xs := xs) fun y hy => h y (List.mem_cons_of_mem _ hy)
    have h1 : rowC f (x :: xs) [] = f x [] ++ rowC f xs [] := hf.nil x _
    rw [h1, List.length_append, List.length_cons, Nat.succ_mul]
    have := h x (List.mem_cons_self ..)
    omega
theorem list_len {α : Type} {f : α → List UInt8 → List UInt8} (hf : App f) {M : Nat} {xs : List α} (h : ∀ x ∈ xs, (f x []).length ≤ M) (hl : xs.length ≤ 140737488355328) : (listC f xs []).length ≤ 20 + xs.length * M := by
  rw [list_split, List.length_append]
  have := row_len hf h
  have := num_len (n := (xs.length : Int)) (by omega) (by omega)
  omega
theorem nums_len {xs : List Int} (h : ∀ x ∈ xs, NmP x) (hl : xs.length ≤ 2048) : (listC numC xs []).length ≤ 41000 := by
  have := list_len num_app (M := 20) (fun x hx => num_len (h x hx).1 (h x hx).2) (by omega)
  omega
theorem nm_small {x : Int} (h0 : 0 ≤ x) (h1 : x ≤ 16777216) : NmP x := ⟨h0, by omega⟩

theorem may_nodes {ns : List Nd} {root next size : Int} (h : mayB ns root next size = true) : ns.length ≤ 2048 ∧ NmP root ∧ NmP next ∧ ∀ x ∈ ns, NdP x ∧ x.kids.length ≤ 2048 := by
  have Cm := mayC_is.1 h
  have hid : ∀ x ∈ ns, NmP x.id := fun x hx => by
    have hn := nodeOk_is.1 (Cm.node x hx)
    have := Cm.next1
    exact nm_small hn.1.1 (by omega)
  obtain ⟨y, hy, _, hyr, _⟩ := root_node Cm
  refine ⟨Cm.few, by rw [← hyr]; exact hid y hy, nm_small Cm.next0 Cm.next1, fun x hx => ?_⟩
  have hn := nodeOk_is.1 (Cm.node x hx)
  have hs := Cm.size1
  have hk : ∀ c ∈ x.kids, (allKids ns).count c = 1 ∧ NmP c := fun c hc => by
    obtain ⟨h1, _, z, hz, hzc⟩ := kids_once Cm hx hc
    exact ⟨h1, by rw [← hzc]; exact hid z hz⟩
  have hnd : x.kids.Nodup := List.nodup_iff_count.2 fun c => by
    by_cases hc : c ∈ x.kids
    · rw [← (hk c hc).1]
      exact count_kids hx c
    · rw [List.count_eq_zero_of_not_mem hc]
      omega
  have hkl : x.kids.length ≤ 2048 := by
    have := pigeon x.kids (ns.map Nd.id) hnd fun c hc => by
      obtain ⟨_, _, z, hz, hzc⟩ := kids_once Cm hx hc
      exact List.mem_map.2 ⟨z, hz, hzc⟩
    rw [List.length_map] at this
    exact Nat.le_trans this Cm.few
  exact ⟨⟨hid x hx, nm_small hn.2.1 (by omega), nm_small hn.2.2.2.1 (by omega), nm_small (by omega) (by omega), fun c hc => (hk c hc).2, by omega⟩, hkl⟩
theorem node_len {x : Nd} (h : NdP x) (hk : x.kids.length ≤ 2048) : (nodeC x []).length ≤ 41100 := by
  rw [node_split]
  have h1 := num_len h.1.1 h.1.2
  have h2 := num_len h.2.1.1 h.2.1.2
  have h3 := num_len h.2.2.1.1 h.2.2.1.2
  have h4 := num_len h.2.2.2.1.1 h.2.2.2.1.2
  have h5 := nums_len h.2.2.2.2.1 hk
  simp only [List.length_append]
  omega
theorem idB_nm {i : Int} (h : idB i = true) : NmP i := by
  unfold idB at h
  simp only [Bool.and_eq_true, decide_eq_true_eq] at h
  exact nm_small h.1 (by omega)
theorem stp {kd id nd fr tt : Int} {ks : List Int} (a : NmP kd) (b : NmP id) (c : NmP nd) (d : NmP fr) (e : NmP tt) (f : ∀ k ∈ ks, NmP k) (g : ks.length ≤ 2048) : StP ⟨kd, id, nd, fr, tt, ks⟩ ∧ ks.length ≤ 2048 := ⟨⟨a, b, c, d, e, f, Nat.le_trans g (by decide)⟩, g⟩
theorem no_kids {P : Int → Prop} : ∀ k ∈ ([] : List Int), P k := fun k hk => by cases hk
theorem may_step {s : St} (h : stepMay s = true) : StP s ∧ s.kids.length ≤ 2048 := by
  unfold stepMay at h
  simp only [Bool.and_eq_true, Bool.or_eq_true, beq_iff_eq, decide_eq_true_eq, List.isEmpty_iff, List.all_eq_true] at h
  obtain ⟨hi, h⟩ := h
  have z : NmP 0 := nm_small (Int.le_refl _) (by decide)
  have hid := idB_nm hi
  obtain ⟨kd, id, nd, fr, tt, ks⟩ := s
  dsimp only at *
  rcases h with ((⟨⟨⟨⟨rfl, rfl⟩, rfl⟩, rfl⟩, rfl⟩ | ⟨⟨⟨⟨⟨rfl, h1⟩, h2⟩, rfl⟩, rfl⟩, rfl⟩) | ⟨⟨⟨⟨⟨rfl, rfl⟩, rfl⟩, rfl⟩, h5⟩, h6⟩) | ⟨⟨⟨⟨⟨rfl, rfl⟩, h3⟩, h4⟩, h5⟩, rfl⟩
  · exact stp z hid z z z no_kids (by simp)
  · exact stp (nm_small (by decide) (by decide)) hid (nm_small h1 (by omega)) z z no_kids (by simp)
  · exact stp (nm_small (by decide) (by decide)) hid z z z (fun k hk => idB_nm (h5 k hk)) h6
  · exact stp (nm_small (by decide) (by decide)) hid z (nm_small h3 (by omega)) (nm_small (by omega) (by omega)) no_kids (by simp)
theorem step_len {s : St} (h : StP s) (hk : s.kids.length ≤ 2048) : (stepC s []).length ≤ 41100 := by
  rw [step_split]
  have h1 := num_len h.1.1 h.1.2
  have h2 := num_len h.2.1.1 h.2.1.2
  have h3 := num_len h.2.2.1.1 h.2.2.1.2
  have h4 := num_len h.2.2.2.1.1 h.2.2.2.1.2
  have h5 := num_len h.2.2.2.2.1.1 h.2.2.2.2.1.2
  have h6 := nums_len h.2.2.2.2.2.1 hk
  simp only [List.length_append]
  omega
theorem may_comps {cs : List C} (h : MayP cs) : cs.length ≤ 4096 ∧ ∀ c ∈ cs, CpP c ∧ (compC c []).length ≤ 4200 := by
  obtain ⟨h1, h2, _⟩ := K.okB_iff.1 h.1
  refine ⟨h1, fun c hc => ?_⟩
  unfold compC
  rcases h2 c hc with ⟨hk, h0, hn, ht⟩ | ⟨hk, hn, ht⟩
  · refine ⟨.inr ⟨hk, h0, by omega⟩, ?_⟩
    have := num_len h0 (by omega : c.n ≤ 9223372036854775807)
    rcases hk with hk | hk <;> rw [hk] <;> simp <;> omega
  · refine ⟨.inl ⟨hk, by omega⟩, ?_⟩
    have := str_len (bytesOf c.t) (by rw [bytes_len]; omega)
    rw [bytes_len] at this
    rw [if_pos hk, List.length_cons]
    omega
theorem comps_len {cs : List C} (h : MayP cs) : (listC compC cs []).length ≤ 17300000 := by
  have h1 := may_comps h
  have := list_len comp_app (M := 4200) (fun c hc => (h1.2 c hc).2) (by omega)
  have := Nat.mul_le_mul_right 4200 h1.1
  omega
theorem may_entry {e : En} (h : EnMay e) : EnP e ∧ (entC e []).length ≤ 400000000 := by
  obtain ⟨a1, a2, a3, a4, a5, a6, a7⟩ := h
  have n1 : NmP e.cl := nm_small a1 (by omega)
  have n2 : NmP e.sq := nm_small (by omega) (by omega)
  have c1 := may_comps a5
  refine ⟨⟨n1, n2, fun c hc => (c1.2 c hc).1, fun s hs => (may_step (a7 s hs)).1, by omega, by omega⟩, ?_⟩
  rw [ent_split]
  have h1 := num_len n1.1 n1.2
  have h2 := num_len n2.1 n2.2
  have h3 := comps_len a5
  have h4 := num_len (n := (e.dl.length : Int)) (by omega) (by omega)
  have h5 := row_len step_app (M := 41100) (fun s hs => step_len (may_step (a7 s hs)).1 (may_step (a7 s hs)).2)
  have h6 := Nat.mul_le_mul_right 41100 a6
  simp only [List.length_append]
  omega
theorem tree_len {ns : List Nd} {root next size : Int} (h : mayB ns root next size = true) : (treeC root next ns []).length ≤ 100000000 := by
  obtain ⟨h1, h2, h3, h4⟩ := may_nodes h
  unfold treeC
  rw [num_app.nil root, num_app.nil next]
  have := num_len h2.1 h2.2
  have := num_len h3.1 h3.2
  have := list_len node_app (M := 41100) (fun x hx => node_len (h4 x hx).1 (h4 x hx).2) (by omega)
  have := Nat.mul_le_mul_right 41100 h1
  simp only [List.length_append]
  omega

end Go.Proofs.YtjmfjlffcopnnaaGreatDoor

namespace Go.Proofs.YtjmfjlffcopnnaaGreatDoor
open Go.Proofs.YtjmfjlffcopnnaaGreatDoor.K (C)

/-- What is left of the text; is it bad? -/
abbrev Ts := List UInt8 × Bool
def isDg (c : UInt8) : Bool := decide (48 ≤ c.toNat) && decide (c.toNat ≤ 57)
def dgs (l : List UInt8) : List UInt8 := (l.take 9).takeWhile isDg
def pDig (e : UInt8) (t : Ts) : Int × Ts :=
  match dgs t.1, t.1.drop (dgs t.1).length with
  | [], r => (0, r, true)
  | _ :: _, [] => (0, [], true)
  | d :: ds, c :: r => if c = e then ((valD 0 (d :: ds) : Nat), r, t.2) else (0, c :: r, true)
def pNum (t : Ts) : Int × Ts := pDig 44 t
def pCount (t : Ts) : Int × Ts := if ((pNum t).2.1.length : Int) < (pNum t).1 then (0, (pNum t).2.1, true) else pNum t
def pStr (t : Ts) : List UInt8 × Ts :=
  if (pDig 58 t).2.2 = true ∨ ((pDig 58 t).2.1.length : Int) < (pDig 58 t).1 then ([], (pDig 58 t).2.1, true)
  else ((pDig 58 t).2.1.take (pDig 58 t).1.toNat, (pDig 58 t).2.1.drop (pDig 58 t).1.toNat, (pDig 58 t).2.2)
def pRow {α : Type} (f : Ts → α × Ts) : Nat → List α → Ts → List α × Ts
  | 0, acc, t => (acc, t)
  | k + 1, acc, t => if t.2 = true then (acc, t) else pRow f k (acc ++ [(f t).1]) (f t).2
def pList {α : Type} (f : Ts → α × Ts) (t : Ts) : List α × Ts := pRow f (pCount t).1.toNat [] (pCount t).2
/-- A piece, behind its letter. -/
def pComp (c : UInt8) (t : Ts) : C × Ts :=
  if c = 107 then (⟨0, (pNum t).1, ⟨#[]⟩⟩, (pNum t).2)
  else if c = 99 then (⟨2, (pNum t).1, ⟨#[]⟩⟩, (pNum t).2)
  else (⟨1, 0, ⟨(pStr t).1.toArray⟩⟩, (pStr t).2)
def pCompRow : Nat → List C → Ts → List C × Ts
  | 0, acc, t => (acc, t)
  | k + 1, acc, t => if t.2 = true then (acc, t) else match t.1 with
    | [] => ([], [], true)
    | c :: r => pCompRow k (acc ++ [(pComp c (r, t.2)).1]) (pComp c (r, t.2)).2
def pComps (t : Ts) : List C × Ts := pCompRow (pCount t).1.toNat [] (pCount t).2
def pNode (t : Ts) : Nd × Ts :=
  let a := pNum t
  let b := pNum a.2
  let c := pNum b.2
  let d := pNum c.2
  let e := pList pNum d.2
  (⟨a.1, b.1, c.1, d.1, e.1⟩, e.2)
def pStep (t : Ts) : St × Ts :=
  let z := pNum t
  let a := pNum z.2
  let b := pNum a.2
  let c := pNum b.2
  let d := pNum c.2
  let e := pList pNum d.2
  (⟨z.1, a.1, b.1, c.1, d.1, e.1⟩, e.2)
def pTree (t : Ts) : (Int × Int × List Nd) × Ts :=
  let a := pNum t
  let b := pNum a.2
  let c := pList pNode b.2
  ((a.1, b.1, c.1), c.2)
def pEnt (t : Ts) : En × Ts :=
  let a := pNum t
  let b := pNum a.2
  let c := pComps b.2
  let d := pList pStep c.2
  (⟨a.1, b.1, c.1, d.1⟩, d.2)
/-- A message, behind its letter. -/
def pMsg (h : UInt8) (t : Ts) : Ms × Ts :=
  let a := pNum t
  let b := pNum a.2
  if h = 80 then
    let c := pNum b.2
    let d := pComps c.2
    (⟨0, a.1, b.1, c.1, 0, 0, false, ⟨#[]⟩, 0, 0, [], d.1, []⟩, d.2)
  else if h = 67 then
    let c := pList pEnt b.2
    (⟨1, a.1, b.1, 0, 0, 0, false, ⟨#[]⟩, 0, 0, [], [], c.1⟩, c.2)
  else
    let c := pNum b.2
    let d := pNum c.2
    let e := pNum d.2
    let f := pNum e.2
    let g := pStr f.2
    let k := pTree g.2
    (⟨2, a.1, b.1, c.1, d.1, e.1, f.1 == 1, ⟨g.1.toArray⟩, k.1.1, k.1.2.1, k.1.2.2, [], []⟩, k.2)

theorem take_dgs : ∀ (m : Nat) (l : List UInt8) (c : UInt8) (r : List UInt8), l.length ≤ m → (∀ x ∈ l, isDg x = true) → isDg c = false → ((l ++ c :: r).take m).takeWhile isDg = l
  | 0, [], c, r, _, _, _ => by simp
  | m + 1, [], c, r, _, _, hc => by simp [hc]
  | 0, x :: l, c, r, h, _, _ => by simp at h
  | m + 1, x :: l, c, r, h, hl, hc => by
    have ih := take_dgs m l c r (by simpa using h) (fun y hy => hl y (List.mem_cons_of_mem _ hy)) hc
    rw [List.cons_append, List.take_succ_cons, List.takeWhile_cons, if_pos (hl x (List.mem_cons_self ..)), ih]
theorem isDg_dgB {c : UInt8} : isDg c = true ↔ dgB c := by
  unfold isDg dgB
  simp
theorem decL_short {n : Nat} (h : n < 1000000000) : (decL n).length ≤ 9 := Nat.le_trans (decL_mono (Nat.le_of_lt_succ h)) (by decide +kernel)
theorem dgs_dec {n : Nat} (h : n < 1000000000) {c : UInt8} (hc : isDg c = false) (r : List UInt8) : dgs (decL n ++ c :: r) = decL n := take_dgs 9 _ c r (decL_short h) (fun x hx => isDg_dgB.2 (decL_dg n x hx)) hc
theorem decL_ne (n : Nat) : decL n ≠ [] := decA_ne _ _ _ (by omega)
theorem dig_rt {n : Nat} (h : n < 1000000000) {c : UInt8} (hc : isDg c = false) (r : List UInt8) (b : Bool) : pDig c (decL n ++ c :: r, b) = ((n : Int), r, b) := by
  unfold pDig
  dsimp only
  rw [dgs_dec h hc, List.drop_left]
  have hv := decL_val n
  cases hd : decL n with
  | nil => exact absurd hd (decL_ne n)
  | cons d ds =>
    rw [hd] at hv
    dsimp only
    rw [if_pos rfl, hv]
/-- What is read again as it was packed. -/
def Rt {α : Type} (P : α → Prop) (f : Ts → α × Ts) (g : α → List UInt8 → List UInt8) : Prop := ∀ x r, P x → f (g x r, false) = (x, r, false)
def Sm (x : Int) : Prop := 0 ≤ x ∧ x < 1000000000
theorem num_rt : Rt Sm pNum numC := by
  intro x r h
  have := dig_rt (n := x.toNat) (by have := h.2; omega) (c := 44) (by decide) r false
  unfold pNum numC
  rw [this]
  have : ((x.toNat : Nat) : Int) = x := Int.toNat_of_nonneg h.1
  rw [this]
theorem str_rt : Rt (fun t => t.length < 1000000000) pStr strC := by
  intro t r h
  have := dig_rt (n := t.length) h (c := 58) (by decide) (t ++ r) false
  unfold pStr strC
  rw [this]
  dsimp only
  rw [if_neg (by
    rintro (h | h)
    · simp at h
    · simp at h
      omega)]
  simp
def Gt {α : Type} (g : α → List UInt8 → List UInt8) : Prop := ∀ x r, r.length + 1 ≤ (g x r).length
theorem num_gt : Gt numC := by
  intro x r
  unfold numC
  simp
theorem row_gt {α : Type} {g : α → List UInt8 → List UInt8} (hg : Gt g) (r : List UInt8) : ∀ xs : List α, r.length + xs.length ≤ (rowC g xs r).length
  | [] => by simp [rowC]
  | x :: xs => by
    have ih := row_gt hg r xs
    have h1 : rowC g (x :: xs) r = g x (rowC g xs r) := rfl
    have := hg x (rowC g xs r)
    rw [h1, List.length_cons]
    omega
theorem row_rt {α : Type} {P : α → Prop} {f : Ts → α × Ts} {g : α → List UInt8 → List UInt8} (h : Rt P f g) (r : List UInt8) : ∀ (xs acc : List α), (∀ x ∈ xs, P x) → pRow f xs.length acc (rowC g xs r, false) = (acc ++ xs, r, false)
  | [], acc, _ => by simp [pRow, rowC]
  | x :: xs, acc, hx => by
    have ih := row_rt h r xs (acc ++ [x]) (fun y hy => hx y (List.mem_cons_of_mem _ hy))
    have h1 : rowC g (x :: xs) r = g x (rowC g xs r) := rfl
    have h2 := h x (rowC g xs r) (hx x (List.mem_cons_self ..))
    rw [h1, List.length_cons]
    unfold pRow
    rw [if_neg (by simp), h2, ih]
    simp
theorem count_rt {α : Type} {g : α → List UInt8 → List UInt8} (hg : Gt g) (xs : List α) (r : List UInt8) (hl : xs.length < 1000000000) : pCount (listC g xs r, false) = ((xs.length : Int), rowC g xs r, false) := by
  have h1 := num_rt (xs.length : Int) (rowC g xs r) ⟨by omega, by omega⟩
  unfold pCount listC
  rw [h1]
  dsimp only
  rw [if_neg (by have := row_gt hg r xs; omega)]
theorem list_rt {α : Type} {P : α → Prop} {f : Ts → α × Ts} {g : α → List UInt8 → List UInt8} (h : Rt P f g) (hg : Gt g) : Rt (fun xs : List α => (∀ x ∈ xs, P x) ∧ xs.length < 1000000000) (pList f) (listC g) := by
  intro xs r hx
  unfold pList
  rw [count_rt hg xs r hx.2]
  dsimp only
  rw [Int.toNat_natCast, row_rt h r xs [] hx.1, List.nil_append]
def CpS (c : C) : Prop := (c.k = 1 ∧ c.n = 0 ∧ (bytesOf c.t).length < 1000000000) ∨ ((c.k = 0 ∨ c.k = 2) ∧ Sm c.n ∧ c.t = ⟨#[]⟩)
theorem comp_rt (c : C) (r : List UInt8) (h : CpS c) : ∃ k, compC c r = k :: (compC c r).tail ∧ pComp k ((compC c r).tail, false) = (c, r, false) := by
  obtain ⟨k, n, t⟩ := c
  unfold compC pComp
  simp only [CpS] at h
  rcases h with ⟨rfl, rfl, ht⟩ | ⟨rfl | rfl, hn, rfl⟩
  · refine ⟨112, by simp, ?_⟩
    have := str_rt (bytesOf t) r ht
    have e : (⟨(bytesOf t).toArray⟩ : ByteArray) = t := by simp [bytesOf]
    simp [this, e]
  · refine ⟨107, by simp, ?_⟩
    have := num_rt n r hn
    simp [this]
  · refine ⟨99, by simp, ?_⟩
    have := num_rt n r hn
    simp [this]
theorem comp_gt : Gt compC := by
  intro x r
  unfold compC strC numC
  split
  · simp; omega
  split <;> simp <;> omega
theorem compRow_rt (r : List UInt8) : ∀ (xs acc : List C), (∀ x ∈ xs, CpS x) → pCompRow xs.length acc (rowC compC xs r, false) = (acc ++ xs, r, false)
  | [], acc, _ => by simp [pCompRow, rowC]
  | x :: xs, acc, hx => by
    have ih := compRow_rt r xs (acc ++ [x]) (fun y hy => hx y (List.mem_cons_of_mem _ hy))
    have h1 : rowC compC (x :: xs) r = compC x (rowC compC xs r) := rfl
    obtain ⟨k, h2, h3⟩ := comp_rt x (rowC compC xs r) (hx x (List.mem_cons_self ..))
    rw [h1, List.length_cons, h2]
    unfold pCompRow
    rw [if_neg (by simp)]
    dsimp only
    rw [h3, ih]
    simp
theorem comps_rt : Rt (fun xs : List C => (∀ x ∈ xs, CpS x) ∧ xs.length < 1000000000) pComps (listC compC) := by
  intro xs r hx
  unfold pComps
  rw [count_rt comp_gt xs r hx.2]
  dsimp only
  rw [Int.toNat_natCast, compRow_rt r xs [] hx.1, List.nil_append]
def NsS (l : List Int) : Prop := (∀ x ∈ l, Sm x) ∧ l.length < 1000000000
theorem nums_rt : Rt NsS (pList pNum) (listC numC) := list_rt num_rt num_gt
def NdS (x : Nd) : Prop := Sm x.id ∧ Sm x.kd ∧ Sm x.fr ∧ Sm (Nd.to x) ∧ NsS x.kids
def StS (x : St) : Prop := Sm x.kd ∧ Sm x.id ∧ Sm x.nd ∧ Sm x.fr ∧ Sm (St.to x) ∧ NsS x.kids
theorem node_rt : Rt NdS pNode nodeC := by
  intro x r h
  unfold pNode nodeC
  simp only [num_rt x.id _ h.1, num_rt x.kd _ h.2.1, num_rt x.fr _ h.2.2.1, num_rt (Nd.to x) _ h.2.2.2.1, nums_rt x.kids r h.2.2.2.2]
theorem step_rt : Rt StS pStep stepC := by
  intro x r h
  unfold pStep stepC
  simp only [num_rt x.kd _ h.1, num_rt x.id _ h.2.1, num_rt x.nd _ h.2.2.1, num_rt x.fr _ h.2.2.2.1, num_rt (St.to x) _ h.2.2.2.2.1, nums_rt x.kids r h.2.2.2.2.2]
theorem numC_len (x : Int) (r : List UInt8) : r.length + 1 ≤ (numC x r).length := num_gt x r
theorem listC_len {α : Type} {g : α → List UInt8 → List UInt8} (hg : Gt g) (xs : List α) (r : List UInt8) : r.length + 1 ≤ (listC g xs r).length := by
  unfold listC
  have := numC_len (xs.length : Int) (rowC g xs r)
  have := row_gt hg r xs
  omega
theorem node_gt : Gt nodeC := by
  intro x r
  unfold nodeC
  have h1 := listC_len num_gt x.kids r
  have h2 := numC_len (Nd.to x) (listC numC x.kids r)
  have h3 := numC_len x.fr (numC (Nd.to x) (listC numC x.kids r))
  have h4 := numC_len x.kd (numC x.fr (numC (Nd.to x) (listC numC x.kids r)))
  have h5 := numC_len x.id (numC x.kd (numC x.fr (numC (Nd.to x) (listC numC x.kids r))))
  omega
theorem step_gt : Gt stepC := by
  intro x r
  unfold stepC
  have h1 := listC_len num_gt x.kids r
  have h2 := numC_len (St.to x) (listC numC x.kids r)
  have h3 := numC_len x.fr (numC (St.to x) (listC numC x.kids r))
  have h4 := numC_len x.nd (numC x.fr (numC (St.to x) (listC numC x.kids r)))
  have h5 := numC_len x.id (numC x.nd (numC x.fr (numC (St.to x) (listC numC x.kids r))))
  have h6 := numC_len x.kd (numC x.id (numC x.nd (numC x.fr (numC (St.to x) (listC numC x.kids r)))))
  omega
def EnS (e : En) : Prop := Sm e.cl ∧ Sm e.sq ∧ ((∀ x ∈ e.ed, CpS x) ∧ e.ed.length < 1000000000) ∧ ((∀ x ∈ e.dl, StS x) ∧ e.dl.length < 1000000000)
theorem ent_rt : Rt EnS pEnt entC := by
  intro x r h
  unfold pEnt entC
  simp only [num_rt x.cl _ h.1, num_rt x.sq _ h.2.1, comps_rt x.ed _ h.2.2.1, list_rt step_rt step_gt x.dl r h.2.2.2]
theorem ent_gt : Gt entC := by
  intro x r
  unfold entC
  have h1 := listC_len step_gt x.dl r
  have h2 := listC_len comp_gt x.ed (listC stepC x.dl r)
  have h3 := numC_len x.sq (listC compC x.ed (listC stepC x.dl r))
  have h4 := numC_len x.cl (numC x.sq (listC compC x.ed (listC stepC x.dl r)))
  omega

end Go.Proofs.YtjmfjlffcopnnaaGreatDoor
