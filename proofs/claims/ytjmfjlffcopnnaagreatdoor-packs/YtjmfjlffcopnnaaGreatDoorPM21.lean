/-
  PgM, PkB, PgN, in one text. Conditions: as each theorem's premises say.
-/
import Derived.Test.YtjmfjlffcopnnaaGreatDoorPM16
import Derived.Test.YtjmfjlffcopnnaaGreatDoorPM20
namespace Go.Proofs.YtjmfjlffcopnnaaGreatDoor
open Go.Proofs.YtjmfjlffcopnnaaGreatDoor.K (C)

/-- What is left of the text; is it bad? -/
abbrev Ts := List UInt8 × Bool
def isDg (c : UInt8) : Bool := decide (48 ≤ c.toNat) && decide (c.toNat ≤ 57)
def dgs (l : List UInt8) : List UInt8 := (l.take 9).takeWhile isDg
def pDig (e : UInt8) (t : Ts) : Int × Ts :=
  match dgs t.1, t.1.drop (dgs t.1).length with
  | [], r => (0, r, true)
  | _ :: _, [] => (0, [], true)
  | d :: ds, c :: r => if c = e then ((valD 0 (d :: ds) : Nat), r, t.2) else (0, c :: r, true)
def pNum (t : Ts) : Int × Ts := pDig 44 t
def pCount (t : Ts) : Int × Ts := if ((pNum t).2.1.length : Int) < (pNum t).1 then (0, (pNum t).2.1, true) else pNum t
def pStr (t : Ts) : List UInt8 × Ts :=
  if (pDig 58 t).2.2 = true ∨ ((pDig 58 t).2.1.length : Int) < (pDig 58 t).1 then ([], (pDig 58 t).2.1, true)
  else ((pDig 58 t).2.1.take (pDig 58 t).1.toNat, (pDig 58 t).2.1.drop (pDig 58 t).1.toNat, (pDig 58 t).2.2)
def pRow {α : Type} (f : Ts → α × Ts) : Nat → List α → Ts → List α × Ts
  | 0, acc, t => (acc, t)
  | k + 1, acc, t => if t.2 = true then (acc, t) else pRow f k (acc ++ [(f t).1]) (f t).2
def pList {α : Type} (f : Ts → α × Ts) (t : Ts) : List α × Ts := pRow f (pCount t).1.toNat [] (pCount t).2
/-- A piece, behind its letter. -/
def pComp (c : UInt8) (t : Ts) : C × Ts :=
  if c = 107 then (⟨0, (pNum t).1, ⟨#[]⟩⟩, (pNum t).2)
  else if c = 99 then (⟨2, (pNum t).1, ⟨#[]⟩⟩, (pNum t).2)
  else (⟨1, 0, ⟨(pStr t).1.toArray⟩⟩, (pStr t).2)
def pCompRow : Nat → List C → Ts → List C × Ts
  | 0, acc, t => (acc, t)
  | k + 1, acc, t => if t.2 = true then (acc, t) else match t.1 with
    | [] => ([], [], true)
    | c :: r => pCompRow k (acc ++ [(pComp c (r, t.2)).1]) (pComp c (r, t.2)).2
def pComps (t : Ts) : List C × Ts := pCompRow (pCount t).1.toNat [] (pCount t).2
def pNode (t : Ts) : Nd × Ts :=
  let a := pNum t
  let b := pNum a.2
  let c := pNum b.2
  let d := pNum c.2
  let e := pList pNum d.2
  (⟨a.1, b.1, c.1, d.1, e.1⟩, e.2)
def pStep (t : Ts) : St × Ts :=
  let z := pNum t
  let a := pNum z.2
  let b := pNum a.2
  let c := pNum b.2
  let d := pNum c.2
  let e := pList pNum d.2
  (⟨z.1, a.1, b.1, c.1, d.1, e.1⟩, e.2)
def pTree (t : Ts) : (Int × Int × List Nd) × Ts :=
  let a := pNum t
  let b := pNum a.2
  let c := pList pNode b.2
  ((a.1, b.1, c.1), c.2)
def pEnt (t : Ts) : En × Ts :=
  let a := pNum t
  let b := pNum a.2
  let c := pComps b.2
  let d := pList pStep c.2
  (⟨a.1, b.1, c.1, d.1⟩, d.2)
/-- A message, behind its letter. -/
def pMsg (h : UInt8) (t : Ts) : Ms × Ts :=
  let a := pNum t
  let b := pNum a.2
  if h = 80 then
    let c := pNum b.2
    let d := pComps c.2
    (⟨0, a.1, b.1, c.1, 0, 0, false, ⟨#[]⟩, 0, 0, [], d.1, []⟩, d.2)
  else if h = 67 then
    let c := pList pEnt b.2
    (⟨1, a.1, b.1, 0, 0, 0, false, ⟨#[]⟩, 0, 0, [], [], c.1⟩, c.2)
  else
    let c := pNum b.2
    let d := pNum c.2
    let e := pNum d.2
    let f := pNum e.2
    let g := pStr f.2
    let k := pTree g.2
    (⟨2, a.1, b.1, c.1, d.1, e.1, f.1 == 1, ⟨g.1.toArray⟩, k.1.1, k.1.2.1, k.1.2.2, [], []⟩, k.2)

theorem take_dgs : ∀ (m : Nat) (l : List UInt8) (c : UInt8) (r : List UInt8), l.length ≤ m → (∀ x ∈ l, isDg x = true) → isDg c = false → ((l ++ c :: r).take m).takeWhile isDg = l
  | 0, [], c, r, _, _, _ => by simp
  | m + 1, [], c, r, _, _, hc => by simp [hc]
  | 0, x :: l, c, r, h, _, _ => by simp at h
  | m + 1, x :: l, c, r, h, hl, hc => by
    have ih := take_dgs m l c r (by simpa using h) (fun y hy => hl y (List.mem_cons_of_mem _ hy)) hc
    rw [List.cons_append, List.take_succ_cons, List.takeWhile_cons, if_pos (hl x (List.mem_cons_self ..)), ih]
theorem isDg_dgB {c : UInt8} : isDg c = true ↔ dgB c := by
  unfold isDg dgB
  simp
theorem decL_short {n : Nat} (h : n < 1000000000) : (decL n).length ≤ 9 := Nat.le_trans (decL_mono (Nat.le_of_lt_succ h)) (by decide +kernel)
theorem dgs_dec {n : Nat} (h : n < 1000000000) {c : UInt8} (hc : isDg c = false) (r : List UInt8) : dgs (decL n ++ c :: r) = decL n := take_dgs 9 _ c r (decL_short h) (fun x hx => isDg_dgB.2 (decL_dg n x hx)) hc
theorem decL_ne (n : Nat) : decL n ≠ [] := decA_ne _ _ _ (by omega)
theorem dig_rt {n : Nat} (h : n < 1000000000) {c : UInt8} (hc : isDg c = false) (r : List UInt8) (b : Bool) : pDig c (decL n ++ c :: r, b) = ((n : Int), r, b) := by
  unfold pDig
  dsimp only
  rw [dgs_dec h hc, List.drop_left]
  have hv := decL_val n
  cases hd : decL n with
  | nil => exact absurd hd (decL_ne n)
  | cons d ds =>
    rw [hd] at hv
    dsimp only
    rw [if_pos rfl, hv]
/-- What is read again as it was packed. -/
def Rt {α : Type} (P : α → Prop) (f : Ts → α × Ts) (g : α → List UInt8 → List UInt8) : Prop := ∀ x r, P x → f (g x r, false) = (x, r, false)
def Sm (x : Int) : Prop := 0 ≤ x ∧ x < 1000000000
theorem num_rt : Rt Sm pNum numC := by
  intro x r h
  have := dig_rt (n := x.toNat) (by have := h.2; omega) (c := 44) (by decide) r false
  unfold pNum numC
  rw [this]
  have : ((x.toNat : Nat) : Int) = x := Int.toNat_of_nonneg h.1
  rw [this]
theorem str_rt : Rt (fun t => t.length < 1000000000) pStr strC := by
  intro t r h
  have := dig_rt (n := t.length) h (c := 58) (by decide) (t ++ r) false
  unfold pStr strC
  rw [this]
  dsimp only
  rw [if_neg (by
    rintro (h | h)
    · simp at h
    · simp at h
      omega)]
  simp
def Gt {α : Type} (g : α → List UInt8 → List UInt8) : Prop := ∀ x r, r.length + 1 ≤ (g x r).length
theorem num_gt : Gt numC := by
  intro x r
  unfold numC
  simp
theorem row_gt {α : Type} {g : α → List UInt8 → List UInt8} (hg : Gt g) (r : List UInt8) : ∀ xs : List α, r.length + xs.length ≤ (rowC g xs r).length
  | [] => by simp [rowC]
  | x :: xs => by
    have ih := row_gt hg r xs
    have h1 : rowC g (x :: xs) r = g x (rowC g xs r) := rfl
    have := hg x (rowC g xs r)
    rw [h1, List.length_cons]
    omega
theorem row_rt {α : Type} {P : α → Prop} {f : Ts → α × Ts} {g : α → List UInt8 → List UInt8} (h : Rt P f g) (r : List UInt8) : ∀ (xs acc : List α), (∀ x ∈ xs, P x) → pRow f xs.length acc (rowC g xs r, false) = (acc ++ xs, r, false)
  | [], acc, _ => by simp [pRow, rowC]
  | x :: xs, acc, hx => by
    have ih := row_rt h r xs (acc ++ [x]) (fun y hy => hx y (List.mem_cons_of_mem _ hy))
    have h1 : rowC g (x :: xs) r = g x (rowC g xs r) := rfl
    have h2 := h x (rowC g xs r) (hx x (List.mem_cons_self ..))
    rw [h1, List.length_cons]
    unfold pRow
    rw [if_neg (by simp), h2, ih]
    simp
theorem count_rt {α : Type} {g : α → List UInt8 → List UInt8} (hg : Gt g) (xs : List α) (r : List UInt8) (hl : xs.length < 1000000000) : pCount (listC g xs r, false) = ((xs.length : Int), rowC g xs r, false) := by
  have h1 := num_rt (xs.length : Int) (rowC g xs r) ⟨by omega, by omega⟩
  unfold pCount listC
  rw [h1]
  dsimp only
  rw [if_neg (by have := row_gt hg r xs; omega)]
theorem list_rt {α : Type} {P : α → Prop} {f : Ts → α × Ts} {g : α → List UInt8 → List UInt8} (h : Rt P f g) (hg : Gt g) : Rt (fun xs : List α => (∀ x ∈ xs, P x) ∧ xs.length < 1000000000) (pList f) (listC g) := by
  intro xs r hx
  unfold pList
  rw [count_rt hg xs r hx.2]
  dsimp only
  rw [Int.toNat_natCast, row_rt h r xs [] hx.1, List.nil_append]
def CpS (c : C) : Prop := (c.k = 1 ∧ c.n = 0 ∧ (bytesOf c.t).length < 1000000000) ∨ ((c.k = 0 ∨ c.k = 2) ∧ Sm c.n ∧ c.t = ⟨#[]⟩)
theorem comp_rt (c : C) (r : List UInt8) (h : CpS c) : ∃ k, compC c r = k :: (compC c r).tail ∧ pComp k ((compC c r).tail, false) = (c, r, false) := by
  obtain ⟨k, n, t⟩ := c
  unfold compC pComp
  simp only [CpS] at h
  rcases h with ⟨rfl, rfl, ht⟩ | ⟨rfl | rfl, hn, rfl⟩
  · refine ⟨112, by simp, ?_⟩
    have := str_rt (bytesOf t) r ht
    have e : (⟨(bytesOf t).toArray⟩ : ByteArray) = t := by simp [bytesOf]
    simp [this, e]
  · refine ⟨107, by simp, ?_⟩
    have := num_rt n r hn
    simp [this]
  · refine ⟨99, by simp, ?_⟩
    have := num_rt n r hn
    simp [this]
theorem comp_gt : Gt compC := by
  intro x r
  unfold compC strC numC
  split
  · simp; omega
  split <;> simp <;> omega
theorem compRow_rt (r : List UInt8) : ∀ (xs acc : List C), (∀ x ∈ xs, CpS x) → pCompRow xs.length acc (rowC compC xs r, false) = (acc ++ xs, r, false)
  | [], acc, _ => by simp [pCompRow, rowC]
  | x :: xs, acc, hx => by
    have ih := compRow_rt r xs (acc ++ [x]) (fun y hy => hx y (List.mem_cons_of_mem _ hy))
    have h1 : rowC compC (x :: xs) r = compC x (rowC compC xs r) := rfl
    obtain ⟨k, h2, h3⟩ := comp_rt x (rowC compC xs r) (hx x (List.mem_cons_self ..))
    rw [h1, List.length_cons, h2]
    unfold pCompRow
    rw [if_neg (by simp)]
    dsimp only
    rw [h3, ih]
    simp
theorem comps_rt : Rt (fun xs : List C => (∀ x ∈ xs, CpS x) ∧ xs.length < 1000000000) pComps (listC compC) := by
  intro xs r hx
  unfold pComps
  rw [count_rt comp_gt xs r hx.2]
  dsimp only
  rw [Int.toNat_natCast, compRow_rt r xs [] hx.1, List.nil_append]
def NsS (l : List Int) : Prop := (∀ x ∈ l, Sm x) ∧ l.length < 1000000000
theorem nums_rt : Rt NsS (pList pNum) (listC numC) := list_rt num_rt num_gt
def NdS (x : Nd) : Prop := Sm x.id ∧ Sm x.kd ∧ Sm x.fr ∧ Sm (Nd.to x) ∧ NsS x.kids
def StS (x : St) : Prop := Sm x.kd ∧ Sm x.id ∧ Sm x.nd ∧ Sm x.fr ∧ Sm (St.to x) ∧ NsS x.kids
theorem node_rt : Rt NdS pNode nodeC := by
  intro x r h
  unfold pNode nodeC
  simp only [num_rt x.id _ h.1, num_rt x.kd _ h.2.1, num_rt x.fr _ h.2.2.1, num_rt (Nd.to x) _ h.2.2.2.1, nums_rt x.kids r h.2.2.2.2]
theorem step_rt : Rt StS pStep stepC := by
  intro x r h
  unfold pStep stepC
  simp only [num_rt x.kd _ h.1, num_rt x.id _ h.2.1, num_rt x.nd _ h.2.2.1, num_rt x.fr _ h.2.2.2.1, num_rt (St.to x) _ h.2.2.2.2.1, nums_rt x.kids r h.2.2.2.2.2]
theorem numC_len (x : Int) (r : List UInt8) : r.length + 1 ≤ (numC x r).length := num_gt x r
theorem listC_len {α : Type} {g : α → List UInt8 → List UInt8} (hg : Gt g) (xs : List α) (r : List UInt8) : r.length + 1 ≤ (listC g xs r).length := by
  unfold listC
  have := numC_len (xs.length : Int) (rowC g xs r)
  have := row_gt hg r xs
  omega
theorem node_gt : Gt nodeC := by
  intro x r
  unfold nodeC
  have h1 := listC_len num_gt x.kids r
  have h2 := numC_len (Nd.to x) (listC numC x.kids r)
  have h3 := numC_len x.fr (numC (Nd.to x) (listC numC x.kids r))
  have h4 := numC_len x.kd (numC x.fr (numC (Nd.to x) (listC numC x.kids r)))
  have h5 := numC_len x.id (numC x.kd (numC x.fr (numC (Nd.to x) (listC numC x.kids r))))
  omega
theorem step_gt : Gt stepC := by
  intro x r
  unfold stepC
  have h1 := listC_len num_gt x.kids r
  have h2 := numC_len (St.to x) (listC numC x.kids r)
  have h3 := numC_len x.fr (numC (St.to x) (listC numC x.kids r))
  have h4 := numC_len x.nd (numC x.fr (numC (St.to x) (listC numC x.kids r)))
  have h5 := numC_len x.id (numC x.nd (numC x.fr (numC (St.to x) (listC numC x.kids r))))
  have h6 := numC_len x.kd (numC x.id (numC x.nd (numC x.fr (numC (St.to x) (listC numC x.kids r)))))
  omega
def EnS (e : En) : Prop := Sm e.cl ∧ Sm e.sq ∧ ((∀ x ∈ e.ed, CpS x) ∧ e.ed.length < 1000000000) ∧ ((∀ x ∈ e.dl, StS x) ∧ e.dl.length < 1000000000)
theorem ent_rt : Rt EnS pEnt entC := by
  intro x r h
  unfold pEnt entC
  simp only [num_rt x.cl _ h.1, num_rt x.sq _ h.2.1, comps_rt x.ed _ h.2.2.1, list_rt step_rt step_gt x.dl r h.2.2.2]
theorem ent_gt : Gt entC := by
  intro x r
  unfold entC
  have h1 := listC_len step_gt x.dl r
  have h2 := listC_len comp_gt x.ed (listC stepC x.dl r)
  have h3 := numC_len x.sq (listC compC x.ed (listC stepC x.dl r))
  have h4 := numC_len x.cl (numC x.sq (listC compC x.ed (listC stepC x.dl r)))
  omega

end Go.Proofs.YtjmfjlffcopnnaaGreatDoor

namespace Go.Proofs.YtjmfjlffcopnnaaGreatDoor
open Go.RowKit
open Go.Proofs.YtjmfjlffcopnnaaGreatDoor.K (C RowC PieceAt MayP rcmay_any)

/-- What PutMsg answers. -/
def PutP (m : Ms) (w : World) (e : Ending) (w' : World) : Prop := Below w.heap.size w w' ∧
  ((MsMay m ∧ (msgC m []).length ≤ 1000000 ∧ ∃ z : ByteArray, e = .returned (.tuple #[.string z, .int .i64 0]) ∧ bytesOf z = msgC m [])
  ∨ (¬ (MsMay m ∧ (msgC m []).length ≤ 1000000) ∧ e = .returned (.tuple #[.string ⟨#[]⟩, .int .i64 1700])))
def PutC (m : Ms) (q : Mq) (w : World) : Prop := Calls Tryz.prog 7 #[msV m q] w (PutP m w)
theorem ltr_0 : bytesOf ((⟨#[80, 67, 83]⟩ : ByteArray).extract 0 1) = [80] := by decide +kernel
theorem ltr_1 : bytesOf ((⟨#[80, 67, 83]⟩ : ByteArray).extract 1 2) = [67] := by decide +kernel
theorem ltr_2 : bytesOf ((⟨#[80, 67, 83]⟩ : ByteArray).extract 2 3) = [83] := by decide +kernel
theorem msg_poll {m : Ms} (hk : m.kd = 0) : msgC m [] = [80] ++ (numC m.cl [] ++ (numC m.rv [] ++ (numC m.sq [] ++ listC compC m.ed []))) := by
  unfold msgC
  rw [if_pos hk, num_app.nil m.cl, num_app.nil m.rv, num_app.nil m.sq]
  rfl
theorem msg_changes {m : Ms} (hk : m.kd = 1) : msgC m [] = [67] ++ (numC m.cl [] ++ (numC m.rv [] ++ (numC (m.es.length : Int) [] ++ rowC entC m.es []))) := by
  unfold msgC
  rw [if_neg (by rw [hk]; decide), if_pos hk, num_app.nil m.cl, num_app.nil m.rv, list_split]
  rfl
theorem msg_snap {m : Ms} (hk : m.kd = 2) : msgC m [] = [83] ++ (numC m.cl [] ++ (numC m.rv [] ++ (numC m.sq [] ++ (numC m.fr [] ++ (numC m.ls [] ++ (numC (if m.rf then 1 else 0) [] ++ (strC (bytesOf m.tx) [] ++ treeC m.ro m.nx m.ns []))))))) := by
  unfold msgC
  rw [if_neg (by rw [hk]; decide), if_neg (by rw [hk]; decide), num_app.nil m.cl, num_app.nil m.rv, num_app.nil m.sq, num_app.nil m.fr, num_app.nil m.ls, num_app.nil (if m.rf then 1 else 0), str_app.nil]
  rfl

set_option maxRecDepth 100000 in
set_option maxHeartbeats 4000000 in
theorem put_no (m : Ms) (q : Mq) (w : World) (hz : MsZ m) (hr : MsR w m q) (hm : ¬ MsMay m) : PutC m q w := by
  have HMM : Hid (∀ W, Bl w W → Calls Tryz.prog 13 #[msV m q] W (Tells (MsMay m) W)) := Lib.hid (fun W hW => msgMay_any m q W hz (hr.below hW))
  have NO := Lib.hid hm
  clear hm hz hr
  unfold PutC PutP
  generalize MsMay m = P at HMM NO ⊢
  generalize msgC m [] = L
  obtain ⟨kd, cl, rv, sq, fr, ls, rf, tx, ro, nx, ns, ed, es⟩ := m
  obtain ⟨ep, ec, sp, sc, np, nc⟩ := q
  unfold msV at HMM ⊢
  dsimp only at *
  generalize ed.length = en at *
  generalize es.length = sn at *
  generalize ns.length = nn at *
  go_enter Tryz.func7, Tryz.ntmps7
  go_wp2_with (go_at_call 13; refine (HMM.out _ (Bl.alloc (Bl.refl _) _)).mono ?_; rintro e w1 ⟨hb1, ⟨rfl, hy⟩ | ⟨rfl, hy⟩⟩; exact absurd hy NO.out; have A1 := Lib.hid hb1; clear hb1)
  go_ret2
  exact ⟨(below1 (Below.refl _ _) (Nat.le_refl _) _).trans (A1.out.mono (below1 (Below.refl _ _) (Nat.le_refl _) _).size), .inr ⟨fun h => NO.out h.1, rfl⟩⟩

set_option maxRecDepth 100000 in
set_option maxHeartbeats 4000000 in
theorem put_poll (m : Ms) (q : Mq) (w : World) (hz : MsZ m) (hr : MsR w m q) (hm : MsMay m) (hk : m.kd = 0) : PutC m q w := by
  unfold PutC PutP
  obtain ⟨MC, hMC⟩ : ∃ MC, msgC m [] = MC := ⟨_, rfl⟩
  rw [hMC]
  rw [msg_poll hk] at hMC
  have HMC := Lib.hid hMC.symm
  clear hMC
  have hel := hz.ed
  have hsl := hz.es
  have hnl := hz.ns
  have htl := hz.tx
  have HMM : Hid (∀ W, Bl w W → Calls Tryz.prog 13 #[msV m q] W (Tells (MsMay m) W)) := Lib.hid (fun W hW => msgMay_any m q W hz (hr.below hW))
  have MM := Lib.hid hm
  have HD := hm.1
  have MP : MayP m.ed := by
    rcases hm.2 with h | h | h
    · exact h.2.2.2.1
    · rw [hk] at h; cases h.1
    · rw [hk] at h; cases h.1
  have CL := comps_len MP
  have CT : Hid (∀ W, Bl w W → Calls Tryz.prog 24 #[.slice q.ep m.ed.length q.ec] W (TxP (listC compC m.ed []) W)) := Lib.hid (fun W hW => comps_txt q.ep m.ed m.ed.length q.ec rfl W (rowC_below hr.ed hW) (fun c hc => ((may_comps MP).2 c hc).1) hz.ed (by omega))
  obtain ⟨kd, cl, rv, sq, fr, ls, rf, tx, ro, nx, ns, ed, es⟩ := m
  obtain ⟨ep, ec, sp, sc, np, nc⟩ := q
  obtain ⟨a1, a2, a3, a4, a5, a6⟩ := HD
  unfold msV at HMM ⊢
  dsimp only at *
  subst hk
  clear hz hr hm MP
  generalize hen : ed.length = en at *
  generalize es.length = sn at *
  generalize ns.length = nn at *
  clear hen
  have T1 := Lib.hid (fun W => num_txt cl a1 (by omega) W)
  have T2 := Lib.hid (fun W => num_txt rv a3 (by omega) W)
  have E1 := Lib.hid (num_len (n := cl) a1 (by omega))
  have E2 := Lib.hid (num_len (n := rv) a3 (by omega))
  go_enter Tryz.func7, Tryz.ntmps7
  go_upto_region 1 with fail
  have X0 := Lib.hid (heap_alloc_new w (.cells #[.int .i64 0, .int .i64 cl, .int .i64 rv, .int .i64 sq, .int .i64 fr, .int .i64 ls, .bool rf, .slice ep en ec, .slice sp sn sc, .string tx, .int .i64 ro, .int .i64 nx, .slice np nn nc] 28))
  have B0 : Hid (Bl w (w.alloc (.cells #[.int .i64 0, .int .i64 cl, .int .i64 rv, .int .i64 sq, .int .i64 fr, .int .i64 ls, .bool rf, .slice ep en ec, .slice sp sn sc, .string tx, .int .i64 ro, .int .i64 nx, .slice np nn nc] 28))) := Lib.hid (Bl.alloc (Bl.refl w) _)
  generalize w.alloc (.cells #[.int .i64 0, .int .i64 cl, .int .i64 rv, .int .i64 sq, .int .i64 fr, .int .i64 ls, .bool rf, .slice ep en ec, .slice sp sn sc, .string tx, .int .i64 ro, .int .i64 nx, .slice np nn nc] 28) = w0 at X0 B0 ⊢
  generalize hxb : w.heap.size = xb at X0 ⊢
  have HXB := Lib.hid hxb
  clear hxb
  have x0 := (obj_cells X0.out).1 0 _ rfl
  have x1 := (obj_cells X0.out).1 1 _ rfl
  have x2 := (obj_cells X0.out).1 2 _ rfl
  have x3 := (obj_cells X0.out).1 3 _ rfl
  have x4 := (obj_cells X0.out).1 4 _ rfl
  have x5 := (obj_cells X0.out).1 5 _ rfl
  have x6 := (obj_cells X0.out).1 6 _ rfl
  have x7 := (obj_cells X0.out).1 7 _ rfl
  have x8 := (obj_cells X0.out).1 8 _ rfl
  have x9 := (obj_cells X0.out).1 9 _ rfl
  have x10 := (obj_cells X0.out).1 10 _ rfl
  have x11 := (obj_cells X0.out).1 11 _ rfl
  have x12 := (obj_cells X0.out).1 12 _ rfl
  go_upto_region 3 with (go_at_call 13; refine (HMM.out _ B0.out).mono ?_; rintro e w1 ⟨hb1, ⟨rfl, hy⟩ | ⟨rfl, hy⟩⟩; rotate_left; exact absurd MM.out hy; have A1 := Lib.hid hb1; clear hb1)
  have B1 : Hid (Bl w w1) := Lib.hid (B0.out.trans (Below.mono A1.out B0.out.size))
  have X1 := Lib.hid (heap_later X0.out A1.out)
  clear x0 x1 x2 x3 x4 x5 x6 x7 x8 x9 x10 x11 x12
  have q0 : ∀ W, Bl w1 W → W.cell? ⟨xb, 0, none⟩ = some (.int .i64 0) := fun W hW => hW.cell ((obj_cells X1.out).1 0 _ rfl)
  have q1 : ∀ W, Bl w1 W → W.cell? ⟨xb, 1, none⟩ = some (.int .i64 cl) := fun W hW => hW.cell ((obj_cells X1.out).1 1 _ rfl)
  have q2 : ∀ W, Bl w1 W → W.cell? ⟨xb, 2, none⟩ = some (.int .i64 rv) := fun W hW => hW.cell ((obj_cells X1.out).1 2 _ rfl)
  have q3 : ∀ W, Bl w1 W → W.cell? ⟨xb, 3, none⟩ = some (.int .i64 sq) := fun W hW => hW.cell ((obj_cells X1.out).1 3 _ rfl)
  have q4 : ∀ W, Bl w1 W → W.cell? ⟨xb, 4, none⟩ = some (.int .i64 fr) := fun W hW => hW.cell ((obj_cells X1.out).1 4 _ rfl)
  have q5 : ∀ W, Bl w1 W → W.cell? ⟨xb, 5, none⟩ = some (.int .i64 ls) := fun W hW => hW.cell ((obj_cells X1.out).1 5 _ rfl)
  have q6 : ∀ W, Bl w1 W → W.cell? ⟨xb, 6, none⟩ = some (.bool rf) := fun W hW => hW.cell ((obj_cells X1.out).1 6 _ rfl)
  have q7 : ∀ W, Bl w1 W → W.cell? ⟨xb, 7, none⟩ = some (.slice ep en ec) := fun W hW => hW.cell ((obj_cells X1.out).1 7 _ rfl)
  have q8 : ∀ W, Bl w1 W → W.cell? ⟨xb, 8, none⟩ = some (.slice sp sn sc) := fun W hW => hW.cell ((obj_cells X1.out).1 8 _ rfl)
  have q9 : ∀ W, Bl w1 W → W.cell? ⟨xb, 9, none⟩ = some (.string tx) := fun W hW => hW.cell ((obj_cells X1.out).1 9 _ rfl)
  have q10 : ∀ W, Bl w1 W → W.cell? ⟨xb, 10, none⟩ = some (.int .i64 ro) := fun W hW => hW.cell ((obj_cells X1.out).1 10 _ rfl)
  have q11 : ∀ W, Bl w1 W → W.cell? ⟨xb, 11, none⟩ = some (.int .i64 nx) := fun W hW => hW.cell ((obj_cells X1.out).1 11 _ rfl)
  have q12 : ∀ W, Bl w1 W → W.cell? ⟨xb, 12, none⟩ = some (.slice np nn nc) := fun W hW => hW.cell ((obj_cells X1.out).1 12 _ rfl)
  have v0 : IntKind.i64.wrap 0 = 0 := by rfl
  have v1 : IntKind.i64.wrap 1 = 1 := by rfl
  have v2 : IntKind.i64.wrap 2 = 2 := by rfl
  have v3 : IntKind.i64.wrap 3 = 3 := by rfl
  have v4 : IntKind.i64.wrap (0 + 1) = 1 := by rfl
  go_cut [4] (fun v wx => ∃ z : ByteArray, v = .string z ∧ bytesOf z = [80] ++ (numC cl [] ++ numC rv []) ∧ Bl w1 wx)
  case first =>
    have S00 := Bl.refl w1
    go_region_held3 (fun W => Bl w1 W) ((repeat (first | with_reducible assumption | with_reducible refine Bl.alloc ?_ _ | with_reducible refine Bl.drew ?_ | (with_reducible refine Bl.set ?_ ?h _; case h => omega))))
      (first | (go_at_call 23; refine (T1.out _).mono ?_; rintro e w11 ⟨z1, rfl, hz, hb1⟩; have B11 : Bl w1 w11 := Bl.call (by (repeat (first | with_reducible assumption | with_reducible refine Bl.drew ?_))) hb1; have Z1 := Lib.hid hz; have l1 : z1.size ≤ 20 := (by rw [TxP.size hz]; exact E1.out); have s1 : ¬ 9223372036854775807 < 1 + z1.size := (by omega); clear hb1 hz) | (go_at_call 23; refine (T2.out _).mono ?_; rintro e w12 ⟨z2, rfl, hz, hb1⟩; have B12 : Bl w1 w12 := Bl.call (by (repeat (first | with_reducible assumption | with_reducible refine Bl.drew ?_))) hb1; have Z2 := Lib.hid hz; have l2 : z2.size ≤ 20 := (by rw [TxP.size hz]; exact E2.out); have s2 : ¬ 9223372036854775807 < 1 + z1.size + z2.size := (by omega); clear hb1 hz) | fail)
    all_goals
      go_wp2_with fail
      go_meet
      refine ⟨_, rfl, ?_, by assumption⟩
      rw [bytes_app, bytes_app, Z1.out, Z2.out, ltr_0, List.append_assoc]
  case rest =>
    obtain ⟨zz, rfl, hz, hbx⟩ := hcut
    have ZZ := Lib.hid hz; have BX := Lib.hid hbx
    have zl : zz.size ≤ 41 := by
      rw [TxP.size hz]
      have := E1.out
      have := E2.out
      simp only [List.length_append, List.length_singleton]
      omega
    clear hz hbx
    have c0 := q0 _ BX.out
    have CT1 : Hid (∀ W, Bl w1 W → Calls Tryz.prog 24 #[.slice ep en ec] W (TxP (listC compC ed []) W)) := Lib.hid (fun W hW => CT.out W (B1.out.trans (Below.mono hW B1.out.size)))
    have T3 := Lib.hid (fun W => num_txt sq a5 (by omega) W)
    have E3 := Lib.hid (num_len (n := sq) a5 (by omega))
    have E4 := Lib.hid CL
    have S00 := BX.out
    clear CL
    go_upto_region 10 with fail
    go_region_held3 (fun W => Bl w1 W) ((repeat (first | with_reducible assumption | with_reducible refine Bl.alloc ?_ _ | with_reducible refine Bl.drew ?_ | (with_reducible refine Bl.set ?_ ?h _; case h => omega))))
      (first | (go_at_call 23; refine (T3.out _).mono ?_; rintro e w11 ⟨z1, rfl, hz, hb1⟩; have B11 : Bl w1 w11 := Bl.call (by (repeat (first | with_reducible assumption | with_reducible refine Bl.drew ?_))) hb1; have Z1 := Lib.hid hz; have l1 : z1.size ≤ 20 := (by rw [TxP.size hz]; exact E3.out); have s1 : ¬ 9223372036854775807 < zz.size + z1.size := (by omega); clear hb1 hz) | (go_at_call 24; refine (CT1.out _ (by (repeat (first | with_reducible assumption | with_reducible refine Bl.drew ?_)))).mono ?_; rintro e w12 ⟨z2, rfl, hz, hb1⟩; have B12 : Bl w1 w12 := Bl.call (by (repeat (first | with_reducible assumption | with_reducible refine Bl.drew ?_))) hb1; have Z2 := Lib.hid hz; have l2 : z2.size ≤ 17300000 := (by rw [TxP.size hz]; exact E4.out); have s2 : ¬ 9223372036854775807 < zz.size + z1.size + z2.size := (by omega); clear hb1 hz) | fail)
    all_goals
      have BB : Below w.heap.size w w12 := B1.out.trans (Below.mono (by assumption) B1.out.size)
      go_wp2_with fail
    all_goals
      have BY : bytesOf (zz ++ z1 ++ z2) = MC := by
        rw [HMC.out, bytes_app, bytes_app, ZZ.out, Z1.out, Z2.out]
        simp only [List.append_assoc]
      have SZ := TxP.size BY
      simp only [ByteArray.size_append] at SZ
      go_ret2
      first
        | exact ⟨BB, .inl ⟨MM.out, by omega, _, rfl, BY⟩⟩
        | exact ⟨BB, .inr ⟨fun h => by have := h.2; omega, rfl⟩⟩

end Go.Proofs.YtjmfjlffcopnnaaGreatDoor

namespace Go.Proofs.YtjmfjlffcopnnaaGreatDoor
open Go.Proofs.YtjmfjlffcopnnaaGreatDoor.K (C MayP)

theorem sm_small {x : Int} (h0 : 0 ≤ x) (h1 : x ≤ 16777216) : Sm x := ⟨h0, by omega⟩
theorem may_nodesS {ns : List Nd} {root next size : Int} (h : mayB ns root next size = true) : ns.length ≤ 2048 ∧ Sm root ∧ Sm next ∧ ∀ x ∈ ns, NdS x ∧ x.kids.length ≤ 2048 := by
  have Cm := mayC_is.1 h
  have hid : ∀ x ∈ ns, Sm x.id := fun x hx => by
    have hn := nodeOk_is.1 (Cm.node x hx)
    have := Cm.next1
    exact sm_small hn.1.1 (by omega)
  obtain ⟨y, hy, _, hyr, _⟩ := root_node Cm
  refine ⟨Cm.few, by rw [← hyr]; exact hid y hy, sm_small Cm.next0 Cm.next1, fun x hx => ?_⟩
  have hn := nodeOk_is.1 (Cm.node x hx)
  have hs := Cm.size1
  have hk : ∀ c ∈ x.kids, (allKids ns).count c = 1 ∧ Sm c := fun c hc => by
    obtain ⟨h1, _, z, hz, hzc⟩ := kids_once Cm hx hc
    exact ⟨h1, by rw [← hzc]; exact hid z hz⟩
  have hnd : x.kids.Nodup := List.nodup_iff_count.2 fun c => by
    by_cases hc : c ∈ x.kids
    · rw [← (hk c hc).1]
      exact count_kids hx c
    · rw [List.count_eq_zero_of_not_mem hc]
      omega
  have hkl : x.kids.length ≤ 2048 := by
    have := pigeon x.kids (ns.map Nd.id) hnd fun c hc => by
      obtain ⟨_, _, z, hz, hzc⟩ := kids_once Cm hx hc
      exact List.mem_map.2 ⟨z, hz, hzc⟩
    rw [List.length_map] at this
    exact Nat.le_trans this Cm.few
  exact ⟨⟨hid x hx, sm_small hn.2.1 (by omega), sm_small hn.2.2.2.1 (by omega), sm_small (by omega) (by omega), fun c hc => (hk c hc).2, by omega⟩, hkl⟩
theorem idB_sm {i : Int} (h : idB i = true) : Sm i := by
  unfold idB at h
  simp only [Bool.and_eq_true, decide_eq_true_eq] at h
  exact sm_small h.1 (by omega)
theorem stpS {kd id nd fr tt : Int} {ks : List Int} (a : Sm kd) (b : Sm id) (c : Sm nd) (d : Sm fr) (e : Sm tt) (f : ∀ k ∈ ks, Sm k) (g : ks.length ≤ 2048) : StS ⟨kd, id, nd, fr, tt, ks⟩ ∧ ks.length ≤ 2048 := ⟨⟨a, b, c, d, e, f, Nat.lt_of_le_of_lt g (by decide)⟩, g⟩
theorem may_stepS {s : St} (h : stepMay s = true) : StS s ∧ s.kids.length ≤ 2048 := by
  unfold stepMay at h
  simp only [Bool.and_eq_true, Bool.or_eq_true, beq_iff_eq, decide_eq_true_eq, List.isEmpty_iff, List.all_eq_true] at h
  obtain ⟨hi, h⟩ := h
  have z : Sm 0 := sm_small (Int.le_refl _) (by decide)
  have hid := idB_sm hi
  obtain ⟨kd, id, nd, fr, tt, ks⟩ := s
  dsimp only at *
  rcases h with ((⟨⟨⟨⟨rfl, rfl⟩, rfl⟩, rfl⟩, rfl⟩ | ⟨⟨⟨⟨⟨rfl, h1⟩, h2⟩, rfl⟩, rfl⟩, rfl⟩) | ⟨⟨⟨⟨⟨rfl, rfl⟩, rfl⟩, rfl⟩, h5⟩, h6⟩) | ⟨⟨⟨⟨⟨rfl, rfl⟩, h3⟩, h4⟩, h5⟩, rfl⟩
  · exact stpS z hid z z z no_kids (by simp)
  · exact stpS (sm_small (by decide) (by decide)) hid (sm_small h1 (by omega)) z z no_kids (by simp)
  · exact stpS (sm_small (by decide) (by decide)) hid z z z (fun k hk => idB_sm (h5 k hk)) h6
  · exact stpS (sm_small (by decide) (by decide)) hid z (sm_small h3 (by omega)) (sm_small (by omega) (by omega)) no_kids (by simp)
theorem may_compsS {cs : List C} (h : MayP cs) : (∀ c ∈ cs, CpS c) ∧ cs.length < 1000000000 := by
  obtain ⟨h1, h2, _⟩ := K.okB_iff.1 h.1
  refine ⟨fun c hc => ?_, by omega⟩
  rcases h2 c hc with ⟨hk, h0, hn, ht⟩ | ⟨hk, hn, ht⟩
  · refine .inr ⟨hk, ⟨h0, by omega⟩, ?_⟩
    apply ByteArray.ext
    exact Array.eq_empty_of_size_eq_zero ht
  · exact .inl ⟨hk, hn, by rw [bytes_len]; omega⟩
theorem may_entryS {e : En} (h : EnMay e) : EnS e := by
  obtain ⟨a1, a2, a3, a4, a5, a6, a7⟩ := h
  exact ⟨sm_small a1 (by omega), sm_small (by omega) (by omega), may_compsS a5, fun s hs => (may_stepS (a7 s hs)).1, by omega⟩
/-- The first letter of a message's text. -/
def msgK (m : Ms) : UInt8 := if m.kd = 0 then 80 else if m.kd = 1 then 67 else 83
theorem msg_rt {m : Ms} (h : MsMay m) : msgC m [] = msgK m :: (msgC m []).tail ∧ pMsg (msgK m) ((msgC m []).tail, false) = (m, [], false) := by
  obtain ⟨⟨a1, a2, a3, a4, a5, a6⟩, h⟩ := h
  obtain ⟨kd, cl, rv, sq, fr, ls, rf, tx, ro, nx, ns, ed, es⟩ := m
  dsimp only at a1 a2 a3 a4 a5 a6
  have n1 := num_rt cl
  have n2 := num_rt rv
  have s1 : Sm cl := sm_small a1 (by omega)
  have s2 : Sm rv := sm_small a3 (by omega)
  have s3 : Sm sq := sm_small a5 (by omega)
  unfold msgC msgK pMsg MsBare at *
  dsimp only at *
  rcases h with ⟨rfl, ⟨rfl, rfl, rfl, rfl, rfl, rfl, b7⟩, b1, b2, b3⟩ | ⟨rfl, ⟨rfl, rfl, rfl, rfl, rfl, rfl, b7⟩, b1, rfl, b3, b4⟩ | ⟨rfl, b1, b2, b3, b4, b5, b6, b8, b9⟩
  · obtain rfl := List.eq_nil_of_length_eq_zero b7
    obtain rfl := List.eq_nil_of_length_eq_zero b1
    have c1 := comps_rt ed [] (may_compsS b2)
    simp [num_rt cl _ s1, num_rt rv _ s2, num_rt sq _ s3, c1]
  · obtain rfl := List.eq_nil_of_length_eq_zero b7
    obtain rfl := List.eq_nil_of_length_eq_zero b1
    have c1 := list_rt ent_rt ent_gt es [] ⟨fun e he => may_entryS (b4 e he), by omega⟩
    simp [num_rt cl _ s1, num_rt rv _ s2, c1]
  · obtain rfl := List.eq_nil_of_length_eq_zero b1
    obtain rfl := List.eq_nil_of_length_eq_zero b2
    obtain ⟨c1, c2, c3, c4⟩ := may_nodesS b9
    have t1 := list_rt node_rt node_gt ns [] ⟨fun x hx => (c4 x hx).1, by omega⟩
    have t3 : pTree (treeC ro nx ns [], false) = ((ro, nx, ns), [], false) := by
      unfold pTree treeC
      simp only [num_rt ro _ c2, num_rt nx _ c3, t1]
    have t4 := str_rt (bytesOf tx) (treeC ro nx ns []) (by show (bytesOf tx).length < 1000000000; rw [bytes_len]; omega)
    have e : (⟨(bytesOf tx).toArray⟩ : ByteArray) = tx := by simp [bytesOf]
    cases rf
    · simp [num_rt cl _ s1, num_rt rv _ s2, num_rt sq _ s3, num_rt fr _ (sm_small b3 (by omega)), num_rt ls _ (sm_small b5 (by omega)), num_rt 0 _ (sm_small (Int.le_refl _) (by decide)), t4, t3, e]
    · simp [num_rt cl _ s1, num_rt rv _ s2, num_rt sq _ s3, num_rt fr _ (sm_small b3 (by omega)), num_rt ls _ (sm_small b5 (by omega)), num_rt 1 _ (sm_small (by decide) (by decide)), t4, t3, e]

end Go.Proofs.YtjmfjlffcopnnaaGreatDoor
