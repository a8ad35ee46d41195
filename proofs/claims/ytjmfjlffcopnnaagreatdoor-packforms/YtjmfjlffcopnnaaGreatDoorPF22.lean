/-
  Sp3, PgO, in one text. Conditions: as each theorem's premises say.
-/
import Derived.Test.YtjmfjlffcopnnaaGreatDoorPF18
import Derived.Test.YtjmfjlffcopnnaaGreatDoorPF19
import Derived.Test.YtjmfjlffcopnnaaGreatDoorPF21
namespace Go.Proofs.YtjmfjlffcopnnaaGreatDoor
open Go.RowKit
open Go.Proofs.YtjmfjlffcopnnaaGreatDoor.K (C RowC)

theorem SpS.touch {B : Nat → Prop} {w w' : World} {base n : Nat} {v : Value} {vs : List Sv} (h : SpS w base v n vs) (ht : Touch B w w') (hv : ∀ g, v.ownBlock = some g → ¬ B g) (hk : ∀ x ∈ vs, ∀ g, x.kv.ownBlock = some g → ¬ B g) : SpS w' base v n vs :=
  ⟨h.row.touch ht hv, h.len, fun i x hx => by
    obtain ⟨l, hl⟩ := h.kids i x hx
    exact ⟨l, hl.touch ht (hk x (List.mem_of_getElem? hx))⟩, h.apart⟩
theorem SpS.types {w w' : World} {base n g : Nat} {v : Value} {vs : List Sv} {c : Array Value} {e : TypeId} (h : SpS w base v n vs) (hg : w.grownBy w' (some g)) (hc : w.heap[g]? = some (.cells c e (0, 0))) (h1 : e ≠ 51) (h2 : e ≠ 3) : SpS w' base v n vs :=
  ⟨h.row.kept hg (fun k hk => by
      obtain ⟨cur, hcur⟩ := h.row.obj hk
      intro e0; cases e0
      exact type_ne hc hcur h1 rfl), h.len, fun i x hx => by
    obtain ⟨l, hl⟩ := h.kids i x hx
    exact ⟨l, hl.kept hg (fun k hk => by
      obtain ⟨cur, hcur⟩ := hl.obj hk
      intro e0; cases e0
      exact type_ne hc hcur h2 rfl)⟩, h.apart⟩
/-- A row of entries that may be written over, from one of them on; each entry's blocks are its own. -/
structure SpE (w : World) (base : Nat) (v : Value) (n : Nat) (B : Nat → Nat → Prop) (i : Nat) (vs : List Ev) : Prop where
  row : lyE.Own w base v vs
  len : vs.length = n
  ed : ∀ (j : Nat) x, i ≤ j → vs[j]? = some x → (∃ l, lyC.Own w base x.ev l ∧ l.length ≤ 4096) ∧ ∀ g, x.ev.ownBlock = some g → B j g
  dl : ∀ (j : Nat) x, i ≤ j → vs[j]? = some x → ∃ us, SpS w base x.dv x.dn us ∧ x.dn ≤ 100000 ∧ (∀ y ∈ us, y.kn ≤ 140737488355328 ∧ ∀ g, y.kv.ownBlock = some g → B j g) ∧ ∀ g, x.dv.ownBlock = some g → B j g
  apart : ∀ (j k g : Nat), j ≠ k → B j g → ¬ B k g
  lo : ∀ (j g : Nat), B j g → base ≤ g
  rowB : ∀ (j g : Nat), v.ownBlock = some g → ¬ B j g
theorem set_seq {vs : List Ev} {i : Nat} {x : Ev} (h : vs[i]? = some x) (u : Int) : (lyE.all vs).take (i * 4 + 1) ++ [.int .i64 u] ++ (lyE.all vs).drop (i * 4 + 1 + 1) = lyE.all (vs.set i ⟨x.cl, u, x.ep, x.en, x.ec, x.dp, x.dn, x.dc⟩) := by
  obtain ⟨h1, h2⟩ := all_split (L := lyE) h
  obtain ⟨_, hlt⟩ := split_at h
  have h3 : (lyE.all (vs.take i)).length = i * 4 := h2
  have e : lyE.all (⟨x.cl, u, x.ep, x.en, x.ec, x.dp, x.dn, x.dc⟩ :: vs.drop (i + 1)) = Ev.cells ⟨x.cl, u, x.ep, x.en, x.ec, x.dp, x.dn, x.dc⟩ ++ lyE.all (vs.drop (i + 1)) := by simp [Ly.all, lyE]
  rw [h1, List.set_eq_take_append_cons_drop, if_pos hlt, all_app, e]
  clear h1 h2 e
  generalize lyE.all (vs.take i) = A at h3 ⊢
  generalize lyE.all (vs.drop (i + 1)) = B
  rw [List.take_append, List.drop_append, List.take_of_length_le (by omega), List.drop_eq_nil_of_le (by omega), h3, show i * 4 + 1 - i * 4 = 1 by omega, show i * 4 + 1 + 1 - i * 4 = 2 by omega]
  simp [lyE, Ev.cells, Ev.ev, Ev.dv]
theorem SpE.next {w W : World} {base g n cap i : Nat} {B : Nat → Nat → Prop} {vs : List Ev} {x : Ev} (h : SpE w base (.slice (some ⟨g, 0, none⟩) n cap) n B i vs) (hx : vs[i]? = some x) (ht : Touch (B i) w W) (u : Int) :
    SpE (W.setCell ⟨g, i * 4 + 1, none⟩ (.int .i64 u)) base (.slice (some ⟨g, 0, none⟩) n cap) n B (i + 1) (vs.set i ⟨x.cl, u, x.ep, x.en, x.ec, x.dp, x.dn, x.dc⟩) := by
  have hil := (List.getElem?_eq_some_iff.1 hx).1
  have hrow : lyE.Own W base (.slice (some ⟨g, 0, none⟩) n cap) vs := h.row.touch ht (h.rowB i)
  obtain ⟨cur, hcur⟩ := hrow.obj (g := g) rfl
  have hle : i * 4 + 1 + 1 ≤ (lyE.all vs).length := by rw [all_len]; show i * 4 + 1 + 1 ≤ vs.length * 4; omega
  have hown := own_setAll [.int .i64 u] (lyE.all vs) (i * 4 + 1) W (by unfold Ly.Own at hrow; rw [h.len] at hrow; exact hrow) hle
  have gs := set_grown W g (i * 4 + 1) (.int .i64 u)
  have part : ∀ (j : Nat) y, i + 1 ≤ j → (vs.set i ⟨x.cl, u, x.ep, x.en, x.ec, x.dp, x.dn, x.dc⟩)[j]? = some y → vs[j]? = some y := fun j y hj hy => by
    rw [List.getElem?_set, if_neg (by omega)] at hy
    exact hy
  refine ⟨?_, by rw [List.length_set]; exact h.len, fun j y hj hy => ?_, fun j y hj hy => ?_, h.apart, h.lo, h.rowB⟩
  · unfold Ly.Own
    rw [List.length_set, h.len, ← set_seq hx u]
    exact hown
  · obtain ⟨⟨l, h1, h2⟩, h3⟩ := h.ed j y (by omega) (part j y hj hy)
    exact ⟨⟨l, compsOwn_kept (h1.touch ht (fun g hg => h.apart j i g (by omega) (h3 g hg))) gs hcur (by decide), h2⟩, h3⟩
  · obtain ⟨us, h1, h2, h3, h4⟩ := h.dl j y (by omega) (part j y hj hy)
    exact ⟨us, (h1.touch ht (fun g hg => h.apart j i g (by omega) (h4 g hg)) (fun x hx g hg => h.apart j i g (by omega) ((h3 x hx).2 g hg))).types gs hcur (by decide) (by decide), h2, h3, h4⟩
theorem SpE.later {w W : World} {base n i : Nat} {v : Value} {B : Nat → Nat → Prop} {vs : List Ev} (h : SpE w base v n B i vs) (hb : Below w.heap.size w W) : SpE W base v n B i vs :=
  ⟨h.row.below hb, h.len, fun j x hj hx => by
    obtain ⟨⟨l, h1, h2⟩, h3⟩ := h.ed j x hj hx
    exact ⟨⟨l, h1.below hb, h2⟩, h3⟩, fun j x hj hx => by
    obtain ⟨us, h1, h2⟩ := h.dl j x hj hx
    exact ⟨us, h1.touch (B := fun _ => False) (Touch.of_below hb) (fun _ _ => id) (fun _ _ _ _ => id), h2⟩, h.apart, h.lo, h.rowB⟩

end Go.Proofs.YtjmfjlffcopnnaaGreatDoor

namespace Go.Proofs.YtjmfjlffcopnnaaGreatDoor
open Go.Proofs.YtjmfjlffcopnnaaGreatDoor.K (C)

def Dn {α : Type} (f : Ts → α × Ts) : Prop := ∀ t, (f t).2.1.length ≤ t.1.length
theorem num_dn : Dn pNum := fun t => pDig_len 44 t
theorem count_dn : Dn pCount := fun t => by
  have := num_dn t
  unfold pCount
  split
  · exact this
  · exact this
theorem str_dn : Dn pStr := fun t => by
  have := pDig_len 58 t
  unfold pStr
  split
  · exact this
  · dsimp only
    rw [List.length_drop]
    omega
theorem row_dn {α : Type} {f : Ts → α × Ts} (hf : Dn f) : ∀ (k : Nat) (acc : List α) (t : Ts), (pRow f k acc t).2.1.length ≤ t.1.length
  | 0, _, t => Nat.le_refl _
  | k + 1, acc, t => by
    unfold pRow
    split
    · exact Nat.le_refl _
    · exact Nat.le_trans (row_dn hf k _ _) (hf t)
theorem list_dn {α : Type} {f : Ts → α × Ts} (hf : Dn f) : Dn (pList f) := fun t => Nat.le_trans (row_dn hf _ _ _) (count_dn t)
theorem row_all {α : Type} {f : Ts → α × Ts} {M : Nat} {P : α → Prop} (hf : Dn f) (hP : ∀ t : Ts, t.1.length ≤ M → P (f t).1) : ∀ (k : Nat) (acc : List α) (t : Ts), t.1.length ≤ M → (∀ x ∈ acc, P x) → (pRow f k acc t).1.length ≤ acc.length + k ∧ ∀ x ∈ (pRow f k acc t).1, P x
  | 0, acc, t, _, ha => ⟨Nat.le_refl _, ha⟩
  | k + 1, acc, t, ht, ha => by
    unfold pRow
    split
    · exact ⟨by dsimp only; omega, ha⟩
    · have := row_all hf hP k (acc ++ [(f t).1]) (f t).2 (Nat.le_trans (hf t) ht) (fun x hx => by
        rcases List.mem_append.1 hx with hx | hx
        · exact ha x hx
        · rw [List.mem_singleton.1 hx]; exact hP t ht)
      refine ⟨?_, this.2⟩
      have h1 := this.1
      rw [List.length_append, List.length_singleton] at h1
      omega
theorem list_all {α : Type} {f : Ts → α × Ts} {M : Nat} {P : α → Prop} (hf : Dn f) (hP : ∀ t : Ts, t.1.length ≤ M → P (f t).1) (t : Ts) (ht : t.1.length ≤ M) : (pList f t).1.length ≤ M ∧ ∀ x ∈ (pList f t).1, P x := by
  have h1 := count_le t
  have h2 := row_all hf hP (pCount t).1.toNat [] (pCount t).2 (Nat.le_trans (count_dn t) ht) (fun x hx => by cases hx)
  unfold pList
  refine ⟨?_, h2.2⟩
  have := h2.1
  rw [List.length_nil] at this
  omega
theorem nums_le {M : Nat} (t : Ts) (ht : t.1.length ≤ M) : (pList pNum t).1.length ≤ M := (list_all (P := fun _ => True) num_dn (fun _ _ => trivial) t ht).1
theorem nums_dn : Dn (pList pNum) := list_dn num_dn
theorem node_dn : Dn pNode := fun t => by
  unfold pNode
  dsimp only
  exact Nat.le_trans (nums_dn _) (Nat.le_trans (num_dn _) (Nat.le_trans (num_dn _) (Nat.le_trans (num_dn _) (num_dn _))))
theorem node_kids {M : Nat} (t : Ts) (ht : t.1.length ≤ M) : (pNode t).1.kids.length ≤ M := by
  unfold pNode
  dsimp only
  exact nums_le _ (Nat.le_trans (num_dn _) (Nat.le_trans (num_dn _) (Nat.le_trans (num_dn _) (Nat.le_trans (num_dn _) ht))))
theorem step_dn : Dn pStep := fun t => by
  unfold pStep
  dsimp only
  exact Nat.le_trans (nums_dn _) (Nat.le_trans (num_dn _) (Nat.le_trans (num_dn _) (Nat.le_trans (num_dn _) (Nat.le_trans (num_dn _) (num_dn _)))))
theorem step_kids {M : Nat} (t : Ts) (ht : t.1.length ≤ M) : (pStep t).1.kids.length ≤ M := by
  unfold pStep
  dsimp only
  exact nums_le _ (Nat.le_trans (num_dn _) (Nat.le_trans (num_dn _) (Nat.le_trans (num_dn _) (Nat.le_trans (num_dn _) (Nat.le_trans (num_dn _) ht)))))
theorem comp_dn (c : UInt8) : Dn (pComp c) := fun t => by
  unfold pComp
  split
  · exact num_dn t
  split
  · exact num_dn t
  · exact str_dn t
theorem compRow_dn : ∀ (k : Nat) (acc : List C) (t : Ts), (pCompRow k acc t).2.1.length ≤ t.1.length ∧ (pCompRow k acc t).1.length ≤ acc.length + k
  | 0, _, t => ⟨Nat.le_refl _, Nat.le_refl _⟩
  | k + 1, acc, t => by
    unfold pCompRow
    split
    · exact ⟨Nat.le_refl _, by dsimp only; omega⟩
    · split
      · exact ⟨by simp, by simp⟩
      · rename_i c r h
        have h1 := compRow_dn k (acc ++ [(pComp c (r, t.2)).1]) (pComp c (r, t.2)).2
        have h2 := comp_dn c (r, t.2)
        dsimp only at h2
        rw [h, List.length_cons]
        rw [List.length_append, List.length_singleton] at h1
        exact ⟨by omega, by omega⟩
theorem comps_dn : Dn pComps := fun t => Nat.le_trans (compRow_dn _ _ _).1 (count_dn t)
theorem comps_le {M : Nat} (t : Ts) (ht : t.1.length ≤ M) : (pComps t).1.length ≤ M := by
  have h1 := count_le t
  have h2 := (compRow_dn (pCount t).1.toNat [] (pCount t).2).2
  unfold pComps
  rw [List.length_nil] at h2
  omega
theorem ent_dn : Dn pEnt := fun t => by
  unfold pEnt
  dsimp only
  exact Nat.le_trans (list_dn step_dn _) (Nat.le_trans (comps_dn _) (Nat.le_trans (num_dn _) (num_dn _)))
def EnL (M : Nat) (e : En) : Prop := e.ed.length ≤ M ∧ e.dl.length ≤ M ∧ ∀ s ∈ e.dl, s.kids.length ≤ M
theorem ent_le {M : Nat} (t : Ts) (ht : t.1.length ≤ M) : EnL M (pEnt t).1 := by
  have h1 : (pNum (pNum t).2).2.1.length ≤ M := Nat.le_trans (num_dn _) (Nat.le_trans (num_dn _) ht)
  have h2 := comps_le (M := M) (pNum (pNum t).2).2 h1
  have h3 := list_all (P := fun s : St => s.kids.length ≤ M) step_dn (fun t ht => step_kids t ht) (pComps (pNum (pNum t).2).2).2 (Nat.le_trans (comps_dn _) h1)
  unfold pEnt
  exact ⟨h2, h3.1, h3.2⟩
theorem pstr_le {M : Nat} (t : Ts) (ht : t.1.length ≤ M) : (pStr t).1.length ≤ M := by
  have := pDig_len 58 t
  unfold pStr
  split
  · exact Nat.zero_le _
  · dsimp only
    rw [List.length_take]
    omega
theorem ptree_le {M : Nat} (t : Ts) (ht : t.1.length ≤ M) : (pTree t).1.2.2.length ≤ M ∧ ∀ x ∈ (pTree t).1.2.2, x.kids.length ≤ M := by
  have h1 : (pNum (pNum t).2).2.1.length ≤ M := Nat.le_trans (num_dn _) (Nat.le_trans (num_dn _) ht)
  exact list_all (P := fun s : Nd => s.kids.length ≤ M) node_dn (fun t ht => node_kids t ht) (pNum (pNum t).2).2 h1
/-- A message that was taken is no longer than the text. -/
theorem msg_z (h : UInt8) (t : Ts) (ht : t.1.length ≤ 1000000) : MsZ (pMsg h t).1 := by
  have h2 : (pNum (pNum t).2).2.1.length ≤ 1000000 := Nat.le_trans (num_dn _) (Nat.le_trans (num_dn _) ht)
  have h3 : (pNum (pNum (pNum t).2).2).2.1.length ≤ 1000000 := Nat.le_trans (num_dn _) h2
  have lt : (1000000 : Nat) ≤ 140737488355328 := by decide
  unfold pMsg
  dsimp only
  split
  · have h4 := comps_le (M := 1000000) _ h3
    exact ⟨Nat.le_trans h4 lt, Nat.zero_le _, Nat.zero_le _, Nat.zero_le _, fun x hx => (by cases hx), fun x hx => (by cases hx)⟩
  split
  · have h4 := list_all (M := 1000000) (P := EnL 1000000) ent_dn (fun t ht => ent_le t ht) _ h2
    refine ⟨Nat.zero_le _, Nat.le_trans h4.1 lt, Nat.zero_le _, Nat.zero_le _, fun x hx => (by cases hx), fun x hx => ?_⟩
    have h5 := h4.2 x hx
    exact ⟨Nat.le_trans h5.1 lt, Nat.le_trans h5.2.1 lt, fun s hs => Nat.le_trans (h5.2.2 s hs) lt⟩
  · have k : ∀ t : Ts, t.1.length ≤ 1000000 → (pNum t).2.1.length ≤ 1000000 := fun t h => Nat.le_trans (num_dn t) h
    have h4 := k _ (k _ (k _ h3))
    revert h4
    generalize (pNum (pNum (pNum (pNum (pNum (pNum t).2).2).2).2).2).2 = t6
    intro h4
    have h5 := pstr_le (M := 1000000) t6 h4
    have h7 : (pStr t6).2.1.length ≤ 1000000 := Nat.le_trans (str_dn t6) h4
    generalize pStr t6 = s7 at h5 h7 ⊢
    have h6 := ptree_le (M := 1000000) s7.2 h7
    generalize pTree s7.2 = t8 at h6 ⊢
    have e : ∀ z : List UInt8, (⟨z.toArray⟩ : ByteArray).size = z.length := fun z => by simp [ByteArray.size]
    exact ⟨Nat.zero_le _, Nat.zero_le _, Nat.le_trans h6.1 lt, (by dsimp only; rw [e]; exact Nat.le_trans h5 lt), fun x hx => Nat.le_trans (h6.2 x hx) lt, fun x hx => (by cases hx)⟩
/-- What a text is: a message's that may be, or none's. -/
theorem get_yes {s : List UInt8} {h : UInt8} {l : List UInt8} (hs : s = h :: l) {m : Ms} (hm : MsMay m) (he : msgC m [] = s) : pMsg h (l, false) = (m, [], false) := by
  obtain ⟨h1, h2⟩ := msg_rt hm
  rw [he, hs] at h1
  rw [he, hs] at h2
  have e1 : msgK m = h := by
    have := List.head_eq_of_cons_eq h1
    exact this.symm
  rw [← e1]
  exact h2

end Go.Proofs.YtjmfjlffcopnnaaGreatDoor
