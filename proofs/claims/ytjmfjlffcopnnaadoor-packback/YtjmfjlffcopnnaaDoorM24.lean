/-
  PgO, Ta9, Sp4, Sb1, Sb2, Ta7, Tb2, Tb3, Ta8, Tb4, Tb1, in one text. Conditions: as each theorem's premises say.
-/
import Derived.Test.YtjmfjlffcopnnaaDoorM22
import Derived.Test.YtjmfjlffcopnnaaDoorM23
import Derived.Test.YtjmfjlffcopnnaaDoorM03
namespace Go.Proofs.YtjmfjlffcopnnaaDoor
open Go.Proofs.YtjmfjlffcopnnaaDoor.K (C)

def Dn {α : Type} (f : Ts → α × Ts) : Prop := ∀ t, (f t).2.1.length ≤ t.1.length
theorem num_dn : Dn pNum := fun t => pDig_len 44 t
theorem count_dn : Dn pCount := fun t => by
  have := num_dn t
  unfold pCount
  split
  · exact this
  · exact this
theorem str_dn : Dn pStr := fun t => by
  have := pDig_len 58 t
  unfold pStr
  split
  · exact this
  · dsimp only
    rw [List.length_drop]
    omega
theorem row_dn {α : Type} {f : Ts → α × Ts} (hf : Dn f) : ∀ (k : Nat) (acc : List α) (t : Ts), (pRow f k acc t).2.1.length ≤ t.1.length
  | 0, _, t => Nat.le_refl _
  | k + 1, acc, t => by
    unfold pRow
    split
    · exact Nat.le_refl _
    · exact Nat.le_trans (row_dn hf k _ _) (hf t)
theorem list_dn {α : Type} {f : Ts → α × Ts} (hf : Dn f) : Dn (pList f) := fun t => Nat.le_trans (row_dn hf _ _ _) (count_dn t)
theorem row_all {α : Type} {f : Ts → α × Ts} {M : Nat} {P : α → Prop} (hf : Dn f) (hP : ∀ t : Ts, t.1.length ≤ M → P (f t).1) : ∀ (k : Nat) (acc : List α) (t : Ts), t.1.length ≤ M → (∀ x ∈ acc, P x) → (pRow f k acc t).1.length ≤ acc.length + k ∧ ∀ x ∈ (pRow f k acc t).1, P x
  | 0, acc, t, _, ha => ⟨Nat.le_refl _, ha⟩
  | k + 1, acc, t, ht, ha => by
    unfold pRow
    split
    · exact ⟨by dsimp only; omega, ha⟩
    · have := row_all hf hP k (acc ++ [(f t).1]) (f t).2 (Nat.le_trans (hf t) ht) (fun x hx => by
        rcases List.mem_append.1 hx with hx | hx
        · exact ha x hx
        · rw [List.mem_singleton.1 hx]; exact hP t ht)
      refine ⟨?_, this.2⟩
      have h1 := this.1
      rw [List.length_append, List.length_singleton] at h1
      omega
theorem list_all {α : Type} {f : Ts → α × Ts} {M : Nat} {P : α → Prop} (hf : Dn f) (hP : ∀ t : Ts, t.1.length ≤ M → P (f t).1) (t : Ts) (ht : t.1.length ≤ M) : (pList f t).1.length ≤ M ∧ ∀ x ∈ (pList f t).1, P x := by
  have h1 := count_le t
  have h2 := row_all hf hP (pCount t).1.toNat [] (pCount t).2 (Nat.le_trans (count_dn t) ht) (fun x hx => by cases hx)
  unfold pList
  refine ⟨?_, h2.2⟩
  have := h2.1
  rw [List.length_nil] at this
  omega
theorem nums_le {M : Nat} (t : Ts) (ht : t.1.length ≤ M) : (pList pNum t).1.length ≤ M := (list_all (P := fun _ => True) num_dn (fun _ _ => trivial) t ht).1
theorem nums_dn : Dn (pList pNum) := list_dn num_dn
theorem node_dn : Dn pNode := fun t => by
  unfold pNode
  dsimp only
  exact Nat.le_trans (nums_dn _) (Nat.le_trans (num_dn _) (Nat.le_trans (num_dn _) (Nat.le_trans (num_dn _) (num_dn _))))
theorem node_kids {M : Nat} (t : Ts) (ht : t.1.length ≤ M) : (pNode t).1.kids.length ≤ M := by
  unfold pNode
  dsimp only
  exact nums_le _ (Nat.le_trans (num_dn _) (Nat.le_trans (num_dn _) (Nat.le_trans (num_dn _) (Nat.le_trans (num_dn _) ht))))
theorem step_dn : Dn pStep := fun t => by
  unfold pStep
  dsimp only
  exact Nat.le_trans (nums_dn _) (Nat.le_trans (num_dn _) (Nat.le_trans (num_dn _) (Nat.le_trans (num_dn _) (Nat.le_trans (num_dn _) (num_dn _)))))
theorem step_kids {M : Nat} (t : Ts) (ht : t.1.length ≤ M) : (pStep t).1.kids.length ≤ M := by
  unfold pStep
  dsimp only
  exact nums_le _ (Nat.le_trans (num_dn _) (Nat.le_trans (num_dn _) (Nat.le_trans (num_dn _) (Nat.le_trans (num_dn _) (Nat.le_trans (num_dn _) ht)))))
theorem comp_dn (c : UInt8) : Dn (pComp c) := fun t => by
  unfold pComp
  split
  · exact num_dn t
  split
  · exact num_dn t
  · exact str_dn t
theorem compRow_dn : ∀ (k : Nat) (acc : List C) (t : Ts), (pCompRow k acc t).2.1.length ≤ t.1.length ∧ (pCompRow k acc t).1.length ≤ acc.length + k
  | 0, _, t => ⟨Nat.le_refl _, Nat.le_refl _⟩
  | k + 1, acc, t => by
    unfold pCompRow
    split
    · exact ⟨Nat.le_refl _, by dsimp only; omega⟩
    · split
      · exact ⟨by simp, by simp⟩
      · rename_i c r h
        have h1 := compRow_dn k (acc ++ [(pComp c (r, t.2)).1]) (pComp c (r, t.2)).2
        have h2 := comp_dn c (r, t.2)
        dsimp only at h2
        rw [h, List.length_cons]
        rw [List.length_append, List.length_singleton] at h1
        exact ⟨by omega, by omega⟩
theorem comps_dn : Dn pComps := fun t => Nat.le_trans (compRow_dn _ _ _).1 (count_dn t)
theorem comps_le {M : Nat} (t : Ts) (ht : t.1.length ≤ M) : (pComps t).1.length ≤ M := by
  have h1 := count_le t
  have h2 := (compRow_dn (pCount t).1.toNat [] (pCount t).2).2
  unfold pComps
  rw [List.length_nil] at h2
  omega
theorem ent_dn : Dn pEnt := fun t => by
  unfold pEnt
  dsimp only
  exact Nat.le_trans (list_dn step_dn _) (Nat.le_trans (comps_dn _) (Nat.le_trans (num_dn _) (num_dn _)))
def EnL (M : Nat) (e : En) : Prop := e.ed.length ≤ M ∧ e.dl.length ≤ M ∧ ∀ s ∈ e.dl, s.kids.length ≤ M
theorem ent_le {M : Nat} (t : Ts) (ht : t.1.length ≤ M) : EnL M (pEnt t).1 := by
  have h1 : (pNum (pNum t).2).2.1.length ≤ M := Nat.le_trans (num_dn _) (Nat.le_trans (num_dn _) ht)
  have h2 := comps_le (M := M) (pNum (pNum t).2).2 h1
  have h3 := list_all (P := fun s : St => s.kids.length ≤ M) step_dn (fun t ht => step_kids t ht) (pComps (pNum (pNum t).2).2).2 (Nat.le_trans (comps_dn _) h1)
  unfold pEnt
  exact ⟨h2, h3.1, h3.2⟩
theorem pstr_le {M : Nat} (t : Ts) (ht : t.1.length ≤ M) : (pStr t).1.length ≤ M := by
  have := pDig_len 58 t
  unfold pStr
  split
  · exact Nat.zero_le _
  · dsimp only
    rw [List.length_take]
    omega
theorem ptree_le {M : Nat} (t : Ts) (ht : t.1.length ≤ M) : (pTree t).1.2.2.length ≤ M ∧ ∀ x ∈ (pTree t).1.2.2, x.kids.length ≤ M := by
  have h1 : (pNum (pNum t).2).2.1.length ≤ M := Nat.le_trans (num_dn _) (Nat.le_trans (num_dn _) ht)
  exact list_all (P := fun s : Nd => s.kids.length ≤ M) node_dn (fun t ht => node_kids t ht) (pNum (pNum t).2).2 h1
/-- A message that was taken is no longer than the text. -/
theorem msg_z (h : UInt8) (t : Ts) (ht : t.1.length ≤ 1000000) : MsZ (pMsg h t).1 := by
  have h2 : (pNum (pNum t).2).2.1.length ≤ 1000000 := Nat.le_trans (num_dn _) (Nat.le_trans (num_dn _) ht)
  have h3 : (pNum (pNum (pNum t).2).2).2.1.length ≤ 1000000 := Nat.le_trans (num_dn _) h2
  have lt : (1000000 : Nat) ≤ 140737488355328 := by decide
  unfold pMsg
  dsimp only
  split
  · have h4 := comps_le (M := 1000000) _ h3
    exact ⟨Nat.le_trans h4 lt, Nat.zero_le _, Nat.zero_le _, Nat.zero_le _, fun x hx => (by cases hx), fun x hx => (by cases hx)⟩
  split
  · have h4 := list_all (M := 1000000) (P := EnL 1000000) ent_dn (fun t ht => ent_le t ht) _ h2
    refine ⟨Nat.zero_le _, Nat.le_trans h4.1 lt, Nat.zero_le _, Nat.zero_le _, fun x hx => (by cases hx), fun x hx => ?_⟩
    have h5 := h4.2 x hx
    exact ⟨Nat.le_trans h5.1 lt, Nat.le_trans h5.2.1 lt, fun s hs => Nat.le_trans (h5.2.2 s hs) lt⟩
  · have k : ∀ t : Ts, t.1.length ≤ 1000000 → (pNum t).2.1.length ≤ 1000000 := fun t h => Nat.le_trans (num_dn t) h
    have h4 := k _ (k _ (k _ h3))
    revert h4
    generalize (pNum (pNum (pNum (pNum (pNum (pNum t).2).2).2).2).2).2 = t6
    intro h4
    have h5 := pstr_le (M := 1000000) t6 h4
    have h7 : (pStr t6).2.1.length ≤ 1000000 := Nat.le_trans (str_dn t6) h4
    generalize pStr t6 = s7 at h5 h7 ⊢
    have h6 := ptree_le (M := 1000000) s7.2 h7
    generalize pTree s7.2 = t8 at h6 ⊢
    have e : ∀ z : List UInt8, (⟨z.toArray⟩ : ByteArray).size = z.length := fun z => by simp [ByteArray.size]
    exact ⟨Nat.zero_le _, Nat.zero_le _, Nat.le_trans h6.1 lt, (by dsimp only; rw [e]; exact Nat.le_trans h5 lt), fun x hx => Nat.le_trans (h6.2 x hx) lt, fun x hx => (by cases hx)⟩
/-- What a text is: a message's that may be, or none's. -/
theorem get_yes {s : List UInt8} {h : UInt8} {l : List UInt8} (hs : s = h :: l) {m : Ms} (hm : MsMay m) (he : msgC m [] = s) : pMsg h (l, false) = (m, [], false) := by
  obtain ⟨h1, h2⟩ := msg_rt hm
  rw [he, hs] at h1
  rw [he, hs] at h2
  have e1 : msgK m = h := by
    have := List.head_eq_of_cons_eq h1
    exact this.symm
  rw [← e1]
  exact h2

end Go.Proofs.YtjmfjlffcopnnaaDoor

namespace Go.Proofs.YtjmfjlffcopnnaaDoor
open Go.RowKit
open Go.Proofs.YtjmfjlffcopnnaaDoor.K (C RowC)

structure OwnM (w : World) (base : Nat) (m : Ms) (q : Mq) : Prop where
  ed : lyC.Own w base (.slice q.ep m.ed.length q.ec) m.ed
  es : ∃ vs, OwnE w base (.slice q.sp m.es.length q.sc) vs m.es
  ns : ∃ vs, OwnT w base (.slice q.np m.ns.length q.nc) vs m.ns
theorem OwnM.read {w : World} {base : Nat} {m : Ms} {q : Mq} (h : OwnM w base m q) : MsR w m q := by
  obtain ⟨h1, ⟨es, h2⟩, ns, h3⟩ := h
  exact ⟨own_rowC h1, h2.read, h3.read⟩
theorem OwnM.kept {w w' : World} {base g : Nat} {m : Ms} {q : Mq} {c : Array Value} {e : TypeId} (h : OwnM w base m q) (hg : w.grownBy w' (some g)) (hc : w.heap[g]? = some (.cells c e (0, 0))) (h1 : e ≠ 48) (h2 : e ≠ 42) (h3 : e ≠ 45) (h4 : e ≠ 3) (h5 : e ≠ 86) : OwnM w' base m q := by
  obtain ⟨a1, ⟨es, a2⟩, ns, a3⟩ := h
  exact ⟨compsOwn_kept a1 hg hc h2, ⟨es, a2.kept hg hc h1 h2 h3 h4⟩, ns, a3.kept hg hc h5 h4⟩
theorem OwnM.below {w w' : World} {base : Nat} {m : Ms} {q : Mq} (h : OwnM w base m q) (hb : Below w.heap.size w w') : OwnM w' base m q := by
  obtain ⟨a1, ⟨es, a2⟩, ns, a3⟩ := h
  exact ⟨a1.below hb, ⟨es, a2.below hb⟩, ns, a3.below hb⟩
theorem OwnE.mono {w : World} {base base' : Nat} {v : Value} {vs : List Ev} {es : List En} (h : OwnE w base v vs es) (hb : base' ≤ base) : OwnE w base' v vs es :=
  ⟨h.row.mono hb, h.len, fun i x s hx hs => (h.fit i x s hx hs).mono hb⟩
theorem OwnM.mono {w : World} {base base' : Nat} {m : Ms} {q : Mq} (h : OwnM w base m q) (hb : base' ≤ base) : OwnM w base' m q := by
  obtain ⟨a1, ⟨es, a2⟩, ns, a3⟩ := h
  exact ⟨a1.mono hb, ⟨es, a2.mono hb⟩, ns, a3.mono hb⟩
theorem ownC_none (w : World) (base : Nat) : lyC.Own w base (.slice none 0 0) [] := Ly.Own.nil w base
/-- The zero message. -/
def ms0 : Ms := ⟨0, 0, 0, 0, 0, 0, false, ⟨#[]⟩, 0, 0, [], [], []⟩
def mq0 : Mq := ⟨none, 0, none, 0, none, 0⟩
def GetP (s : ByteArray) (w : World) (e : Ending) (w' : World) : Prop := Below w.heap.size w w' ∧
  ((∃ m q, e = .returned (.tuple #[msV m q, .int .i64 0]) ∧ MsMay m ∧ msgC m [] = bytesOf s ∧ s.size ≤ 1000000 ∧ OwnM w' w.heap.size m q)
  ∨ (e = .returned (.tuple #[msV ms0 mq0, .int .i64 1700]) ∧ ¬ ∃ m, MsMay m ∧ msgC m [] = bytesOf s ∧ s.size ≤ 1000000))
theorem get_no {s : ByteArray} {h : UInt8} {l : List UInt8} (hs : bytesOf s = h :: l) {m : Ms} {r : List UInt8} {d : Bool} (hp : pMsg h (l, false) = (m, r, d)) (hc : d = true ∨ ¬ (MsMay m ∧ (msgC m []).length ≤ 1000000) ∨ msgC m [] ≠ bytesOf s) : ¬ ∃ m, MsMay m ∧ msgC m [] = bytesOf s ∧ s.size ≤ 1000000 := by
  rintro ⟨m2, h1, h2, h3⟩
  have := get_yes hs h1 h2
  rw [this] at hp
  cases hp
  rcases hc with hc | hc | hc
  · cases hc
  · exact hc ⟨h1, by rw [h2, bytes_len]; exact h3⟩
  · exact hc h2
theorem get_short {s : ByteArray} (hs : s.size < 1) : ¬ ∃ m, MsMay m ∧ msgC m [] = bytesOf s ∧ s.size ≤ 1000000 := by
  rintro ⟨m2, h1, h2, h3⟩
  have e := (msg_rt h1).1
  rw [h2] at e
  have := congrArg List.length e
  rw [bytes_len, List.length_cons] at this
  omega
theorem bytes_head {s : ByteArray} {c : UInt8} (h0 : 0 < s.size) (hc : s[0] = c) : bytesOf s = c :: fromL s 1 := by
  have := from_cons h0
  rw [hc] at this
  rw [← this]
  simp [fromL, bytesOf]
theorem poll_eq {t t1 t2 t3 t4 : Ts} {x1 x2 x3 : Int} {ed : List C} (h1 : pNum t = (x1, t1)) (h2 : pNum t1 = (x2, t2)) (h3 : pNum t2 = (x3, t3)) (h4 : pComps t3 = (ed, t4)) : pMsg 80 t = (⟨0, x1, x2, x3, 0, 0, false, ⟨#[]⟩, 0, 0, [], ed, []⟩, t4) := by
  unfold pMsg
  simp [h1, h2, h3, h4]
theorem changes_eq {t t1 t2 t3 t4 : Ts} {x1 x2 : Int} {K : Nat} {es : List En} (h1 : pNum t = (x1, t1)) (h2 : pNum t1 = (x2, t2)) (h3 : pCount t2 = ((K : Int), t3)) (h4 : pRow pEnt K [] t3 = (es, t4)) : pMsg 67 t = (⟨1, x1, x2, 0, 0, 0, false, ⟨#[]⟩, 0, 0, [], [], es⟩, t4) := by
  unfold pMsg pList
  simp [h1, h2, h3, h4]
theorem snap_eq {c : UInt8} (hc1 : ¬ c = 80) (hc2 : ¬ c = 67) {t t1 t2 t3 t4 t5 t6 t7 t8 : Ts} {x1 x2 x3 x4 x5 x6 ro nx : Int} {z : ByteArray} {ns : List Nd} (h1 : pNum t = (x1, t1)) (h2 : pNum t1 = (x2, t2)) (h3 : pNum t2 = (x3, t3)) (h4 : pNum t3 = (x4, t4)) (h5 : pNum t4 = (x5, t5)) (h6 : pNum t5 = (x6, t6)) (h7 : pStr t6 = (bytesOf z, t7)) (h8 : pTree t7 = ((ro, nx, ns), t8)) : pMsg c t = (⟨2, x1, x2, x3, x4, x5, x6 == 1, z, ro, nx, ns, [], []⟩, t8) := by
  have e : (⟨(bytesOf z).toArray⟩ : ByteArray) = z := by simp [bytesOf]
  unfold pMsg
  simp [h1, h2, h3, h4, h5, h6, h7, h8, hc1, hc2, e]
theorem get_fin_no {s : ByteArray} {h : UInt8} {l : List UInt8} (hs : bytesOf s = h :: l) {m : Ms} {r : List UInt8} {d : Bool} (hp : pMsg h (l, false) = (m, r, d)) {w : World} {rb : Nat} (hr : w.heap.size ≤ rb) (us : List Value) {W : World} (hb : Below w.heap.size w W) (hc : d = true ∨ ¬ (MsMay m ∧ (msgC m []).length ≤ 1000000) ∨ msgC m [] ≠ bytesOf s) : GetP s w (.returned (.tuple #[msV ms0 mq0, .int .i64 1700])) (setAll W rb 0 us) :=
  ⟨hb.trans (below_grown (setAll_one W rb 0 us) hr hb.size), .inr ⟨rfl, get_no hs hp hc⟩⟩
theorem get_fin_yes {s : ByteArray} {m : Ms} {q : Mq} {w u : World} {rb : Nat} (hs : s.size ≤ 1000000) (hr : w.heap.size ≤ rb) (us : List Value) {c : Array Value} (ho : OwnM u w.heap.size m q) (hR : u.heap[rb]? = some (.cells c 28 (0, 0))) (hu : Below w.heap.size w u) {W : World} (hb : Below u.heap.size u W) (hm : MsMay m) (he : msgC m [] = bytesOf s) : GetP s w (.returned (.tuple #[msV m q, .int .i64 0])) (setAll W rb 0 us) :=
  ⟨(hu.trans (hb.mono hu.size)).trans (below_grown (setAll_one W rb 0 us) hr (Nat.le_trans hu.size hb.size)), .inl ⟨m, q, rfl, hm, he, hs, (ho.below hb).kept (setAll_one W rb 0 us) (heap_later hR hb) (by decide) (by decide) (by decide) (by decide) (by decide)⟩⟩

end Go.Proofs.YtjmfjlffcopnnaaDoor

namespace Go.Proofs.YtjmfjlffcopnnaaDoor
open Go.RowKit
open Go.Proofs.YtjmfjlffcopnnaaDoor.K (C RowC)

/-- A message that may be written over. -/
def SpM (w : World) (base : Nat) (m : Ms) (q : Mq) : Prop :=
  (m.es.length = 0 ∧ m.ns.length = 0 ∧ ∃ l, lyC.Own w base (.slice q.ep m.ed.length q.ec) l ∧ l.length ≤ 4096)
  ∨ (m.ed.length = 0 ∧ m.ns.length = 0 ∧ m.es.length ≤ 100000 ∧ ∃ B vs, SpE w base (.slice q.sp m.es.length q.sc) m.es.length B 0 vs ∧ ∀ j g, B j g → g < w.heap.size)
  ∨ (m.ed.length = 0 ∧ m.es.length = 0 ∧ m.ns.length ≤ 100000 ∧ ∃ vs, SpT w base (.slice q.np m.ns.length q.nc) m.ns.length vs ∧ ∀ x ∈ vs, x.kn ≤ 140737488355328)
theorem SpT.below {w w' : World} {base n : Nat} {v : Value} {vs : List Nv} (h : SpT w base v n vs) (hb : Below w.heap.size w w') : SpT w' base v n vs :=
  ⟨h.row.below hb, h.len, fun i x hx => by
    obtain ⟨l, hl⟩ := h.kids i x hx
    exact ⟨l, hl.below hb⟩, h.apart⟩
theorem SpM.later {w w' : World} {base : Nat} {m : Ms} {q : Mq} (h : SpM w base m q) (hb : Below w.heap.size w w') : SpM w' base m q := by
  rcases h with ⟨h1, h2, l, h3, h4⟩ | ⟨h1, h2, h3, B, vs, h4, h5⟩ | ⟨h1, h2, h3, vs, h4, h5⟩
  · exact .inl ⟨h1, h2, l, h3.below hb, h4⟩
  · exact .inr (.inl ⟨h1, h2, h3, B, vs, h4.later hb, fun j g e => Nat.lt_of_lt_of_le (h5 j g e) hb.size⟩)
  · exact .inr (.inr ⟨h1, h2, h3, vs, h4.below hb, h5⟩)

end Go.Proofs.YtjmfjlffcopnnaaDoor

namespace Go.Proofs.YtjmfjlffcopnnaaDoor
open Go.RowKit
open Go.Proofs.YtjmfjlffcopnnaaDoor.K (C RowC)

theorem four_new {W : World} {b : Nat} (hb : W.heap.size = b) (x : Ev) : ∀ j u, (Ev.cells x)[j]? = some u → (W.alloc (.cells (Ev.cells x).toArray 48)).cell? ((⟨b, 0, none⟩ : Addr).add j) = some u := by
  intro j u hu
  subst hb
  rw [add_plain, Nat.zero_add, World.cell?_alloc_at _ _ _ _ rfl]
  simpa using hu
def CopyCP (cs : List C) (w : World) (e : Ending) (w' : World) : Prop := ∃ p cap, e = .returned (.slice p cs.length cap) ∧ lyC.Own w' w.heap.size (.slice p cs.length cap) cs ∧ Below w.heap.size w w'
def CopyEP (es : List En) (w : World) (e : Ending) (w' : World) : Prop := ∃ p cap vs, e = .returned (.slice p es.length cap) ∧ OwnE w' w.heap.size (.slice p es.length cap) vs es ∧ Below w.heap.size w w'

end Go.Proofs.YtjmfjlffcopnnaaDoor

namespace Go.Proofs.YtjmfjlffcopnnaaDoor
open Go.RowKit
open Go.Proofs.YtjmfjlffcopnnaaDoor.K (C RowC)

/-- No longer than a computer's memory, in bytes. -/
structure MsB (m : Ms) : Prop where
  ed : m.ed.length * 32 ≤ 140737488355328
  es : m.es.length * 64 ≤ 140737488355328
  ns : m.ns.length * 56 ≤ 140737488355328
  tx : m.tx.size ≤ 140737488355328
  kids : ∀ x ∈ m.ns, x.kids.length * 8 ≤ 140737488355328
  each : ∀ e ∈ m.es, e.ed.length * 32 ≤ 140737488355328 ∧ e.dl.length * 64 ≤ 140737488355328 ∧ ∀ s ∈ e.dl, s.kids.length * 8 ≤ 140737488355328
theorem MsB.z {m : Ms} (h : MsB m) : MsZ m := by
  obtain ⟨h1, h2, h3, h4, h5, h6⟩ := h
  exact ⟨by omega, by omega, by omega, h4, fun x hx => by have := h5 x hx; omega, fun e he => by
    obtain ⟨a, b, c⟩ := h6 e he
    exact ⟨by omega, by omega, fun s hs => by have := c s hs; omega⟩⟩
def CopyMP (m : Ms) (w : World) (e : Ending) (w' : World) : Prop := ∃ q, e = .returned (msV m q) ∧ OwnM w' w.heap.size m q ∧ Below w.heap.size w w'

end Go.Proofs.YtjmfjlffcopnnaaDoor

namespace Go.Proofs.YtjmfjlffcopnnaaDoor
open Go.RowKit

end Go.Proofs.YtjmfjlffcopnnaaDoor

namespace Go.Proofs.YtjmfjlffcopnnaaDoor
open Go.RowKit
open Go.Proofs.YtjmfjlffcopnnaaDoor.K (C)

end Go.Proofs.YtjmfjlffcopnnaaDoor

namespace Go.Proofs.YtjmfjlffcopnnaaDoor
open Go.RowKit
open Go.Proofs.YtjmfjlffcopnnaaDoor.K (C)

end Go.Proofs.YtjmfjlffcopnnaaDoor

namespace Go.Proofs.YtjmfjlffcopnnaaDoor
open Go.RowKit
open Go.Proofs.YtjmfjlffcopnnaaDoor.K (C)

end Go.Proofs.YtjmfjlffcopnnaaDoor

namespace Go.Proofs.YtjmfjlffcopnnaaDoor
open Go.RowKit
open Go.Proofs.YtjmfjlffcopnnaaDoor.K (C)

/-- A box of another type stays, where the row of entries is written. -/
theorem box_staysE {w w' : World} {base k : Nat} {v : Value} {vs : List Ev} {c : Array Value} {ty : TypeId} (ho : lyE.Own w base v vs) (hg : w.grownBy w' v.ownBlock) (h : w.heap[k]? = some (.cells c ty (0, 0))) (hty : ty ≠ 48) : w'.heap[k]? = some (.cells c ty (0, 0)) :=
  (hg.block k (Array.getElem?_eq_some_iff.1 h).1 (fun e => by
    obtain ⟨cur, hcur⟩ := ho.obj e.symm
    exact type_ne h hcur hty rfl)).trans h
end Go.Proofs.YtjmfjlffcopnnaaDoor

namespace Go.Proofs.YtjmfjlffcopnnaaDoor
open Go.RowKit
open Go.Proofs.YtjmfjlffcopnnaaDoor.K (C)

end Go.Proofs.YtjmfjlffcopnnaaDoor
