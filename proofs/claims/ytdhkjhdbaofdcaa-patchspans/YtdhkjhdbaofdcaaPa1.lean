/-
  Steps upon nodes that rise by id, as lists and in memory: what a walk over them wants. No condition.
-/
import Derived.Test.YtdhkjhdbaofdcaaPlA
namespace Go.Proofs.Ytdhkjhdbaofdcaa
open Go.RowKit

theorem rise_ne : ∀ {ns : List Nd} {k : Nat} {x : Nd}, risesB ns = true → ns[k]? = some x → (∀ y ∈ ns.take k, y.id ≠ x.id) ∧ (∀ y ∈ ns.drop (k + 1), y.id ≠ x.id)
  | [], _, _, _, h => by simp at h
  | y :: r, 0, x, hr, h => by
    obtain ⟨h1, _⟩ := rises_cons.1 hr
    simp at h
    subst h
    exact ⟨fun z hz => by simp at hz, fun z hz => by
      have := h1 z (by simpa using hz)
      omega⟩
  | y :: r, k + 1, x, hr, h => by
    obtain ⟨h1, h2⟩ := rises_cons.1 hr
    rw [List.getElem?_cons_succ] at h
    obtain ⟨a, b⟩ := rise_ne h2 h
    have hm := h1 x (List.mem_of_getElem? h)
    refine ⟨fun z hz => ?_, fun z hz => b z (by simpa using hz)⟩
    rw [List.take_succ_cons] at hz
    rcases List.mem_cons.1 hz with rfl | hz
    · omega
    · exact a z hz
theorem part_at {α : Type} {l : List α} {k : Nat} {x : α} (h : l[k]? = some x) : l = l.take k ++ x :: l.drop (k + 1) := by
  obtain ⟨hl, he⟩ := List.getElem?_eq_some_iff.1 h
  rw [← he]
  simp
theorem act_drop {ns : List Nd} {k : Nat} {x : Nd} (hr : risesB ns = true) (hx : ns[k]? = some x) : ns.filter (fun y => !(y.id == x.id)) = ns.take k ++ ns.drop (k + 1) := by
  obtain ⟨a, b⟩ := rise_ne hr hx
  conv => lhs; rw [part_at hx]
  rw [List.filter_append, List.filter_cons_of_neg (by simp)]
  congr 1
  · exact List.filter_eq_self.2 (fun y hy => by simpa using a y hy)
  · exact List.filter_eq_self.2 (fun y hy => by simpa using b y hy)
theorem act_map {ns : List Nd} {k : Nat} {x : Nd} (f : Nd → Nd) (hr : risesB ns = true) (hx : ns[k]? = some x) : ns.map (fun y => if y.id = x.id then f y else y) = ns.set k (f x) := by
  obtain ⟨a, b⟩ := rise_ne hr hx
  have hl := (List.getElem?_eq_some_iff.1 hx).1
  conv => lhs; rw [part_at hx]
  rw [List.map_append, List.map_cons, if_pos rfl, List.set_eq_take_append_cons_drop, if_pos hl]
  congr 1
  · refine (List.map_congr_left (g := id) fun y hy => ?_).trans (List.map_id _)
    rw [if_neg (a y hy)]; rfl
  · congr 1
    refine (List.map_congr_left (g := id) fun y hy => ?_).trans (List.map_id _)
    rw [if_neg (b y hy)]; rfl

/-- Nodes between the steps: they rise, are not too many, no one has too many children. -/
structure PN (ns : List Nd) (i : Nat) : Prop where
  rises : risesB ns = true
  len : ns.length ≤ 2048 + i
  kids : ∀ x ∈ ns, x.kids.length ≤ 2048
theorem fits_parts {s : St} {ns : List Nd} (h : fitsN s ns = true) : stepMay s = true ∧ ((getN ns s.id).isNone = true ↔ s.kd = 1) := by
  unfold fitsN at h
  rw [Bool.and_eq_true] at h
  refine ⟨h.1, ?_⟩
  have h2 := beq_iff_eq.1 h.2
  rw [h2]
  exact beq_iff_eq
theorem may_kids {s : St} (h : stepMay s = true) : s.kids.length ≤ 2048 := by
  unfold stepMay at h
  simp only [Bool.and_eq_true, Bool.or_eq_true, decide_eq_true_eq, List.isEmpty_iff] at h
  obtain ⟨-, ((⟨-, h⟩ | ⟨-, h⟩) | ⟨-, h⟩) | ⟨-, h⟩⟩ := h
  · rw [h]; simp
  · rw [h]; simp
  · exact h
  · rw [h]; simp
theorem may_id {s : St} (h : stepMay s = true) : 0 ≤ s.id ∧ s.id < 16777216 := by
  unfold stepMay idB at h
  simp only [Bool.and_eq_true, decide_eq_true_eq] at h
  exact h.1
theorem may_kd {s : St} (h : stepMay s = true) : s.kd = 0 ∨ s.kd = 1 ∨ s.kd = 2 ∨ s.kd = 3 := by
  unfold stepMay at h
  simp only [Bool.and_eq_true, Bool.or_eq_true, beq_iff_eq] at h
  obtain ⟨-, ((h | h) | h) | h⟩ := h
  · exact .inl h.1.1.1.1
  · exact .inr (.inl h.1.1.1.1.1)
  · exact .inr (.inr (.inl h.1.1.1.1.1))
  · exact .inr (.inr (.inr h.1.1.1.1.1))
theorem act_PN {s : St} {ns : List Nd} {nx : Int} {i : Nat} (h : PN ns i) (hf : fitsN s ns = true) : PN (actN s (ns, nx)).1 (i + 1) := by
  obtain ⟨hm, hi⟩ := fits_parts hf
  have hl := h.len
  unfold actN
  by_cases k0 : s.kd = 0
  · rw [if_pos k0]
    refine ⟨rises_filter _ h.rises, Nat.le_trans (List.length_filter_le ..) (by show ns.length ≤ 2048 + (i + 1); omega), fun x hx => h.kids x (List.mem_filter.1 hx).1⟩
  · rw [if_neg k0]
    by_cases k1 : s.kd = 1
    · rw [if_pos k1]
      have hn := get_none.1 (Option.isNone_iff_eq_none.1 (hi.2 k1))
      have hp := ins_perm ⟨s.id, s.nd, 0, 0, []⟩ ns
      refine ⟨ins_rises _ ns h.rises hn, ?_, fun x hx => ?_⟩
      · have := hp.length_eq
        rw [List.length_cons] at this
        dsimp only
        omega
      · rcases List.mem_cons.1 (hp.mem_iff.1 hx) with rfl | hx
        · simp
        · exact h.kids x hx
    · rw [if_neg k1]
      by_cases k2 : s.kd = 2
      · rw [if_pos k2]
        refine ⟨rises_map _ (fun x => by split <;> rfl) h.rises, by rw [List.length_map]; show ns.length ≤ 2048 + (i + 1); omega, fun x hx => ?_⟩
        obtain ⟨y, hy, rfl⟩ := List.mem_map.1 hx
        split
        · exact may_kids hm
        · exact h.kids y hy
      · rw [if_neg k2]
        refine ⟨rises_map _ (fun x => by split <;> rfl) h.rises, by rw [List.length_map]; show ns.length ≤ 2048 + (i + 1); omega, fun x hx => ?_⟩
        obtain ⟨y, hy, rfl⟩ := List.mem_map.1 hx
        split
        · exact h.kids y hy
        · exact h.kids y hy
theorem do_step {ss : List St} {i : Nat} {s : St} (h : ss[i]? = some s) (p : List Nd × Int) : doN (ss.drop i) p = if fitsN s p.1 = true then doN (ss.drop (i + 1)) (actN s p) else none := by
  have e : ss.drop i = s :: ss.drop (i + 1) := by
    obtain ⟨hl, he⟩ := List.getElem?_eq_some_iff.1 h
    rw [← he]
    simp
  rw [e]
  rfl

/-! In memory -/
theorem cut_get {α : Type} (l : List α) (k : Nat) (hk : k < l.length) (i : Nat) : (l.take k ++ l.drop (k + 1))[i]? = l[if i < k then i else i + 1]? := by
  by_cases h : i < k
  · rw [if_pos h, List.getElem?_append_left (by rw [List.length_take]; omega), List.getElem?_take_of_lt h]
  · rw [if_neg h, List.getElem?_append_right (by rw [List.length_take]; omega), List.getElem?_drop, List.length_take]
    congr 1
    omega
/-- A node taken out, what is left in one row. -/
theorem OwnT.erase {w w' : World} {base k : Nat} {v v' : Value} {vs : List Nv} {ns : List Nd} (h : OwnT w base v vs ns) (hb : Below w.heap.size w w') (hk : k < vs.length) (ho : lyN.Own w' base v' (vs.take k ++ vs.drop (k + 1))) : OwnT w' base v' (vs.take k ++ vs.drop (k + 1)) (ns.take k ++ ns.drop (k + 1)) := by
  have hl := h.len
  refine ⟨ho, by simp [hl], fun i y m hy hm => ?_, fun i j y z g hy hz hij hg => ?_⟩
  · rw [cut_get vs k hk] at hy
    rw [cut_get ns k (by omega)] at hm
    obtain ⟨a, b, c, d, e⟩ := h.fit _ y m hy hm
    exact ⟨a, b, c, d, e.below hb⟩
  · rw [cut_get vs k hk] at hy hz
    refine h.apart _ _ y z g hy hz ?_ hg
    intro e
    split at e <;> split at e <;> omega
/-- A node written over with one that has children of a new row. -/
theorem OwnT.setK {w W : World} {base g n cap id : Nat} {vs : List Nv} {ns : List Nd} (h : OwnT w base (.slice (some ⟨g, 0, none⟩) n cap) vs ns) (hlt : id < vs.length) (hb : Below w.heap.size w W) (v' : Nv) (m' : Nd)
    (hf : v'.id = m'.id ∧ v'.kd = m'.kd ∧ v'.fr = m'.fr ∧ v'.tt = Nd.to m') (hk : lyI.Own W base v'.kv m'.kids) (hnew : ∀ k, v'.kv.ownBlock = some k → w.heap.size ≤ k) : OwnT (setAll W g (id * 5) (Nv.cells v')) base (.slice (some ⟨g, 0, none⟩) n cap) (vs.set id v') (ns.set id m') := by
  have hW := h.below hb
  have old : ∀ (i : Nat) (u : Nv) (k : Nat), vs[i]? = some u → u.kv.ownBlock = some k → k < w.heap.size := by
    intro i u k hu hk
    have hl : i < ns.length := by rw [← h.len]; exact (List.getElem?_eq_some_iff.1 hu).1
    exact ((h.fit i u _ hu (List.getElem?_eq_getElem hl)).2.2.2.2.lt hk).2
  have keepI : ∀ (u : Value) (l : List Int), lyI.Own W base u l → lyI.Own (setAll W g (id * 5) (Nv.cells v')) base u l := fun u l e5 => e5.kept (setAll_one ..) (fun k hk' e0 => by
    cases e0
    obtain ⟨cur, hcur⟩ := e5.obj hk'
    obtain ⟨cur', hcur'⟩ := hW.row.obj (g := g) rfl
    exact type_ne hcur hcur' (by decide) rfl)
  have keep : ∀ (i : Nat) (u : Nv), (vs.set id v')[i]? = some u → (i ≠ id ∧ vs[i]? = some u) ∨ (i = id ∧ u = v') := by
    intro i u hu
    by_cases e : i = id
    · subst e
      rw [List.getElem?_set_self hlt] at hu
      cases hu
      exact .inr ⟨rfl, rfl⟩
    · rw [List.getElem?_set_ne (Ne.symm e)] at hu
      exact .inl ⟨e, hu⟩
  obtain ⟨v, hv⟩ : ∃ v, vs[id]? = some v := ⟨_, List.getElem?_eq_getElem hlt⟩
  refine ⟨hW.row.set hv v', by simp [h.len], ?_, ?_⟩
  · intro i u x hu hx
    rcases keep i u hu with ⟨e, h2⟩ | ⟨e, h2⟩
    · rw [List.getElem?_set_ne (Ne.symm e)] at hx
      obtain ⟨a, b, c, d, e5⟩ := hW.fit i u x h2 hx
      exact ⟨a, b, c, d, keepI _ _ e5⟩
    · subst e
      rw [List.getElem?_set_self (by rw [← h.len]; exact hlt)] at hx
      cases hx
      rw [h2]
      obtain ⟨a, b, c, d⟩ := hf
      exact ⟨a, b, c, d, keepI _ _ hk⟩
  · intro i j x y k hx hy hij hk'
    rcases keep i x hx with ⟨e1, h1⟩ | ⟨e1, h1⟩ <;> rcases keep j y hy with ⟨e2, h2⟩ | ⟨e2, h2⟩
    · exact h.apart i j x y k h1 h2 hij hk'
    · rw [h2]
      intro e
      have := hnew k e
      have := old i x k h1 hk'
      omega
    · rw [h1] at hk'
      intro e
      have := hnew k hk'
      have := old j y k h2 e
      omega
    · omega

end Go.Proofs.Ytdhkjhdbaofdcaa
