/-
  A tree at a place of the row of nodes; rows of trees held against each other one by one; a text's bytes between two places. No program, no condition.
-/
import Derived.Test.YtmeigoeknjoodaaRnD
namespace Go.Proofs.Ytmeigoeknjoodaa

abbrev idI : Nat → Int := fun i => (i : Int)

/-- The tree x stands at place b of the row, within N bytes. -/
structure Sub (L : List Nd) (N b : Nat) (x : Nt) : Prop where
  row : ∃ r, L.drop b = ⟨(b : Int), x.kd, x.fr, x.to, x.ks.ids idI (b + 1)⟩ :: (x.ks.flat idI (b + 1) ++ r)
  span : x.fr ≤ x.to
  top : x.to ≤ N
  ok : x.ks.ok x.fr x.to

theorem Sub.get {L : List Nd} {N b : Nat} {x : Nt} (h : Sub L N b x) : L[b]? = some ⟨(b : Int), x.kd, x.fr, x.to, x.ks.ids idI (b + 1)⟩ := by
  obtain ⟨r, e⟩ := h.row
  have := congrArg (fun l => l[0]?) e
  simpa using this
theorem Sub.lt {L : List Nd} {N b : Nat} {x : Nt} (h : Sub L N b x) : b < L.length := (List.getElem?_eq_some_iff.1 h.get).1
theorem ids_len (w : Nat → Int) : ∀ (f : Fo) (b c : Nat), (f.ids w b).length = (f.tops c).length
  | .nil, _, _ => rfl
  | .cons _ _ _ k r, b, c => by simp only [Fo.ids, Fo.tops, List.length_cons, ids_len w r (b + 1 + k.size) (c + 1 + k.size)]
/-- The trees of a forest. -/
def Fo.trees (f : Fo) : List Nt := (f.tops 0).map Prod.snd
theorem tops_snd : ∀ (f : Fo) (b : Nat), (f.tops b).map Prod.snd = f.trees
  | .nil, _ => rfl
  | .cons kd fr to k r, b => by
    unfold Fo.trees
    simp only [Fo.tops, List.map_cons, tops_snd r]
theorem trees_cons (kd fr to : Nat) (k r : Fo) : (Fo.cons kd fr to k r).trees = ⟨kd, fr, to, k⟩ :: r.trees := by
  conv => lhs; unfold Fo.trees
  simp only [Fo.tops, List.map_cons, tops_snd]
theorem trees_len (w : Nat → Int) (f : Fo) (b : Nat) : (f.ids w b).length = f.trees.length := by
  unfold Fo.trees
  rw [List.length_map]; exact ids_len w f b 0
theorem tops_size : ∀ (f : Fo) (b i : Nat) (o : Nat × Nt), (f.tops b)[i]? = some o → o.2.size ≤ f.size
  | .nil, _, _, _, h => by simp [Fo.tops] at h
  | .cons kd fr to k r, b, 0, o, h => by
    simp only [Fo.tops, List.getElem?_cons_zero, Option.some.injEq] at h
    subst h
    simp only [Nt.size, Fo.size]; omega
  | .cons kd fr to k r, b, i + 1, o, h => by
    simp only [Fo.tops, List.getElem?_cons_succ] at h
    have := tops_size r _ i o h
    simp only [Fo.size]; omega
theorem tops_sub {L : List Nd} {N : Nat} : ∀ (f : Fo) (b lo hi : Nat) (r : List Nd), L.drop b = f.flat idI b ++ r → f.ok lo hi → hi ≤ N → ∀ (i : Nat) (o : Nat × Nt), (f.tops b)[i]? = some o → Sub L N o.1 o.2 ∧ (f.ids idI b)[i]? = some (o.1 : Int)
  | .nil, _, _, _, _, _, _, _, _, _, h => by simp [Fo.tops] at h
  | .cons kd fr to k r', b, lo, hi, r, h, hok, hN, 0, o, ho => by
    simp only [Fo.tops, List.getElem?_cons_zero, Option.some.injEq] at ho
    subst ho
    obtain ⟨h1, h2, h3, h4, h5, h6, h7⟩ := hok
    have := Fo.ok_le h7
    refine ⟨⟨⟨r'.flat idI (b + 1 + k.size) ++ r, ?_⟩, h2, by dsimp only; omega, h6⟩, by simp [Fo.ids]⟩
    rw [h]
    simp [Fo.flat, List.append_assoc]
  | .cons kd fr to k r', b, lo, hi, r, h, hok, hN, i + 1, o, ho => by
    simp only [Fo.tops, List.getElem?_cons_succ] at ho
    obtain ⟨h1, h2, h3, h4, h5, h6, h7⟩ := hok
    have e : L.drop (b + 1 + k.size) = r'.flat idI (b + 1 + k.size) ++ r := by
      rw [Nat.add_assoc, ← List.drop_drop, h]
      have e2 : (Fo.cons kd fr to k r').flat idI b = ⟨idI b, kd, fr, to, k.ids idI (b + 1)⟩ :: (k.flat idI (b + 1) ++ r'.flat idI (b + 1 + k.size)) := rfl
      rw [e2, Nat.add_comm 1 k.size, List.cons_append, List.drop_succ_cons, List.append_assoc, List.drop_left' (Fo.flat_len idI k (b + 1))]
      congr 2; omega
    have := tops_sub r' (b + 1 + k.size) to hi r e h7 hN i o ho
    refine ⟨this.1, ?_⟩
    simp only [Fo.ids, List.getElem?_cons_succ]
    exact this.2
/-- A child of a tree at a place stands at a place of its own. -/
theorem Sub.kid {L : List Nd} {N b : Nat} {x : Nt} (h : Sub L N b x) {i : Nat} {o : Nat × Nt} (ho : (x.ks.tops (b + 1))[i]? = some o) : Sub L N o.1 o.2 ∧ (x.ks.ids idI (b + 1))[i]? = some (o.1 : Int) ∧ o.2.size < x.size := by
  obtain ⟨r, e⟩ := h.row
  have e1 : L.drop (b + 1) = x.ks.flat idI (b + 1) ++ r := by rw [← List.drop_drop, e]; rfl
  have := tops_sub x.ks (b + 1) x.fr x.to r e1 h.ok h.top i o ho
  refine ⟨this.1, this.2, ?_⟩
  have := tops_size x.ks (b + 1) i o ho
  unfold Nt.size at *; omega
theorem Sub.root (l : List UInt8) : Sub (parN l) l.length 0 ⟨0, 0, l.length, parK l⟩ := by
  refine ⟨⟨[], ?_⟩, by simp, by simp, (parK_ok l).1⟩
  unfold parN parF
  simp [Fo.flat]
/-- A node's id is its place. -/
theorem par_id {l : List UInt8} {k : Nat} {x : Nd} (h : (parN l)[k]? = some x) : x.id = (k : Int) := by
  have e : ((parN l).map Nd.id)[k]? = some x.id := by rw [List.getElem?_map, h]; rfl
  have hk : k < (parK l).size + 1 := by rw [← parN_len]; exact (List.getElem?_eq_some_iff.1 h).1
  rw [parN_ids, List.getElem?_map, List.getElem?_range' hk] at e
  simp only [Option.map_some, Option.some.injEq] at e
  omega

/-! Two rows of trees, one by one -/
def likeL (s u : List UInt8) (a b : Nat) : List Nt → List Nt → Bool
  | [], [] => true
  | x :: xs, y :: ys => decide ((x.fr : Int) - a = (y.fr : Int) - b) && likeN s u x y && likeL s u a b xs ys
  | _, _ => false
theorem likeF_L (s u : List UInt8) : ∀ (f g : Fo) (a b : Nat), likeF s u a b f g = likeL s u a b f.trees g.trees
  | .nil, .nil, _, _ => rfl
  | .nil, .cons .., _, _ => by rw [trees_cons]; rfl
  | .cons .., .nil, _, _ => by rw [trees_cons]; rfl
  | .cons kd fr to k r, .cons kd' fr' to' k' r', a, b => by
    rw [trees_cons, trees_cons]
    simp only [likeF, likeL, likeN, likeF_L s u r r' a b]
    generalize decide ((fr : Int) - a = (fr' : Int) - b) = q1
    generalize (kd == kd') = q2
    generalize (bytesL s fr to == bytesL u fr' to') = q3
    generalize likeF s u fr fr' k k' = q4
    generalize likeL s u a b r.trees r'.trees = q5
    cases q1 <;> cases q2 <;> cases q3 <;> cases q4 <;> cases q5 <;> rfl
theorem likeL_len {s u : List UInt8} {a b : Nat} : ∀ {xs ys : List Nt}, xs.length ≠ ys.length → likeL s u a b xs ys = false
  | [], [], h => absurd rfl h
  | [], _ :: _, _ => rfl
  | _ :: _, [], _ => rfl
  | x :: xs, y :: ys, h => by
    unfold likeL
    rw [likeL_len (xs := xs) (ys := ys) (fun e => h (by simp [e])), Bool.and_false]
theorem likeL_drop {s u : List UInt8} {a b : Nat} {xs ys : List Nt} {i : Nat} {x y : Nt} (hx : xs[i]? = some x) (hy : ys[i]? = some y) :
    likeL s u a b (xs.drop i) (ys.drop i) = (decide ((x.fr : Int) - a = (y.fr : Int) - b) && likeN s u x y && likeL s u a b (xs.drop (i + 1)) (ys.drop (i + 1))) := by
  obtain ⟨h1, e1⟩ := List.getElem?_eq_some_iff.1 hx
  obtain ⟨h2, e2⟩ := List.getElem?_eq_some_iff.1 hy
  rw [List.drop_eq_getElem_cons h1, List.drop_eq_getElem_cons h2, e1, e2]
  rfl
/-- A text's bytes between two places. -/
theorem ext_bytes (s : ByteArray) (a b : Nat) : (s.extract a b).data.toList = bytesL s.data.toList a b := by
  unfold bytesL
  rw [ByteArray.data_extract, Array.toList_extract, List.extract_eq_take_drop]
theorem ext_eq (s u : ByteArray) (a b c d : Nat) : decide (s.extract a b = u.extract c d) = (bytesL s.data.toList a b == bytesL u.data.toList c d) := by
  rw [← ext_bytes, ← ext_bytes]
  by_cases h : s.extract a b = u.extract c d
  · rw [h]; simp
  · have h' : (s.extract a b).data.toList ≠ (u.extract c d).data.toList := fun e => h (ByteArray.ext (Array.toList_inj.1 e))
    rw [beq_eq_false_iff_ne.2 h', decide_eq_false h]

end Go.Proofs.Ytmeigoeknjoodaa
