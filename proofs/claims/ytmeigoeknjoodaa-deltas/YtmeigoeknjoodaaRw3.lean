/-
  A piece of a row of ids written over; which ids a new tree's nodes take, child by child. No program, no condition.
-/
import Derived.Test.YtmeigoeknjoodaaRw1
namespace Go.Proofs.Ytmeigoeknjoodaa

/-- l' is l, but from place a on it holds v. -/
structure Put (l l' : List Int) (a : Nat) (v : List Int) : Prop where
  len : l'.length = l.length
  out : ∀ m, m < a ∨ a + v.length ≤ m → l'[m]? = l[m]?
  inn : ∀ k, k < v.length → l'[a + k]? = v[k]?

theorem Put.refl (l : List Int) (a : Nat) : Put l l a [] := ⟨rfl, fun _ _ => rfl, fun k h => by simp at h⟩
theorem Put.set {l : List Int} {a : Nat} (h : a < l.length) (x : Int) : Put l (l.set a x) a [x] :=
  ⟨by simp, fun m hm => by
    rw [List.getElem?_set_ne]
    simp at hm; omega, fun k hk => by
    simp at hk
    subst hk
    simp [h]⟩
theorem Put.app {l l1 l2 : List Int} {a b : Nat} {v u : List Int} (h : Put l l1 a v) (h2 : Put l1 l2 b u) (hb : b = a + v.length) : Put l l2 a (v ++ u) := by
  subst hb
  refine ⟨h2.len.trans h.len, fun m hm => ?_, fun k hk => ?_⟩
  · rw [List.length_append] at hm
    rw [h2.out m (by omega), h.out m (by omega)]
  · by_cases hv : k < v.length
    · rw [h2.out _ (by omega), h.inn k hv, List.getElem?_append_left hv]
    · rw [List.length_append] at hk
      have := h2.inn (k - v.length) (by omega)
      rw [show a + v.length + (k - v.length) = a + k by omega] at this
      rw [this, List.getElem?_append_right (by omega)]
theorem Put.pre {l l1 l2 : List Int} {a b : Nat} {v u : List Int} (h : Put l l1 b u) (h2 : Put l1 l2 a v) (hb : b = a + v.length) : Put l l2 a (v ++ u) := by
  subst hb
  refine ⟨h2.len.trans h.len, fun m hm => ?_, fun k hk => ?_⟩
  · rw [List.length_append] at hm
    rw [h2.out m (by omega), h.out m (by omega)]
  · by_cases hv : k < v.length
    · rw [h2.inn k hv, List.getElem?_append_left hv]
    · rw [List.length_append] at hk
      have := h.inn (k - v.length) (by omega)
      rw [show a + v.length + (k - v.length) = a + k by omega] at this
      rw [h2.out _ (by omega), this, List.getElem?_append_right (by omega)]
theorem Put.gap {l l' : List Int} {a : Nat} {v : List Int} (h : Put l l' a v) (n : Nat) (hn : ∀ k, k < n → l[a + v.length + k]? = some (-1)) : Put l l' a (v ++ List.replicate n (-1)) := by
  refine ⟨h.len, fun m hm => h.out m (by rw [List.length_append] at hm; omega), fun k hk => ?_⟩
  by_cases hv : k < v.length
  · rw [h.inn k hv, List.getElem?_append_left hv]
  · rw [List.length_append, List.length_replicate] at hk
    rw [h.out _ (by omega), List.getElem?_append_right (by omega), List.getElem?_replicate, if_pos (by omega)]
    have := hn (k - v.length) (by omega)
    rwa [show a + v.length + (k - v.length) = a + k by omega] at this
theorem Put.whole {l l' v : List Int} (h : Put l l' 0 v) (hl : v.length = l.length) : l' = v := by
  apply List.ext_getElem?
  intro m
  by_cases hm : m < v.length
  · have := h.inn m hm
    rwa [Nat.zero_add] at this
  · rw [h.out m (by omega), List.getElem?_eq_none (by omega), List.getElem?_eq_none (by omega)]

def segV (r : List (Option Nat)) : List Int := r.map (fun o => match o with
  | some v => (v : Int)
  | none => -1)
def rg (b n : Nat) : List Int := (List.range' b n).map (fun (i : Nat) => (i : Int))
theorem rg_len (b n : Nat) : (rg b n).length = n := by simp [rg]
theorem rg_app (b m n : Nat) : rg b (m + n) = rg b m ++ rg (b + m) n := by
  unfold rg
  rw [← List.map_append, List.range'_append_1]
theorem rg_one (b : Nat) : rg b 1 = [(b : Int)] := rfl
theorem seg_whole (b n : Nat) : segV (wholeA b n) = rg b n := by
  unfold segV wholeA rg
  rw [List.map_map]; rfl
theorem seg_none (n : Nat) : segV (noneA n) = List.replicate n (-1) := by
  unfold segV noneA
  rw [List.map_replicate]
theorem seg_app (a b : List (Option Nat)) : segV (a ++ b) = segV a ++ segV b := by simp [segV]
theorem seg_len (a : List (Option Nat)) : (segV a).length = a.length := by simp [segV]

/-- How many nodes the first trees have. -/
def offs (ns : List Nt) (k : Nat) : Nat := ((ns.take k).map Nt.size).sum
theorem offs_succ {ns : List Nt} {k : Nat} {x : Nt} (h : ns[k]? = some x) : offs ns (k + 1) = offs ns k + x.size := by
  unfold offs
  rw [List.take_add_one, h]; simp
theorem offs_all (ns : List Nt) {k : Nat} (h : ns.length ≤ k) : offs ns k = (ns.map Nt.size).sum := by
  unfold offs
  rw [List.take_of_length_le h]
theorem trees_size : ∀ f : Fo, (f.trees.map Nt.size).sum = f.size
  | .nil => rfl
  | .cons kd fr to k r => by
    rw [trees_cons, List.map_cons, List.sum_cons, trees_size r]
    simp only [Nt.size, Fo.size]
theorem tops_at : ∀ (f : Fo) (b k : Nat) (o : Nat × Nt), (f.tops b)[k]? = some o → o.1 = b + offs f.trees k ∧ f.trees[k]? = some o.2
  | .nil, _, _, _, h => by simp [Fo.tops] at h
  | .cons kd fr to ks r, b, 0, o, h => by
    simp only [Fo.tops, List.getElem?_cons_zero, Option.some.injEq] at h
    subst h
    rw [trees_cons]
    exact ⟨by simp [offs], rfl⟩
  | .cons kd fr to ks r, b, k + 1, o, h => by
    simp only [Fo.tops, List.getElem?_cons_succ] at h
    obtain ⟨h1, h2⟩ := tops_at r _ k o h
    rw [trees_cons, List.getElem?_cons_succ]
    refine ⟨?_, h2⟩
    rw [h1]
    unfold offs
    simp only [List.take_succ_cons, List.map_cons, List.sum_cons, Nt.size]
    omega
theorem like_pairs {s u : List UInt8} {a b : Nat} : ∀ {xs ys : List Nt}, likeL s u a b xs ys = true → xs.length = ys.length ∧ ∀ (i : Nat) (x y : Nt), xs[i]? = some x → ys[i]? = some y → likeN s u x y = true
  | [], [], _ => ⟨rfl, fun i x y h => by simp at h⟩
  | [], _ :: _, h => by simp [likeL] at h
  | _ :: _, [], h => by simp [likeL] at h
  | x :: xs, y :: ys, h => by
    simp only [likeL, Bool.and_eq_true] at h
    obtain ⟨h1, h2⟩ := like_pairs (xs := xs) (ys := ys) h.2
    refine ⟨by simp [h1], fun i z w hz hw => ?_⟩
    cases i with
    | zero => simp at hz hw; subst hz; subst hw; exact h.1.2
    | succ i => exact h2 i z w (by simpa using hz) (by simpa using hw)
theorem like_kids {s u : List UInt8} {x y : Nt} (h : likeN s u x y = true) : likeL s u x.fr y.fr x.ks.trees y.ks.trees = true := by
  simp only [likeN, Bool.and_eq_true] at h
  rw [← likeF_L]; exact h.2
theorem like_size {s u : List UInt8} {x y : Nt} (h : likeN s u x y = true) : x.size = y.size := by
  rw [← Nt.kinds_len, ← Nt.kinds_len, likeN_kinds h]
theorem like_offs {s u : List UInt8} {a b : Nat} {xs ys : List Nt} (h : likeL s u a b xs ys = true) (k : Nat) : offs xs k = offs ys k := by
  obtain ⟨h1, h2⟩ := like_pairs h
  induction k with
  | zero => rfl
  | succ k ih =>
    by_cases hk : k < xs.length
    · have e1 := List.getElem?_eq_getElem hk
      have e2 := List.getElem?_eq_getElem (show k < ys.length by omega)
      rw [offs_succ e1, offs_succ e2, ih, like_size (h2 k _ _ e1 e2)]
    · rw [offs_all xs (by omega), ← offs_all xs (k := k) (by omega), ih, offs_all ys (k := k) (by omega), offs_all ys (by omega)]

/-! What alA does, child by child -/
theorem front_take {os : List (Nat × Nt)} {ns : List Nt} {i : Nat} {o : Nat × Nt} {n : Nt} (ho : os[i]? = some o) (hn : ns[i]? = some n) : frontA (os.take (i + 1)) (ns.take (i + 1)) = frontA (os.take i) (ns.take i) ++ wholeA o.1 n.size := by
  induction i generalizing os ns with
  | zero =>
    cases os with
    | nil => simp at ho
    | cons a os => cases ns with
      | nil => simp at hn
      | cons b ns =>
        simp at ho hn
        subst ho; subst hn
        simp [frontA]
  | succ i ih =>
    cases os with
    | nil => simp at ho
    | cons a os => cases ns with
      | nil => simp at hn
      | cons b ns =>
        simp only [List.getElem?_cons_succ] at ho hn
        simp only [List.take_succ_cons, frontA, ih ho hn, List.append_assoc]
theorem front_len : ∀ {os : List (Nat × Nt)} {ns : List Nt}, os.length = ns.length → (frontA os ns).length = (ns.map Nt.size).sum
  | [], [], _ => rfl
  | [], _ :: _, h => by simp at h
  | _ :: _, [], h => by simp at h
  | o :: os, n :: ns, h => by
    simp only [frontA, List.length_append, List.map_cons, List.sum_cons, front_len (os := os) (ns := ns) (by simpa using h)]
    simp [wholeA]
theorem mid_take {g : Nat → Nt → Nt → List (Option Nat)} {os : List (Nat × Nt)} {ns : List Nt} {i : Nat} {o : Nat × Nt} {n : Nt} (ho : os[i]? = some o) (hn : ns[i]? = some n) :
    midA g (os.take (i + 1)) (ns.take (i + 1)) = midA g (os.take i) (ns.take i) ++ (if o.2.kd = n.kd then g o.1 o.2 n else noneA n.size) := by
  induction i generalizing os ns with
  | zero =>
    cases os with
    | nil => simp at ho
    | cons a os => cases ns with
      | nil => simp at hn
      | cons b ns =>
        simp at ho hn
        subst ho; subst hn
        simp [midA]
  | succ i ih =>
    cases os with
    | nil => simp at ho
    | cons a os => cases ns with
      | nil => simp at hn
      | cons b ns =>
        simp only [List.getElem?_cons_succ] at ho hn
        simp only [List.take_succ_cons, midA, ih ho hn, List.append_assoc]
theorem mid_nil (g : Nat → Nt → Nt → List (Option Nat)) : ∀ ns : List Nt, midA g [] ns = noneA (ns.map Nt.size).sum
  | [] => rfl
  | n :: ns => by
    rw [midA, mid_nil g ns]
    simp [noneA]
theorem mid_nilR (g : Nat → Nt → Nt → List (Option Nat)) (os : List (Nat × Nt)) : midA g os [] = [] := by cases os <;> rfl
/-- The pairs one by one, then those that are left. -/
theorem mid_end {g : Nat → Nt → Nt → List (Option Nat)} : ∀ (k : Nat) {os : List (Nat × Nt)} {ns : List Nt}, k ≤ os.length → k ≤ ns.length → (k = os.length ∨ k = ns.length) → midA g os ns = midA g (os.take k) (ns.take k) ++ noneA ((ns.drop k).map Nt.size).sum
  | 0, [], ns, _, _, _ => by rw [List.take_zero, List.take_zero, mid_nilR, mid_nil]; rfl
  | 0, o :: os, [], _, _, _ => by rw [mid_nilR]; rfl
  | 0, o :: os, n :: ns, _, _, h => by simp at h
  | k + 1, [], ns, h, _, _ => by simp at h
  | k + 1, _ :: _, [], _, h, _ => by simp at h
  | k + 1, o :: os, n :: ns, h1, h2, h3 => by
    simp only [List.length_cons, Nat.add_le_add_iff_right, Nat.add_right_cancel_iff] at h1 h2 h3
    simp only [List.take_succ_cons, List.drop_succ_cons, midA, mid_end k h1 h2 h3, List.append_assoc]
theorem ahead_step {p : Nt → Nt → Bool} {os : List (Nat × Nt)} {ns : List Nt} {i : Nat} {o : Nat × Nt} {n : Nt} (ho : os[i]? = some o) (hn : ns[i]? = some n) :
    aheadC p (os.drop i) (ns.drop i) = if p o.2 n then aheadC p (os.drop (i + 1)) (ns.drop (i + 1)) + 1 else 0 := by
  obtain ⟨h1, e1⟩ := List.getElem?_eq_some_iff.1 ho
  obtain ⟨h2, e2⟩ := List.getElem?_eq_some_iff.1 hn
  rw [List.drop_eq_getElem_cons h1, List.drop_eq_getElem_cons h2, e1, e2]
  rfl
theorem ahead_end {p : Nt → Nt → Bool} {os : List (Nat × Nt)} {ns : List Nt} {i : Nat} (h : os.length ≤ i ∨ ns.length ≤ i) : aheadC p (os.drop i) (ns.drop i) = 0 := by
  rcases h with h | h
  · rw [List.drop_eq_nil_of_le h]; rfl
  · rw [List.drop_eq_nil_of_le h]
    cases os.drop i <;> rfl
theorem al_len {s u : List UInt8} : ∀ (n b : Nat) (x y : Nt), (alA s u n b x y).length = y.size := by
  intro n
  induction n with
  | zero => intro b x y; simp [alA, noneA, Nt.size]; omega
  | succ n ih =>
    intro b x y
    unfold alA
    dsimp only
    have hm : ∀ (os : List (Nat × Nt)) (ns : List Nt), (midA (alA s u n) os ns).length = (ns.map Nt.size).sum := by
      intro os
      induction os with
      | nil => intro ns; rw [mid_nil]; simp [noneA]
      | cons o os ihh =>
        intro ns
        cases ns with
        | nil => rfl
        | cons m ns =>
          simp only [midA, List.length_append, ihh, List.map_cons, List.sum_cons]
          congr 1
          split
          · exact ih _ _ _
          · simp [noneA]
    have hks := trees_size y.ks
    have h0 : (y.ks.tops 0).map Prod.snd = y.ks.trees := rfl
    rw [h0]
    generalize x.ks.tops (b + 1) = os
    generalize y.ks.trees = ns at hks ⊢
    have h1 := ahead_lk (likeN s u) os ns
    generalize aheadC (likeN s u) os ns = i at h1 ⊢
    have h2 := ahead_lk (likeN s u) (os.drop i).reverse (ns.drop i).reverse
    generalize aheadC (likeN s u) (os.drop i).reverse (ns.drop i).reverse = j at h2 ⊢
    simp only [List.length_reverse] at h2
    simp only [List.length_cons, List.length_append, hm]
    rw [front_len (by simp only [List.length_take]; omega), front_len (by simp only [List.length_drop] at h2 ⊢; omega)]
    have e1 : (ns.map Nt.size).sum = ((ns.take i).map Nt.size).sum + (((ns.drop i).take ((ns.drop i).length - j)).map Nt.size).sum + (((ns.drop i).drop ((ns.drop i).length - j)).map Nt.size).sum := by
      rw [Nat.add_assoc, ← List.sum_append, ← List.map_append, List.take_append_drop, ← List.sum_append, ← List.map_append, List.take_append_drop]
    have e2 : y.size = 1 + y.ks.size := rfl
    omega

end Go.Proofs.Ytmeigoeknjoodaa
