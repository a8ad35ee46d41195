/-
  The edit back as a list, and facts of it. No program in it; conditions: as each theorem's premises say.
-/
import Derived.Test.YtdpjkafabjhkiaaParts
namespace Go.Proofs.Ytdpjkafabjhkiaa
open Go.RowKit

/-- The piece that undoes one, the text being read from a on. -/
def turnC (s : ByteArray) (a : Int) (c : C) : C := if c.k = 1 then ⟨2, c.t.size, e0⟩ else if c.k = 2 then ⟨1, 0, s.extract a.toNat (a + c.n).toNat⟩ else c
/-- The pieces that undo an edit, one behind the other. -/
def invL (s : ByteArray) : Int → List C → List C
  | _, [] => []
  | a, c :: cs => turnC s a c :: invL s (a + fromC c) cs

theorem turn_keep (s : ByteArray) (a n : Int) (t : ByteArray) : turnC s a ⟨0, n, t⟩ = ⟨0, n, t⟩ := by simp [turnC]
theorem turn_put (s : ByteArray) (a n : Int) (t : ByteArray) : turnC s a ⟨1, n, t⟩ = ⟨2, t.size, e0⟩ := by simp [turnC]
theorem turn_cut (s : ByteArray) (a n : Int) (t : ByteArray) : turnC s a ⟨2, n, t⟩ = ⟨1, 0, s.extract a.toNat (a + n).toNat⟩ := by simp [turnC]

theorem inv_append (s : ByteArray) (ys : List C) : ∀ (a : Int) (xs : List C), invL s a (xs ++ ys) = invL s a xs ++ invL s (a + sumOf fromC xs) ys
  | a, [] => by simp [invL, sumOf]
  | a, x :: xs => by
    rw [List.cons_append]
    simp only [invL, sumOf]
    rw [inv_append s ys, Int.add_assoc, List.cons_append]
theorem inv_snoc (s : ByteArray) (a : Int) (xs : List C) (c : C) : invL s a (xs ++ [c]) = invL s a xs ++ [turnC s (a + sumOf fromC xs) c] := by rw [inv_append]; rfl
theorem inv_length (s : ByteArray) : ∀ (a : Int) (cs : List C), (invL s a cs).length = cs.length
  | _, [] => rfl
  | a, c :: cs => by simp only [invL, List.length_cons, inv_length s]

theorem inv_get (s : ByteArray) : ∀ (cs : List C) (a : Int) (j : Nat) (c : C), cs[j]? = some c → (invL s a cs)[j]? = some (turnC s (a + sumOf fromC (cs.take j)) c)
  | [], _, _, _, h => by simp at h
  | x :: cs, a, 0, c, h => by
    simp only [List.getElem?_cons_zero, Option.some.injEq] at h
    subst h
    simp [invL, sumOf]
  | x :: cs, a, j + 1, c, h => by
    simp only [List.getElem?_cons_succ] at h
    simp only [invL, List.getElem?_cons_succ, List.take_succ_cons, sumOf]
    rw [inv_get s cs _ j c h, Int.add_assoc]

theorem turn_soft (s : ByteArray) (a : Int) {c : C} (hc : c.Soft) : (turnC s a c).Soft := by
  obtain ⟨k, n, t⟩ := c
  rcases hc with ⟨h | h, h1, h2⟩ | ⟨h, h1⟩ <;> dsimp only at * <;> subst h
  · rw [turn_keep]; exact .inl ⟨.inl rfl, h1, h2⟩
  · rw [turn_cut]; exact .inr ⟨rfl, rfl⟩
  · rw [turn_put]; exact .inl ⟨.inr rfl, by dsimp only; omega, rfl⟩
theorem turn_sums {s : ByteArray} {a : Int} {c : C} (hc : c.Soft) (h0 : 0 ≤ a) (h1 : a + fromC c ≤ s.size) : fromC (turnC s a c) = toC c ∧ toC (turnC s a c) = fromC c := by
  obtain ⟨k, n, t⟩ := c
  rcases hc with ⟨h | h, h2, h3⟩ | ⟨h, h2⟩ <;> dsimp only at * <;> subst h
  · rw [turn_keep]; simp [fromC, toC, C.sz, h3]
  · rw [turn_cut]
    simp only [fromC, toC, C.sz, ByteArray.size_extract] at *
    simp at *
    omega
  · subst h2
    rw [turn_put]; simp [fromC, toC, C.sz]
theorem inv_soft (s : ByteArray) : ∀ (a : Int) (cs : List C), (∀ c ∈ cs, c.Soft) → ∀ c ∈ invL s a cs, c.Soft
  | _, [], _ => by simp [invL]
  | a, c :: cs, h => by
    intro x hx
    simp only [invL] at hx
    rcases List.mem_cons.1 hx with rfl | hx
    · exact turn_soft s a (h c (by simp))
    · exact inv_soft s _ cs (fun x hx => h x (by simp [hx])) x hx
theorem inv_sums {s : ByteArray} : ∀ {cs : List C} {a : Int}, (∀ c ∈ cs, c.Soft) → 0 ≤ a → a + sumOf fromC cs ≤ s.size → sumOf fromC (invL s a cs) = sumOf toC cs ∧ sumOf toC (invL s a cs) = sumOf fromC cs
  | [], a, _, _, _ => ⟨rfl, rfl⟩
  | c :: cs, a, hs, h0, h1 => by
    simp only [sumOf] at h1
    have hc := hs c (by simp)
    have f0 := from_nonneg hc
    have fs : 0 ≤ sumOf fromC cs := sumOf_nonneg fun x hx => from_nonneg (hs x (by simp [hx]))
    have e1 := turn_sums (s := s) (a := a) hc h0 (by omega)
    have e2 := inv_sums (s := s) (cs := cs) (a := a + fromC c) (fun x hx => hs x (by simp [hx])) (by omega) (by omega)
    simp only [invL, sumOf]
    omega

/-- Of an edit of the text, what undoes it is raw and not too long. -/
theorem inv_raw {s : ByteArray} {cs : List C} (h : Does s cs) : okB (invL s 0 cs) = true := by
  obtain ⟨h1, h2, h3, h4⟩ := okB_iff.1 h.1.1
  have hs := soft_all h2
  have e := inv_sums (s := s) (a := 0) hs (Int.le_refl 0) (by have := h.2; omega)
  refine okB_iff.2 ⟨by rw [inv_length]; exact h1, raw_of_soft (inv_soft s 0 cs hs) (by omega) (by omega), by omega, by omega⟩
theorem inv_may {s : ByteArray} {cs : List C} (h : Does s cs) : MayP (normOf (invL s 0 cs)) ∧ sumOf fromC (normOf (invL s 0 cs)) = sumOf toC cs ∧ sumOf toC (normOf (invL s 0 cs)) = sumOf fromC cs := by
  have hok := inv_raw h
  have hs := soft_all (okB_iff.1 hok).2.1
  have e := inv_sums (s := s) (a := 0) (soft_all (okB_iff.1 h.1.1).2.1) (Int.le_refl 0) (by have := h.2; omega)
  exact ⟨⟨okB_normOf hok, norm_normOf hs⟩, by rw [sum_normOf from_join from_zero _ hs]; exact e.1, by rw [sum_normOf to_join to_zero _ hs]; exact e.2⟩

/-- Two of a kind, added one behind the other, are added as one. -/
theorem addC_join {l c : C} (hk : l.k = c.k) (hl : l.Soft) (hc : c.Soft) (all : List C) : addC (addC all l) c = addC all (l.join c) := by
  have l0 := Soft.sz0 hl
  have c0 := Soft.sz0 hc
  by_cases h1 : l.sz = 0
  · have e : l.join c = c := by
      have := soft_zero hl h1
      refine C.ext' hk ?_ ?_
      · simp only [C.join]; omega
      · simp only [C.join]; rw [e0_of this.2, e0_left]
    rw [e]; simp [addC, h1]
  · by_cases h2 : c.sz = 0
    · have e : l.join c = l := by
        have := soft_zero hc h2
        refine C.ext' rfl ?_ ?_
        · simp only [C.join]; omega
        · simp only [C.join]; rw [e0_of this.2, e0_right]
      have e2 : ∀ x, addC x c = x := fun x => by simp [addC, h2]
      rw [e, e2]
    · rw [addC_of_pos (all := all) (c := l.join c) (by rw [join_sz]; omega), addC_of_pos (by omega), addC_of_pos (by omega), List.reverse_reverse, addR_join hk]
/-- A cut and a put change places. -/
theorem addC_swap {u p : C} (hu : u.k = 2) (hp : p.k = 1) (su : u.Soft) (sp : p.Soft) (all : List C) : addC (addC all u) p = addC (addC all p) u := by
  have u0 := Soft.sz0 su
  have p0 := Soft.sz0 sp
  by_cases h1 : u.sz = 0
  · have e : ∀ x, addC x u = x := fun x => by simp [addC, h1]
    rw [e, e]
  · by_cases h2 : p.sz = 0
    · have e : ∀ x, addC x p = x := fun x => by simp [addC, h2]
      rw [e, e]
    · rw [addC_of_pos (by omega), addC_of_pos (by omega), addC_of_pos (by omega), addC_of_pos (by omega), List.reverse_reverse, List.reverse_reverse, addR_swap hu hp]

theorem turn_join {s : ByteArray} {a : Int} {l c : C} (h0 : 0 ≤ a) (hl : l.Soft) (hc : c.Soft) (hk : l.k = c.k) : turnC s a (l.join c) = (turnC s a l).join (turnC s (a + fromC l) c) ∧ (turnC s a l).k = (turnC s (a + fromC l) c).k := by
  obtain ⟨k, n, t⟩ := l
  obtain ⟨k', n', t'⟩ := c
  dsimp only at hk
  subst hk
  rcases hl with ⟨h | h, h1, h2⟩ | ⟨h, h1⟩ <;> dsimp only at h h1 <;> subst h
  · simp only [C.join, turn_keep, and_self]
  · have hn' : 0 ≤ n' := by unfold C.Soft at hc; dsimp only at hc; omega
    have e := part_join (s := s) (a := a) (l := ⟨0, n, e0⟩) (c := ⟨0, n', e0⟩) h0 (.inl ⟨.inl rfl, h1, rfl⟩) (.inl ⟨.inl rfl, hn', rfl⟩) rfl
    simp only [partB, C.join, fromC, if_true, show ¬ ((0 : Int) = 1) by omega, if_false] at e
    have ef : fromC ⟨2, n, t⟩ = n := by simp [fromC]
    simp only [C.join, turn_cut, ef]
    exact ⟨by rw [e]; rfl, trivial⟩
  · simp only [C.join, turn_put, ba_append_size, e0_left]
    exact ⟨by rw [Int.natCast_add], trivial⟩
theorem turn_zero {s : ByteArray} {a : Int} {c : C} (hc : c.Soft) (hz : c.sz = 0) : (turnC s a c).sz = 0 := by
  obtain ⟨k, n, t⟩ := c
  obtain ⟨h1, h2⟩ := soft_zero hc hz
  dsimp only at h1 h2
  subst h1
  rcases hc with ⟨h | h, h3, h4⟩ | ⟨h, h3⟩ <;> dsimp only at h <;> subst h
  · rw [turn_keep]; exact hz
  · rw [turn_cut, Int.add_zero]; simp only [C.sz, ByteArray.size_extract]; omega
  · rw [turn_put, h2]; rfl

theorem inv_addR {s : ByteArray} {a : Int} (h0 : 0 ≤ a) {c : C} (hc : c.Soft) : ∀ r : List C, (∀ x ∈ r, x.Soft) → normOf (invL s a (addR r c).reverse) = normOf (invL s a (r.reverse ++ [c]))
  | [], _ => by simp [addR]
  | l :: r, hr => by
    have hl := hr l (by simp)
    have hr' : ∀ x ∈ r, x.Soft := fun x hx => hr x (by simp [hx])
    have fs : 0 ≤ sumOf fromC r.reverse := sumOf_nonneg fun x hx => from_nonneg (hr' x (by simpa using hx))
    have ih := inv_addR (s := s) h0 hc r hr'
    simp only [addR]
    split
    · rename_i hk
      have e := turn_join (s := s) (a := a + sumOf fromC r.reverse) (by omega) hl hc hk
      rw [List.reverse_cons, List.reverse_cons, inv_snoc, normOf_snoc, e.1, ← addC_join e.2 (turn_soft _ _ hl) (turn_soft _ _ hc), inv_snoc, normOf_snoc, inv_snoc, normOf_snoc, sumOf_append]
      simp [sumOf, Int.add_assoc]
    · split
      · rename_i hk h2
        have ec : fromC c = 0 := by simp [fromC, h2.2]
        have e1 : sumOf fromC (addR r c).reverse = sumOf fromC r.reverse := by rw [sum_addR from_join, ec, Int.add_zero]
        have k1 : (turnC s (a + sumOf fromC r.reverse) c).k = 2 := by simp [turnC, h2.2]
        have k2 : (turnC s (a + sumOf fromC r.reverse) l).k = 1 := by simp [turnC, h2.1]
        have e2 : ∀ b, turnC s b c = turnC s (a + sumOf fromC r.reverse) c := fun b => by simp [turnC, h2.2]
        rw [List.reverse_cons, inv_snoc, normOf_snoc, ih, inv_snoc, normOf_snoc, e1, addC_swap k1 k2 (turn_soft _ _ hc) (turn_soft _ _ hl), List.reverse_cons, inv_snoc, normOf_snoc, inv_snoc, normOf_snoc, e2 (a + sumOf fromC (r.reverse ++ [l]))]
      · rw [List.reverse_cons]
theorem inv_addC {s : ByteArray} {a : Int} (h0 : 0 ≤ a) {c : C} (hc : c.Soft) {all : List C} (ha : ∀ x ∈ all, x.Soft) : normOf (invL s a (addC all c)) = normOf (invL s a (all ++ [c])) := by
  unfold addC
  split
  · rename_i hz
    rw [inv_snoc, normOf_snoc]
    conv => rhs; unfold addC; rw [if_pos (turn_zero hc hz)]
  · rw [inv_addR h0 hc _ (rev_mem ha), List.reverse_reverse]
/-- What undoes the normal form is what undoes the raw edit. -/
theorem inv_normOf {s : ByteArray} {a : Int} (h0 : 0 ≤ a) (cs : List C) : (∀ c ∈ cs, c.Soft) → normOf (invL s a (normOf cs)) = normOf (invL s a cs) := by
  induction cs using list_snoc with
  | h0 => intro _; rfl
  | h1 cs c ih =>
    intro h
    have hs : ∀ x ∈ cs, x.Soft := fun x hx => h x (by simp [hx])
    rw [normOf_snoc, inv_addC h0 (h c (by simp)) (normOf_soft cs hs), inv_snoc, normOf_snoc, ih hs, inv_snoc, normOf_snoc, sum_normOf from_join from_zero cs hs]

theorem extract_mid (x y z : ByteArray) (b n : Int) (hb : b = x.size) (hn : n = y.size) : (x ++ (y ++ z)).extract b.toNat (b + n).toNat = y := by
  subst hb; subst hn
  apply ba_ext
  have l1 := ba_len x
  have l2 := ba_len y
  rw [ba_extract, ba_append_list, ba_append_list, List.drop_left' (by omega), List.take_left' (by omega)]
theorem extract_none (s : ByteArray) (a : Int) : s.extract a.toNat (a + 0).toNat = e0 := by
  apply ba_ext
  rw [ba_extract, Int.add_zero, Nat.sub_self]; rfl
theorem extract_two (s : ByteArray) {a m n : Int} (h0 : 0 ≤ a) (hm : 0 ≤ m) (hn : 0 ≤ n) : s.extract a.toNat (a + m).toNat ++ s.extract (a + m).toNat (a + m + n).toNat = s.extract a.toNat (a + (m + n)).toNat := by
  have e := part_join (s := s) (a := a) (l := ⟨0, m, e0⟩) (c := ⟨0, n, e0⟩) h0 (.inl ⟨.inl rfl, hm, rfl⟩) (.inl ⟨.inl rfl, hn, rfl⟩) rfl
  simp only [partB, C.join, fromC, if_true, show ¬ ((0 : Int) = 1) by omega, if_false] at e
  exact e.symm

/-- What undoes an edit leads back, and is undone by the edit. -/
theorem inv_back {s : ByteArray} : ∀ (cs : List C) (a b : Int) (T x z : ByteArray), (∀ c ∈ cs, c.Soft) → 0 ≤ a → a + sumOf fromC cs ≤ s.size → T = x ++ (appB s a cs ++ z) → b = x.size →
    appB T b (invL s a cs) = s.extract a.toNat (a + sumOf fromC cs).toNat ∧ invL T b (invL s a cs) = cs
  | [], a, b, T, x, z, _, _, _, _, _ => by
    simp only [invL, appB, sumOf]
    exact ⟨(extract_none s a).symm, trivial⟩
  | c :: cs, a, b, T, x, z, hs, h0, h1, hT, hb => by
    simp only [sumOf] at h1
    have hc := hs c (by simp)
    have f0 := from_nonneg hc
    have hs' : ∀ x ∈ cs, x.Soft := fun x hx => hs x (by simp [hx])
    have fs : 0 ≤ sumOf fromC cs := sumOf_nonneg fun x hx => from_nonneg (hs' x hx)
    have ps := part_size (s := s) hc h0 (by omega)
    have ts := turn_sums (s := s) hc h0 (by omega)
    have hT1 : T = x ++ (partB s a c ++ (appB s (a + fromC c) cs ++ z)) := by
      rw [hT]; simp only [appB]; rw [ba_append_assoc]
    have hT2 : T = (x ++ partB s a c) ++ (appB s (a + fromC c) cs ++ z) := by
      rw [hT1]; rw [ba_append_assoc]
    obtain ⟨i1, i2⟩ := inv_back cs (a + fromC c) (b + fromC (turnC s a c)) T (x ++ partB s a c) z hs' (by omega) (by omega) hT2 (by rw [ba_append_size, hb, ts.1, ← ps]; omega)
    have key : partB T b (turnC s a c) = s.extract a.toNat (a + fromC c).toNat ∧ turnC T b (turnC s a c) = c := by
      clear i1 i2 ts
      obtain ⟨k, n, t⟩ := c
      rcases hc with ⟨h | h, h2, h3⟩ | ⟨h, h2⟩ <;> dsimp only at h h2 <;> subst h
      · dsimp only at h3
        have ef : fromC ⟨0, n, t⟩ = n := by simp [fromC]
        have ep : partB s a ⟨0, n, t⟩ = s.extract a.toNat (a + n).toNat := by simp [partB]
        have et : toC ⟨0, n, t⟩ = n := by simp [toC, C.sz, h3]
        rw [ep] at hT1 ps
        rw [et] at ps
        rw [turn_keep, turn_keep, ef]
        refine ⟨?_, rfl⟩
        have e := extract_mid x (s.extract a.toNat (a + n).toNat) (appB s (a + fromC ⟨0, n, t⟩) cs ++ z) b n hb ps.symm
        rw [← hT1] at e
        rw [← e]; simp [partB]
      · dsimp only at h3
        have ef : fromC ⟨2, n, t⟩ = n := by simp [fromC]
        rw [ef] at h1 f0
        rw [turn_cut, turn_put, ef]
        refine ⟨by simp [partB], ?_⟩
        refine C.ext' rfl ?_ (e0_of h3).symm
        dsimp only
        rw [ByteArray.size_extract]
        omega
      · subst h2
        have ef : fromC ⟨1, 0, t⟩ = 0 := by simp [fromC]
        have ep : partB s a ⟨1, 0, t⟩ = t := by simp [partB]
        rw [ep] at hT1
        rw [turn_put, turn_cut, ef, extract_none]
        refine ⟨by simp [partB], ?_⟩
        have e := extract_mid x t (appB s (a + fromC ⟨1, 0, t⟩) cs ++ z) b t.size hb rfl
        rw [← hT1] at e
        rw [e]
    simp only [invL, appB, sumOf]
    rw [i1, i2, key.1, key.2]
    exact ⟨extract_two s h0 f0 fs, rfl⟩

theorem extract_all (s : ByteArray) (n : Int) (hn : n = s.size) : s.extract (0 : Int).toNat (0 + n).toNat = s := by
  have := extract_mid e0 s e0 0 n rfl hn
  rwa [e0_right, e0_left] at this

/-- The edit back, all at once: it may be, it leads back, and the edit is its own way back. -/
theorem inv_all {s : ByteArray} {cs : List C} (h : Does s cs) : Does (appB s 0 cs) (normOf (invL s 0 cs)) ∧ appB (appB s 0 cs) 0 (normOf (invL s 0 cs)) = s ∧ normOf (invL (appB s 0 cs) 0 (normOf (invL s 0 cs))) = cs := by
  obtain ⟨h1, h2, h3⟩ := inv_may h
  have hb := h.bounds
  have hs := soft_all hb.2.2.2.2
  have hi := inv_soft s 0 cs hs
  have hf := h.2
  obtain ⟨k1, k2⟩ := inv_back (s := s) cs 0 0 (appB s 0 cs) e0 e0 hs (Int.le_refl 0) (by omega) (by rw [e0_right, e0_left]) rfl
  refine ⟨⟨h1, by rw [h2]; exact hb.2.2.2.1.symm⟩, ?_, ?_⟩
  · rw [appB_normOf (Int.le_refl 0) _ hi, k1, hf, extract_all s _ rfl]
  · rw [inv_normOf (Int.le_refl 0) _ hi, k2]
    exact (normOf_iff hs).2 h.1.2

end Go.Proofs.Ytdpjkafabjhkiaa
