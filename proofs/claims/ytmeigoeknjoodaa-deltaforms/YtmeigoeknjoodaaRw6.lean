/-
  Which ids a node's children take: those ahead, those behind, those between. No program, no condition.
-/
import Derived.Test.YtmeigoeknjoodaaRw5
namespace Go.Proofs.Ytmeigoeknjoodaa

def FAh (b : Nat) (os : List (Nat × Nt)) (ns : List Nt) (i : Nat) : List Int := segV (some b :: frontA (os.take i) (ns.take i))
def TAh (os : List (Nat × Nt)) (ns : List Nt) (i j : Nat) : List Int := segV (frontA ((os.drop i).drop ((os.drop i).length - j)) ((ns.drop i).drop ((ns.drop i).length - j)))
def MAh (g : Nat → Nt → Nt → List (Option Nat)) (os : List (Nat × Nt)) (ns : List Nt) (i j m : Nat) : List Int := segV (midA g (((os.drop i).take ((os.drop i).length - j)).take m) (((ns.drop i).take ((ns.drop i).length - j)).take m))

theorem offs_drop (ns : List Nt) (k : Nat) : offs ns k + ((ns.drop k).map Nt.size).sum = (ns.map Nt.size).sum := by
  unfold offs
  rw [← List.sum_append, ← List.map_append, List.take_append_drop]
theorem offs_take (ns : List Nt) (i m : Nat) : offs ns i + (((ns.drop i).take m).map Nt.size).sum = offs ns (i + m) := by
  unfold offs
  rw [← List.sum_append, ← List.map_append, List.take_add]
theorem offs_mono (ns : List Nt) {i k : Nat} (h : i ≤ k) : offs ns i ≤ offs ns k := by
  obtain ⟨m, rfl⟩ := Nat.exists_eq_add_of_le h
  rw [← offs_take]; omega
theorem FAh_len {b : Nat} {os : List (Nat × Nt)} {ns : List Nt} {i : Nat} (h1 : i ≤ os.length) (h2 : i ≤ ns.length) : (FAh b os ns i).length = 1 + offs ns i := by
  unfold FAh
  rw [seg_len, List.length_cons, front_len (by rw [List.length_take, List.length_take]; omega)]
  unfold offs; omega
theorem FAh_step {b : Nat} {os : List (Nat × Nt)} {ns : List Nt} {i : Nat} {o : Nat × Nt} {q : Nt} (ho : os[i]? = some o) (hq : ns[i]? = some q) : FAh b os ns (i + 1) = FAh b os ns i ++ rg o.1 q.size := by
  unfold FAh
  rw [front_take ho hq, ← List.cons_append, seg_app, seg_whole]
theorem TAh_zero (os : List (Nat × Nt)) (ns : List Nt) (i : Nat) : TAh os ns i 0 = [] := by
  unfold TAh
  rw [Nat.sub_zero, Nat.sub_zero, List.drop_length, List.drop_length]; rfl
theorem TAh_step {os : List (Nat × Nt)} {ns : List Nt} {i j : Nat} {o : Nat × Nt} {q : Nt} (h1 : i + j < os.length) (h2 : i + j < ns.length) (ho : os[os.length - 1 - j]? = some o) (hq : ns[ns.length - 1 - j]? = some q) :
    TAh os ns i (j + 1) = rg o.1 q.size ++ TAh os ns i j := by
  obtain ⟨k1, e1⟩ := List.getElem?_eq_some_iff.1 ho
  obtain ⟨k2, e2⟩ := List.getElem?_eq_some_iff.1 hq
  unfold TAh
  rw [List.drop_drop, List.drop_drop, List.drop_drop, List.drop_drop, List.length_drop, List.length_drop]
  rw [show i + (os.length - i - (j + 1)) = os.length - 1 - j by omega, show i + (ns.length - i - (j + 1)) = ns.length - 1 - j by omega, List.drop_eq_getElem_cons k1, List.drop_eq_getElem_cons k2, e1, e2]
  rw [show os.length - 1 - j + 1 = i + (os.length - i - j) by omega, show ns.length - 1 - j + 1 = i + (ns.length - i - j) by omega]
  rw [frontA, seg_app, seg_whole]
theorem TAh_len {os : List (Nat × Nt)} {ns : List Nt} {i j : Nat} (h1 : i + j ≤ os.length) (h2 : i + j ≤ ns.length) : (TAh os ns i j).length + offs ns (ns.length - j) = (ns.map Nt.size).sum := by
  unfold TAh
  rw [seg_len, front_len (by simp only [List.length_drop]; omega), List.drop_drop, List.length_drop, show i + (ns.length - i - j) = ns.length - j by omega]
  have := offs_drop ns (ns.length - j)
  omega
theorem MAh_zero (g : Nat → Nt → Nt → List (Option Nat)) (os : List (Nat × Nt)) (ns : List Nt) (i j : Nat) : MAh g os ns i j 0 = [] := by
  unfold MAh
  rw [List.take_zero, List.take_zero, mid_nilR]; rfl
theorem MAh_step {g : Nat → Nt → Nt → List (Option Nat)} {os : List (Nat × Nt)} {ns : List Nt} {i j k : Nat} {o : Nat × Nt} {q : Nt} (hi : i ≤ k) (h1 : k + j < os.length) (h2 : k + j < ns.length) (ho : os[k]? = some o) (hq : ns[k]? = some q) :
    MAh g os ns i j (k + 1 - i) = MAh g os ns i j (k - i) ++ (if o.2.kd = q.kd then segV (g o.1 o.2 q) else List.replicate q.size (-1)) := by
  unfold MAh
  have e1 : ((os.drop i).take ((os.drop i).length - j))[k - i]? = some o := by
    rw [List.getElem?_take_of_lt (by rw [List.length_drop]; omega), List.getElem?_drop, show i + (k - i) = k by omega, ho]
  have e2 : ((ns.drop i).take ((ns.drop i).length - j))[k - i]? = some q := by
    rw [List.getElem?_take_of_lt (by rw [List.length_drop]; omega), List.getElem?_drop, show i + (k - i) = k by omega, hq]
  rw [show k + 1 - i = k - i + 1 by omega, mid_take e1 e2, seg_app]
  congr 1
  split
  · rfl
  · rw [seg_none]
theorem mid_len {g : Nat → Nt → Nt → List (Option Nat)} (hg : ∀ a x y, (g a x y).length = y.size) : ∀ (os : List (Nat × Nt)) (ns : List Nt), (midA g os ns).length = (ns.map Nt.size).sum
  | os, [] => by rw [mid_nilR]; rfl
  | [], n :: ns => by rw [mid_nil]; simp [noneA]
  | o :: os, n :: ns => by
    simp only [midA, List.length_append, mid_len hg os ns, List.map_cons, List.sum_cons]
    congr 1
    split
    · exact hg _ _ _
    · simp [noneA]
theorem MAh_len {g : Nat → Nt → Nt → List (Option Nat)} (hg : ∀ a x y, (g a x y).length = y.size) {os : List (Nat × Nt)} {ns : List Nt} {i j k : Nat} (hi : i ≤ k) (h2 : k + j ≤ ns.length) : (MAh g os ns i j (k - i)).length + offs ns i = offs ns k := by
  unfold MAh
  rw [seg_len, mid_len hg, List.take_take, List.length_drop, Nat.min_eq_left (by omega)]
  have := offs_take ns i (k - i)
  rw [show i + (k - i) = k by omega] at this
  omega
theorem MAh_end {g : Nat → Nt → Nt → List (Option Nat)} {os : List (Nat × Nt)} {ns : List Nt} {i j k : Nat} (hi : i ≤ k) (h1 : k + j ≤ os.length) (h2 : k + j ≤ ns.length) (he : k + j = os.length ∨ k + j = ns.length) :
    segV (midA g ((os.drop i).take ((os.drop i).length - j)) ((ns.drop i).take ((ns.drop i).length - j))) = MAh g os ns i j (k - i) ++ List.replicate (offs ns (ns.length - j) - offs ns k) (-1) := by
  rw [mid_end (k - i) (by simp only [List.length_take, List.length_drop]; omega) (by simp only [List.length_take, List.length_drop]; omega) (by simp only [List.length_take, List.length_drop]; omega), seg_app, seg_none]
  unfold MAh
  congr 2
  rw [List.drop_take, List.drop_drop, List.length_drop, show i + (k - i) = k by omega]
  have := offs_take ns k (ns.length - i - j - (k - i))
  rw [show k + (ns.length - i - j - (k - i)) = ns.length - j by omega] at this
  omega
theorem al_put {s u : List UInt8} {n b c : Nat} {x y : Nt} {l l1 l2 l3 : List Int} {i j k : Nat}
    (hi : aheadC (likeN s u) (x.ks.tops (b + 1)) y.ks.trees = i) (hj : aheadC (likeN s u) ((x.ks.tops (b + 1)).drop i).reverse (y.ks.trees.drop i).reverse = j)
    (p1 : Put l l1 c (FAh b (x.ks.tops (b + 1)) y.ks.trees i)) (p2 : Put l1 l2 (c + 1 + offs y.ks.trees (y.ks.trees.length - j)) (TAh (x.ks.tops (b + 1)) y.ks.trees i j))
    (p3 : Put l2 l3 (c + 1 + offs y.ks.trees i) (MAh (alA s u n) (x.ks.tops (b + 1)) y.ks.trees i j (k - i)))
    (hik : i ≤ k) (h1 : k + j ≤ (x.ks.tops (b + 1)).length) (h2 : k + j ≤ y.ks.trees.length) (he : k + j = (x.ks.tops (b + 1)).length ∨ k + j = y.ks.trees.length)
    (hm : ∀ m, m < y.size → l[c + m]? = some (-1)) : Put l l3 c (segV (alA s u (n + 1) b x y)) := by
  have e : alA s u (n + 1) b x y = some b :: (frontA ((x.ks.tops (b + 1)).take i) (y.ks.trees.take i) ++ (midA (alA s u n) (((x.ks.tops (b + 1)).drop i).take (((x.ks.tops (b + 1)).drop i).length - j)) ((y.ks.trees.drop i).take ((y.ks.trees.drop i).length - j)) ++ frontA (((x.ks.tops (b + 1)).drop i).drop (((x.ks.tops (b + 1)).drop i).length - j)) ((y.ks.trees.drop i).drop ((y.ks.trees.drop i).length - j)))) := by
    unfold alA
    dsimp only
    have h0 : (y.ks.tops 0).map Prod.snd = y.ks.trees := rfl
    rw [h0, hi, hj]
  have hks := trees_size y.ks
  have hys : y.size = 1 + y.ks.size := rfl
  generalize x.ks.tops (b + 1) = os at *
  generalize y.ks.trees = ns at *
  have f1 : (FAh b os ns i).length = 1 + offs ns i := FAh_len (by omega) (by omega)
  have f2 := TAh_len (os := os) (ns := ns) (i := i) (j := j) (by omega) (by omega)
  have f3 := MAh_len (g := alA s u n) (al_len n) (os := os) (ns := ns) (i := i) (j := j) hik h2
  have f4 := offs_mono ns hik
  have f5 := offs_mono ns (show k ≤ ns.length - j by omega)
  have f6 := offs_le ns (ns.length - j)
  have g3 := p3.gap (offs ns (ns.length - j) - offs ns k) (fun m hm2 => by
    rw [p2.out _ (by omega), p1.out _ (by omega)]
    have := hm (1 + offs ns i + (MAh (alA s u n) os ns i j (k - i)).length + m) (by omega)
    rw [← this]
    congr 1; omega)
  rw [← MAh_end hik h1 h2 he] at g3
  have g4 := p2.pre g3 (by
    rw [MAh_end hik h1 h2 he, List.length_append, List.length_replicate]; omega)
  have g5 := p1.app g4 (by omega)
  have e2 : segV (alA s u (n + 1) b x y) = FAh b os ns i ++ (segV (midA (alA s u n) ((os.drop i).take ((os.drop i).length - j)) ((ns.drop i).take ((ns.drop i).length - j))) ++ TAh os ns i j) := by
    rw [e, ← List.cons_append, seg_app, seg_app]
    rfl
  rw [e2]
  exact g5

end Go.Proofs.Ytmeigoeknjoodaa
