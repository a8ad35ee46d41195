/-
  Edits told place by place, and what two of them make of a text. No program in it; conditions: as each theorem's premises say.
-/
import Derived.Test.YtkknkannjoijbaaTraM
namespace Go.Proofs.Ytkknkannjoijbaa
open Go.RowKit

/-- A put, if there is something to put; a cut likewise. -/
def pt (t : ByteArray) : List C := if t.size = 0 then [] else [⟨1, 0, t⟩]
def ct (n : Int) : List C := if 0 < n then [⟨2, n, e0⟩] else []
/-- What is left of an edit at a place: what it puts there, and then, byte by byte, what it keeps and what it cuts. -/
def RemS (κ : Nat → Bool) (π : Nat → ByteArray) : Nat → Nat → List C → Prop
  | 0, z, X => X = pt (π z)
  | m + 1, z, X => ∃ c X1, X = pt (π z) ++ c :: X1 ∧ c.Soft ∧ 0 < c.sz ∧ c.k = (if κ z then 0 else 2) ∧ RemS κ π m (z + 1) (tailC c 1 X1)

theorem pt_e0 : pt e0 = [] := rfl
theorem pt_gd (t : ByteArray) : Gd (pt t) := by
  unfold pt
  split
  · exact Gd.nil
  · rename_i h
    exact Gd.cons ⟨.inr ⟨rfl, rfl⟩, by simp [C.sz]; omega⟩ Gd.nil
theorem pt_from (t : ByteArray) : sumOf fromC (pt t) = 0 := by unfold pt; split <;> simp [sumOf, fromC]
theorem Gd.append {X Y : List C} (h : Gd X) (g : Gd Y) : Gd (X ++ Y) := fun c hc => by
  rcases List.mem_append.1 hc with h' | h'
  · exact h c h'
  · exact g c h'
theorem kindN {κ : Bool} {c : C} (h : c.k = (if κ then 0 else 2)) : c.k ≠ 1 := by cases κ <;> simp at h <;> omega
theorem from_one {c : C} (hc : c.Soft) (hk : c.k ≠ 1) (hz : 0 < c.sz) (X1 : List C) : sumOf fromC (tailC c 1 X1) = sumOf fromC (c :: X1) - 1 := by
  rw [sum_tail from_join hc (by omega) (by omega), take_num hk]
  simp [fromC, hk]
theorem rem_ok {κ : Nat → Bool} {π : Nat → ByteArray} : ∀ (m z : Nat) (X : List C), RemS κ π m z X → Gd X ∧ sumOf fromC X = m
  | 0, z, X, h => by
    simp only [RemS] at h; subst h
    exact ⟨pt_gd _, by rw [pt_from]; rfl⟩
  | m + 1, z, X, h => by
    obtain ⟨c, X1, rfl, hc, hz, hk, hr⟩ := h
    obtain ⟨g, s⟩ := rem_ok m (z + 1) _ hr
    have g1 : Gd X1 := by
      unfold tailC at g
      split at g
      · exact g
      · exact g.tail
    rw [from_one hc (kindN hk) hz] at s
    exact ⟨(pt_gd _).append (Gd.cons ⟨hc, hz⟩ g1), by rw [sumOf_append, pt_from]; omega⟩

/-- What both edits make of a text, from a place on. -/
def RT (f : Bool) (s : ByteArray) (z : Int) (X Y : List C) : ByteArray := appB (appB s z Y) 0 (traP f X Y)

theorem RT_putA {f : Bool} {s : ByteArray} {z : Int} {c : C} {X Y : List C} (hk : c.k = 1) (hf : f = true ∨ ∀ d ds, Y = d :: ds → d.k ≠ 1) : RT f s z (c :: X) Y = c.t ++ RT f s z X Y := by
  unfold RT
  rw [traP_step (stepT_A X Y hk hf), put_app _ _ _ hk]
theorem RT_putB {f : Bool} {s : ByteArray} {z : Int} {d : C} {X Y : List C} (gx : Gd X) (gy : Gd (d :: Y)) (eq : sumOf fromC X = sumOf fromC (d :: Y)) (hk : d.k = 1) (hf : ∀ c cs, X = c :: cs → c.k = 1 → f = false) : RT f s z X (d :: Y) = d.t ++ RT f s z X Y := by
  have hs := stepT_B X Y hk hf
  have ok := stepT_ok hs gx gy eq
  have S := tra_sums (f := f) ok.gx ok.gy ok.eq
  unfold RT
  rw [traP_step hs, put_app _ _ _ hk, keep_put gy.head.1 hk S.softP]
theorem RT_both {f : Bool} {s : ByteArray} {z : Int} {c d : C} {X Y : List C} (gx : Gd (c :: X)) (gy : Gd (d :: Y)) (eq : sumOf fromC (c :: X) = sumOf fromC (d :: Y)) (kc : c.k ≠ 1) (kd : d.k ≠ 1) (hz : 0 ≤ z) (hle : z + sumOf fromC (c :: X) ≤ s.size) :
    RT f s z (c :: X) (d :: Y) = bothB s z c d (min c.sz d.sz) ++ RT f s (z + min c.sz d.sz) (tailC c (min c.sz d.sz) X) (tailC d (min c.sz d.sz) Y) := by
  have hs := stepT_C (f := f) X Y kc kd
  have ok := stepT_ok hs gx gy eq
  have S := tra_sums (f := f) ok.gx ok.gy ok.eq
  obtain ⟨sc, pc⟩ := gx.head
  obtain ⟨sd, pd⟩ := gy.head
  have fs : 0 ≤ sumOf fromC X := sumOf_nonneg fun x hx => from_nonneg (gx.tail x hx).1
  have f1 : fromC c = c.sz := by
    rcases soft_form sc with ⟨m, hm, rfl⟩ | ⟨m, hm, rfl⟩ | ⟨t, rfl⟩
    · simp [fromC, C.sz, e0_size]
    · simp [fromC, C.sz, e0_size]
    · exact absurd rfl kc
  simp only [sumOf] at hle
  unfold RT
  rw [traP_step hs]
  exact both_app sc sd kc kd hz (by omega) (by omega) (by omega) S.softP
theorem tail_tail {c : C} {m n : Int} {X : List C} (hc : c.Soft) (h0 : 0 ≤ m) (h1 : m < n) (h2 : n ≤ c.sz) : tailC c m X = dropC c m :: X ∧ tailC (dropC c m) (n - m) X = tailC c n X := by
  have e1 : tailC c m X = dropC c m :: X := by unfold tailC; rw [if_neg (by omega)]
  refine ⟨e1, ?_⟩
  unfold tailC
  rw [drop_sz hc h0 (by omega), drop_drop hc h0 (by omega), show m + (n - m) = n by omega]
  by_cases h : n = c.sz
  · rw [if_pos (by omega), if_pos h]
  · rw [if_neg (by omega), if_neg h]
theorem ext_add (s : ByteArray) {a b c : Int} (_h0 : 0 ≤ a) (h1 : a ≤ b) (h2 : b ≤ c) : s.extract a.toNat c.toNat = s.extract a.toNat b.toNat ++ s.extract b.toNat c.toNat := by
  refine ba_ext ?_
  rw [ba_append_list, ba_extract, ba_extract, ba_extract]
  have e : List.drop b.toNat s.data.toList = List.drop (b.toNat - a.toNat) (List.drop a.toNat s.data.toList) := by rw [List.drop_drop]; congr 1; omega
  rw [e, show c.toNat - a.toNat = (b.toNat - a.toNat) + (c.toNat - b.toNat) by omega, List.take_add]
theorem bothB_add {s : ByteArray} {z m n : Int} {c d : C} (hz : 0 ≤ z) (h0 : 0 ≤ m) (h1 : m ≤ n) : bothB s z c d n = bothB s z c d m ++ bothB s (z + m) (dropC c m) (dropC d m) (n - m) := by
  unfold bothB
  rw [drop_k, drop_k]
  split
  · rw [show z + m + (n - m) = z + n by omega]; exact ext_add s hz (by omega) (by omega)
  · rw [e0_left]
/-- A step may be as short as one likes. -/
theorem RT_flex {f : Bool} {s : ByteArray} {z m : Int} {c d : C} {X Y : List C} (gx : Gd (c :: X)) (gy : Gd (d :: Y)) (eq : sumOf fromC (c :: X) = sumOf fromC (d :: Y)) (kc : c.k ≠ 1) (kd : d.k ≠ 1) (hz : 0 ≤ z) (hle : z + sumOf fromC (c :: X) ≤ s.size) (h0 : 0 < m) (h1 : m ≤ c.sz) (h2 : m ≤ d.sz) :
    RT f s z (c :: X) (d :: Y) = bothB s z c d m ++ RT f s (z + m) (tailC c m X) (tailC d m Y) := by
  have E := RT_both (f := f) (s := s) gx gy eq kc kd hz hle
  obtain ⟨sc, pc⟩ := gx.head
  obtain ⟨sd, pd⟩ := gy.head
  by_cases hm : m = min c.sz d.sz
  · rw [hm]; exact E
  · have hlt : m < min c.sz d.sz := by omega
    obtain ⟨x1, x2⟩ := tail_tail (X := X) sc (Int.le_of_lt h0) hlt (by omega)
    obtain ⟨y1, y2⟩ := tail_tail (X := Y) sd (Int.le_of_lt h0) hlt (by omega)
    have gx' : Gd (dropC c m :: X) := by rw [← x1]; exact gx.tailC (by omega) h1
    have gy' : Gd (dropC d m :: Y) := by rw [← y1]; exact gy.tailC (by omega) h2
    have s1 := sum_tail (f := fromC) from_join (cs := X) sc (Int.le_of_lt h0) h1
    have s2 := sum_tail (f := fromC) from_join (cs := Y) sd (Int.le_of_lt h0) h2
    have f1 : fromC (takeC c m) = m := by rw [take_num kc]; simp [fromC, kc]
    have f2 : fromC (takeC d m) = m := by rw [take_num kd]; simp [fromC, kd]
    rw [x1, f1] at s1
    rw [y1, f2] at s2
    have E2 := RT_both (f := f) (s := s) (z := z + m) gx' gy' (by omega) (by rw [drop_k]; exact kc) (by rw [drop_k]; exact kd) (by omega) (by omega)
    rw [drop_sz sc (Int.le_of_lt h0) h1, drop_sz sd (Int.le_of_lt h0) h2, show min (c.sz - m) (d.sz - m) = min c.sz d.sz - m by omega, x2, y2, show z + m + (min c.sz d.sz - m) = z + min c.sz d.sz by omega] at E2
    rw [x1, y1, E2, E, bothB_add (c := c) (d := d) hz (Int.le_of_lt h0) (Int.le_of_lt hlt), ba_append_assoc]

/-- The text that both make, byte by byte. -/
def specB (f : Bool) (s : ByteArray) (κ μ : Nat → Bool) (π ρ : Nat → ByteArray) : Nat → Nat → ByteArray
  | 0, z => if f then π z ++ ρ z else ρ z ++ π z
  | m + 1, z => (if f then π z ++ ρ z else ρ z ++ π z) ++ ((if κ z && μ z then s.extract z (z + 1) else e0) ++ specB f s κ μ π ρ m (z + 1))

theorem pt_some {t : ByteArray} (h : t.size ≠ 0) : pt t = [⟨1, 0, t⟩] := if_neg h
theorem pt_none {t : ByteArray} (h : t.size = 0) : pt t = [] ∧ t = e0 := ⟨if_pos h, e0_of h⟩
theorem RT_puts {f : Bool} {s : ByteArray} {z : Int} {A B : ByteArray} {X Y : List C} (gx : Gd X) (gy : Gd Y) (eq : sumOf fromC X = sumOf fromC Y) (hx : ∀ c cs, X = c :: cs → c.k ≠ 1) (hy : ∀ d ds, Y = d :: ds → d.k ≠ 1) :
    RT f s z (pt A ++ X) (pt B ++ Y) = (if f then A ++ B else B ++ A) ++ RT f s z X Y := by
  have gB : Gd (pt B ++ Y) := (pt_gd B).append gy
  have eB : sumOf fromC (pt B ++ Y) = sumOf fromC Y := by rw [sumOf_append, pt_from]; omega
  by_cases hA : A.size = 0
  · obtain ⟨a1, rfl⟩ := pt_none hA
    rw [a1, List.nil_append]
    by_cases hB : B.size = 0
    · obtain ⟨b1, rfl⟩ := pt_none hB
      rw [b1, List.nil_append]; cases f <;> simp [e0_left]
    · rw [pt_some hB] at gB eB ⊢
      rw [List.cons_append, List.nil_append] at gB eB ⊢
      rw [RT_putB gx gB (by omega) rfl (fun c cs e hk => absurd hk (hx c cs e))]
      cases f <;> simp [e0_left, e0_right]
  · have gA : Gd (pt A ++ X) := (pt_gd A).append gx
    have eA : sumOf fromC (pt A ++ X) = sumOf fromC X := by rw [sumOf_append, pt_from]; omega
    rw [pt_some hA] at gA eA ⊢
    rw [List.cons_append, List.nil_append] at gA eA ⊢
    by_cases hB : B.size = 0
    · obtain ⟨b1, rfl⟩ := pt_none hB
      rw [b1, List.nil_append, RT_putA rfl (.inr hy)]
      cases f <;> simp [e0_left, e0_right]
    · rw [pt_some hB] at gB eB ⊢
      rw [List.cons_append, List.nil_append] at gB eB ⊢
      cases f with
      | true =>
        rw [RT_putA rfl (.inl rfl), RT_putB gx gB (by omega) rfl (fun c cs e hk => absurd hk (hx c cs e))]
        simp [ba_append_assoc]
      | false =>
        rw [RT_putB gA gB (by omega) rfl (fun _ _ _ _ => rfl), RT_putA rfl (.inr hy)]
        simp [ba_append_assoc]
theorem rem_main {f : Bool} {s : ByteArray} {κ μ : Nat → Bool} {π ρ : Nat → ByteArray} : ∀ (m z : Nat) (X Y : List C), RemS κ π m z X → RemS μ ρ m z Y → z + m ≤ s.size → RT f s z X Y = specB f s κ μ π ρ m z
  | 0, z, X, Y, hX, hY, _ => by
    simp only [RemS] at hX hY
    subst hX; subst hY
    have := RT_puts (f := f) (s := s) (z := z) (A := π z) (B := ρ z) (X := []) (Y := []) Gd.nil Gd.nil rfl (fun _ _ e => by cases e) (fun _ _ e => by cases e)
    rw [List.append_nil, List.append_nil] at this
    rw [this]
    simp only [specB]
    rw [show RT f s z [] [] = e0 from rfl, e0_right]
  | m + 1, z, X, Y, hX, hY, hle => by
    obtain ⟨gX, sX⟩ := rem_ok _ _ _ hX
    obtain ⟨gY, sY⟩ := rem_ok _ _ _ hY
    obtain ⟨c, X1, rfl, hc, pc, kc, rX⟩ := hX
    obtain ⟨d, Y1, rfl, hd, pd, kd, rY⟩ := hY
    have gx : Gd (c :: X1) := fun x hx => gX x (by simp at hx ⊢; exact .inr hx)
    have gy : Gd (d :: Y1) := fun x hx => gY x (by simp at hx ⊢; exact .inr hx)
    rw [sumOf_append, pt_from] at sX sY
    have kc1 := kindN kc
    have kd1 := kindN kd
    rw [RT_puts gx gy (by omega) (fun _ _ e => by cases e; exact kc1) (fun _ _ e => by cases e; exact kd1)]
    rw [RT_flex (m := 1) gx gy (by omega) kc1 kd1 (by omega) (by omega) (by omega) (by omega) (by omega)]
    have ih := rem_main (f := f) (s := s) m (z + 1) _ _ rX rY (by omega)
    rw [show ((z : Int) + 1) = ((z + 1 : Nat) : Int) by omega, ih]
    simp only [specB]
    congr 2
    unfold bothB
    rw [kc, kd, show ((z : Int) + 1).toNat = z + 1 by omega, show ((z : Int)).toNat = z by omega]
    cases κ z <;> cases μ z <;> simp

/-- A run of bytes that are all kept, or all cut. -/
theorem rem_run {κ : Nat → Bool} {π : Nat → ByteArray} (b : Bool) (m : Nat) (X1 : List C) : ∀ (k z : Nat), 0 < k → RemS κ π m (z + k) X1 → (∀ i, i < k → κ (z + i) = b) → (∀ i, 0 < i → i < k → π (z + i) = e0) → RemS κ π (m + k) z (pt (π z) ++ ⟨if b then 0 else 2, k, e0⟩ :: X1)
  | 0, _, h, _, _, _ => absurd h (Nat.lt_irrefl 0)
  | 1, z, _, h, hκ, _ => by
    refine ⟨_, _, rfl, ?_, ?_, ?_, ?_⟩
    · cases b <;> simp [C.Soft, e0_size]
    · cases b <;> simp [C.sz, e0_size]
    · have := hκ 0 (by omega); rw [Nat.add_zero] at this; rw [this]
    · unfold tailC; rw [if_pos (by simp [C.sz, e0_size])]; exact h
  | k + 2, z, _, h, hκ, hπ => by
    refine ⟨_, _, rfl, ?_, ?_, ?_, ?_⟩
    · cases b <;> simp [C.Soft, e0_size] <;> omega
    · cases b <;> simp [C.sz, e0_size] <;> omega
    · have := hκ 0 (by omega); rw [Nat.add_zero] at this; rw [this]
    · have ih := rem_run b m X1 (k + 1) (z + 1) (by omega) (by rw [show z + 1 + (k + 1) = z + (k + 2) by omega]; exact h) (fun i hi => by rw [show z + 1 + i = z + (i + 1) by omega]; exact hκ (i + 1) (by omega)) (fun i h0 hi => by rw [show z + 1 + i = z + (i + 1) by omega]; exact hπ (i + 1) (by omega) (by omega))
      rw [hπ 1 (by omega) (by omega), pt_e0, List.nil_append] at ih
      unfold tailC
      rw [if_neg (by simp [C.sz, e0_size]; omega)]
      have e : dropC ⟨if b then 0 else 2, ((k + 2 : Nat) : Int), e0⟩ 1 = ⟨if b then 0 else 2, ((k + 1 : Nat) : Int), e0⟩ := by
        unfold dropC
        rw [if_neg (by cases b <;> simp)]
        simp; omega
      rw [e]; exact ih

/-- What Make makes, raw. -/
def mkL (n at_ cut : Nat) (put : ByteArray) : List C := [⟨0, at_, e0⟩, ⟨1, 0, put⟩, ⟨2, cut, e0⟩, ⟨0, (n : Int) - at_ - cut, e0⟩]
def keptAt (at_ cut : Nat) (z : Nat) : Bool := decide (z < at_) || decide (at_ + cut ≤ z)
def putAt (at_ : Nat) (put : ByteArray) (z : Nat) : ByteArray := if z = at_ then put else e0

theorem mk_nf {n at_ cut : Nat} {put : ByteArray} (h : at_ + cut ≤ n) : normOf (mkL n at_ cut put) = if put.size = 0 ∧ cut = 0 then kp n else kp at_ ++ (pt put ++ (ct cut ++ kp ((n : Int) - at_ - cut))) := by
  by_cases hp : put.size = 0
  · obtain ⟨p1, rfl⟩ := pt_none hp
    by_cases hc : cut = 0
    · subst hc
      rw [if_pos ⟨hp, rfl⟩]
      by_cases ha : at_ = 0
      · subst ha
        by_cases hn : n = 0
        · subst hn; simp [normOf, mkL, addC, C.sz, e0_size, kp]
        · simp [normOf, mkL, addC, addR, C.sz, e0_size, kp, hn, Nat.pos_of_ne_zero hn]
      · by_cases hr : n = at_
        · subst hr; simp [normOf, mkL, addC, addR, C.sz, e0_size, kp, ha, Nat.pos_of_ne_zero ha]
        · have h3 : ¬ ((n : Int) - at_ = 0) := by omega
          have h4 : (at_ : Int) + (n - at_) = n := by omega
          have h5 : 0 < n := by omega
          simp [normOf, mkL, addC, addR, C.sz, e0_size, kp, ha, h3, C.join, h4, e0_left, h5]
    · rw [if_neg (by omega), p1, List.nil_append]
      have hc' : 0 < cut := Nat.pos_of_ne_zero hc
      by_cases ha : at_ = 0
      · subst ha
        by_cases hr : (n : Int) - cut = 0
        · simp [normOf, mkL, addC, addR, C.sz, e0_size, kp, ct, hc, hc', hr]
        · have h5 : cut < n := by omega
          have h6 : ¬ ((n : Int) - cut = 0) := by omega
          simp [normOf, mkL, addC, addR, C.sz, e0_size, kp, ct, hc, hc', h6, h5]
      · have ha' : 0 < at_ := Nat.pos_of_ne_zero ha
        by_cases hr : (n : Int) - at_ - cut = 0
        · simp [normOf, mkL, addC, addR, C.sz, e0_size, kp, ct, hc, hc', hr, ha, ha']
        · have h5 : (cut : Int) < (n : Int) - at_ := by omega
          simp [normOf, mkL, addC, addR, C.sz, e0_size, kp, ct, hc, hc', hr, ha, ha', h5]
  · rw [if_neg (by omega), pt_some hp]
    by_cases ha : at_ = 0
    · subst ha
      by_cases hc : cut = 0
      · subst hc
        by_cases hn : n = 0
        · subst hn; simp [normOf, mkL, addC, addR, C.sz, e0_size, kp, ct, hp]
        · simp [normOf, mkL, addC, addR, C.sz, e0_size, kp, ct, hp, hn, Nat.pos_of_ne_zero hn]
      · have hc' : 0 < cut := Nat.pos_of_ne_zero hc
        by_cases hr : (n : Int) - cut = 0
        · simp [normOf, mkL, addC, addR, C.sz, e0_size, kp, ct, hp, hc, hc', hr]
        · have h5 : cut < n := by omega
          simp [normOf, mkL, addC, addR, C.sz, e0_size, kp, ct, hp, hc, hc', hr, h5]
    · have ha' : 0 < at_ := Nat.pos_of_ne_zero ha
      by_cases hc : cut = 0
      · subst hc
        by_cases hr : (n : Int) - at_ = 0
        · simp [normOf, mkL, addC, addR, C.sz, e0_size, kp, ct, hp, ha, ha', hr]
        · have h5 : at_ < n := by omega
          simp [normOf, mkL, addC, addR, C.sz, e0_size, kp, ct, hp, ha, ha', hr, h5]
      · have hc' : 0 < cut := Nat.pos_of_ne_zero hc
        by_cases hr : (n : Int) - at_ - cut = 0
        · simp [normOf, mkL, addC, addR, C.sz, e0_size, kp, ct, hp, ha, ha', hc, hc', hr]
        · have h5 : (cut : Int) < (n : Int) - at_ := by omega
          simp [normOf, mkL, addC, addR, C.sz, e0_size, kp, ct, hp, ha, ha', hc, hc', hr, h5]

theorem kept_lo {at_ cut z : Nat} (h : z < at_) : keptAt at_ cut z = true := by simp [keptAt, h]
theorem kept_mid {at_ cut z : Nat} (h : at_ ≤ z) (h1 : z < at_ + cut) : keptAt at_ cut z = false := by
  simp only [keptAt, Bool.or_eq_false_iff, decide_eq_false_iff_not]; omega
theorem kept_hi {at_ cut z : Nat} (h : at_ + cut ≤ z) : keptAt at_ cut z = true := by simp [keptAt, h]
theorem put_off {at_ z : Nat} {put : ByteArray} (h : z ≠ at_) : putAt at_ put z = e0 := if_neg h
theorem put_on (at_ : Nat) (put : ByteArray) : putAt at_ put at_ = put := if_pos rfl

theorem mk_rem {n at_ cut : Nat} {put : ByteArray} (h : at_ + cut ≤ n) : RemS (keptAt at_ cut) (putAt at_ put) n 0 (normOf (mkL n at_ cut put)) := by
  rw [mk_nf h]
  by_cases h0 : put.size = 0 ∧ cut = 0
  · rw [if_pos h0]
    obtain ⟨p1, rfl⟩ := pt_none h0.1
    obtain ⟨-, rfl⟩ := h0
    have hπ : ∀ z, putAt at_ e0 z = e0 := fun z => by unfold putAt; split <;> rfl
    by_cases hn : n = 0
    · subst hn
      simp only [RemS, hπ]; rfl
    · have := rem_run (κ := keptAt at_ 0) (π := putAt at_ e0) true 0 [] n 0 (by omega) (by simp only [RemS, hπ]; rfl) (fun i _ => by simp [keptAt]; omega) (fun i _ _ => hπ _)
      rw [hπ, pt_e0, List.nil_append, Nat.zero_add] at this
      unfold kp
      rw [if_pos (by omega)]
      exact this
  · rw [if_neg h0]
    have end_ : ∀ z, at_ + cut = z → RemS (keptAt at_ cut) (putAt at_ put) (n - z) z (pt (putAt at_ put z) ++ kp ((n : Int) - at_ - cut)) := by
      intro z hz
      by_cases hr : n = z
      · rw [show n - z = 0 by omega]
        unfold kp
        rw [if_neg (by omega), List.append_nil]
        rfl
      · have := rem_run (κ := keptAt at_ cut) (π := putAt at_ put) true 0 (pt (putAt at_ put n)) (n - z) z (by omega) (by rw [show z + (n - z) = n by omega]; rfl) (fun i _ => kept_hi (by omega)) (fun i _ _ => put_off (by omega))
        rw [put_off (z := n) (by omega), pt_e0, Nat.zero_add] at this
        unfold kp
        rw [if_pos (by omega), show ((n : Int) - at_ - cut) = ((n - z : Nat) : Int) by omega]
        exact this
    have mid : RemS (keptAt at_ cut) (putAt at_ put) (n - at_) at_ (pt put ++ (ct cut ++ kp ((n : Int) - at_ - cut))) := by
      by_cases hc : cut = 0
      · have := end_ at_ (by omega)
        rw [put_on] at this
        unfold ct
        rw [if_neg (by omega), List.nil_append]
        exact this
      · have e1 := end_ (at_ + cut) rfl
        rw [put_off (by omega), pt_e0, List.nil_append] at e1
        have := rem_run (κ := keptAt at_ cut) (π := putAt at_ put) false (n - (at_ + cut)) _ cut at_ (by omega) e1 (fun i hi => kept_mid (by omega) (by omega)) (fun i _ _ => put_off (by omega))
        rw [put_on, show n - (at_ + cut) + cut = n - at_ by omega] at this
        unfold ct
        rw [if_pos (by omega)]
        exact this
    by_cases ha : at_ = 0
    · subst ha
      unfold kp
      rw [if_neg (by omega), List.nil_append]
      exact mid
    · have := rem_run (κ := keptAt at_ cut) (π := putAt at_ put) true (n - at_) _ at_ 0 (by omega) (by rw [Nat.zero_add]; exact mid) (fun i hi => kept_lo (by omega)) (fun i _ _ => put_off (by omega))
      rw [put_off (z := 0) (by omega), pt_e0, List.nil_append, show n - at_ + at_ = n by omega] at this
      conv => arg 5; arg 1; unfold kp
      rw [if_pos (by omega)]
      exact this

/-- What Make makes may be. -/
structure Made (n at_ cut : Nat) (put : ByteArray) (c : List C) : Prop where
  may : MayP c
  len : c.length ≤ 4
  from' : sumOf fromC c = n
  to' : sumOf toC c = (n : Int) - cut + put.size
  puts : sumOf putZ c ≤ put.size
  rem : RemS (keptAt at_ cut) (putAt at_ put) n 0 c
theorem mk_raw {n at_ cut : Nat} {put : ByteArray} (h : at_ + cut ≤ n) (hn : n ≤ 4096) (hp : put.size ≤ 4096) : ∀ c ∈ mkL n at_ cut put, c.Raw := by
  intro c hc
  simp only [mkL, List.mem_cons, List.not_mem_nil, or_false] at hc
  rcases hc with rfl | rfl | rfl | rfl
  · exact .inl ⟨.inl rfl, by dsimp only; omega, by dsimp only; omega, rfl⟩
  · exact .inr ⟨rfl, rfl, hp⟩
  · exact .inl ⟨.inr rfl, by dsimp only; omega, by dsimp only; omega, rfl⟩
  · exact .inl ⟨.inl rfl, by dsimp only; omega, by dsimp only; omega, rfl⟩
theorem put_zero (c : C) (_ : c.Soft) (h0 : c.sz = 0) : putZ c = 0 := by simp [putZ, h0]
theorem mk_made {n at_ cut : Nat} {put : ByteArray} (h : at_ + cut ≤ n) (hn : n ≤ 4096) (hp : n - cut + put.size ≤ 4096) : Made n at_ cut put (normOf (mkL n at_ cut put)) := by
  have hr := mk_raw (put := put) h hn (by omega)
  have hf := soft_all hr
  have e1 : sumOf fromC (mkL n at_ cut put) = n := by
    simp only [mkL, sumOf, fromC]
    simp only [if_true, show ¬ ((0 : Int) = 1) by omega, show ¬ ((2 : Int) = 1) by omega, if_false]
    omega
  have e2 : sumOf toC (mkL n at_ cut put) = (n : Int) - cut + put.size := by
    simp only [mkL, sumOf, toC, C.sz, e0_size]
    simp only [if_true, show ¬ ((0 : Int) = 2) by omega, show ¬ ((1 : Int) = 2) by omega, if_false]
    omega
  have e3 : sumOf putZ (mkL n at_ cut put) = put.size := by
    simp only [mkL, sumOf, putZ, C.sz]
    simp only [if_true, show ¬ ((0 : Int) = 1) by omega, show ¬ ((2 : Int) = 1) by omega, if_false]
    omega
  have ok : okB (mkL n at_ cut put) = true := okB_iff.2 ⟨by simp [mkL], hr, by omega, by omega⟩
  refine ⟨⟨okB_normOf ok, norm_normOf hf⟩, normOf_length _, ?_, ?_, ?_, mk_rem h⟩
  · rw [sum_normOf from_join from_zero _ hf]; exact e1
  · rw [sum_normOf to_join to_zero _ hf]; exact e2
  · rw [sum_normOf put_join put_zero _ hf, e3]; exact Int.le_refl _

/-- What two made edits make of a text. -/
theorem made_two {f : Bool} {s : ByteArray} {x p y q : Nat} {A B : ByteArray} {a b : List C} (ha : Made s.size x p A a) (hb : Made s.size y q B b) (hs : (s.size : Int) + A.size + B.size ≤ 4096) :
    TraP f a b ∧ appB (appB s 0 b) 0 (normOf (traP f a b)) = specB f s (keptAt x p) (keptAt y q) (putAt x A) (putAt y B) s.size 0 ∧ appB (appB s 0 a) 0 (normOf (traQ f a b)) = specB f s (keptAt x p) (keptAt y q) (putAt x A) (putAt y B) s.size 0 := by
  have eq : sumOf fromC a = sumOf fromC b := by rw [ha.from', hb.from']
  have S := tra_sums (f := f) (gd_of_may ha.may) (gd_of_may hb.may) eq
  have t1 := ha.to'
  have t2 := hb.puts
  have l1 := ha.len
  have l2 := hb.len
  have e1 : appB (appB s 0 b) 0 (normOf (traP f a b)) = specB f s (keptAt x p) (keptAt y q) (putAt x A) (putAt y B) s.size 0 := by
    rw [appB_normOf (Int.le_refl 0) _ S.softP]
    exact rem_main s.size 0 a b ha.rem hb.rem (by omega)
  exact ⟨tra_may ha.may hb.may eq (by omega) (by omega), e1, by rw [← tra_roads ha.may hb.may eq ha.from']; exact e1⟩

end Go.Proofs.Ytkknkannjoijbaa
