/-
  What a reader stands for: the pieces that are left; its functions in these words. Conditions: as each theorem's premises say.
-/
import Derived.Test.YtdpjkafabjhkiaaRd2
namespace Go.Proofs.Ytdpjkafabjhkiaa
open Go.RowKit

/-- The first of rest is taken as far as a: X is left. -/
def Rep (rest : List C) (a : Int) (X : List C) : Prop :=
  (rest = [] ∧ a = 0 ∧ X = []) ∨ ∃ c cs, rest = c :: cs ∧ 0 ≤ a ∧ a < c.sz ∧ X = dropC c a :: cs
theorem Rep.start {cs : List C} (h : Gd cs) : Rep cs 0 cs := by
  cases cs with
  | nil => exact .inl ⟨rfl, rfl, rfl⟩
  | cons c cs => exact .inr ⟨c, cs, rfl, Int.le_refl _, h.head.2, by rw [drop_zero h.head.1]⟩
theorem Rep.inv {rest X : List C} {c : C} {a : Int} (h : Rep rest a (c :: X)) : ∃ d, rest = d :: X ∧ 0 ≤ a ∧ a < d.sz ∧ c = dropC d a := by
  rcases h with ⟨-, -, h⟩ | ⟨d, cs, h1, h2, h3, h4⟩
  · cases h
  · cases h4; exact ⟨d, h1, h2, h3, rfl⟩
theorem Rep.nil {rest : List C} {a : Int} (h : Rep rest a []) : rest = [] := by
  rcases h with ⟨h, -, -⟩ | ⟨d, cs, h1, h2, h3, h4⟩
  · exact h
  · cases h4
theorem Rep.len {rest X : List C} {a : Int} (h : Rep rest a X) : rest.length = X.length := by
  rcases h with ⟨rfl, -, rfl⟩ | ⟨d, cs, rfl, -, -, rfl⟩ <;> rfl
/-- Taking from what is left. -/
theorem Rep.mid {X : List C} {d : C} {a x : Int} (hs : d.Soft) (h0 : 0 ≤ a) (h1 : 0 ≤ x) (h2 : a + x < d.sz) : Rep (d :: X) (a + x) (tailC (dropC d a) x X) := by
  refine .inr ⟨d, X, rfl, by omega, h2, ?_⟩
  unfold tailC
  rw [if_neg (by rw [drop_sz hs h0 (by omega)]; omega), drop_drop hs h0 h1]
theorem tail_end {X : List C} {d : C} {a x : Int} (hs : d.Soft) (h0 : 0 ≤ a) (h1 : 0 ≤ x) (h2 : a + x = d.sz) : tailC (dropC d a) x X = X := by
  unfold tailC
  rw [if_pos (by rw [drop_sz hs h0 (by omega)]; omega)]

/-- A reader at block b: X is left; the pieces lie where they lay in w0. -/
def Rd (w0 w : World) (b : Nat) (X : List C) : Prop :=
  ∃ p rest cap a, w.cell? ⟨b, 0, none⟩ = some (.slice p rest.length cap) ∧ w.cell? ⟨b, 1, none⟩ = some (.int .i64 a) ∧ (∀ i, w.frozen? ⟨b, i, none⟩ = false) ∧ RowC w0 p rest ∧ rest.length ≤ cap ∧ (∀ c ∈ rest, c.Raw ∧ 0 < c.sz) ∧ Rep rest a X

theorem Rd.lt {w0 w : World} {b : Nat} {X : List C} (h : Rd w0 w b X) : b < w.heap.size := by
  obtain ⟨p, rest, cap, a, h0, -⟩ := h
  exact World.block_lt_of_cell? w ⟨b, 0, none⟩ h0
theorem Rd.far {w0 w w' : World} {b : Nat} {X : List C} {row : Option Nat} (h : Rd w0 w b X) (hg : w.grownBy w' row) (hr : row ≠ some b) : Rd w0 w' b X := by
  have hlt := h.lt
  obtain ⟨p, rest, cap, a, h0, h1, h2, h3⟩ := h
  have hblk := hg.block b hlt (fun e => hr e.symm)
  exact ⟨p, rest, cap, a, (World.cell?_of_block hblk).trans h0, (World.cell?_of_block hblk).trans h1, fun i => (World.frozen?_of_block hblk).trans (h2 i), h3⟩
theorem Rd.below {w0 w w' : World} {b : Nat} {X : List C} (h : Rd w0 w b X) (hb : Below w.heap.size w w') : Rd w0 w' b X := h.far (grown_of_below hb none) (by simp)

def rdLen (w : World) (b : Nat) : Nat := match w.cell? ⟨b, 0, none⟩ with
  | some (.slice _ n _) => n
  | _ => 0
theorem Rd.length {w0 w : World} {b : Nat} {X : List C} (h : Rd w0 w b X) : rdLen w b = X.length := by
  obtain ⟨p, rest, cap, a, h0, -, -, -, -, -, hr⟩ := h
  unfold rdLen
  rw [h0, ← hr.len]

theorem rd_more_yes {w0 w : World} {b : Nat} {c : C} {X : List C} (h : Rd w0 w b (c :: X)) : Calls Try.prog 33 #[.pointer (some ⟨b, 0, none⟩)] w fun e w' => e = .returned (.bool true) ∧ w = w' := by
  obtain ⟨p, rest, cap, a, h0, -, -, -, -, -, hr⟩ := h
  exact more_yes b rest.length cap p w h0 (by rw [hr.len]; simp)
theorem rd_more_no {w0 w : World} {b : Nat} (h : Rd w0 w b []) : Calls Try.prog 33 #[.pointer (some ⟨b, 0, none⟩)] w fun e w' => e = .returned (.bool false) ∧ w = w' := by
  obtain ⟨p, rest, cap, a, h0, -, -, -, -, -, hr⟩ := h
  rw [hr.nil] at h0
  exact more_no b cap p w h0
theorem rd_at_yes {w0 w : World} {b : Nat} {c : C} {X : List C} (h : Rd w0 w b (c :: X)) (hb : Below w0.heap.size w0 w) (kind : Int) : Calls Try.prog 34 #[.pointer (some ⟨b, 0, none⟩), .int .i64 kind] w fun e w' => e = .returned (.bool (c.k == kind)) ∧ w = w' := by
  obtain ⟨p, rest, cap, a, h0, -, -, hrow, -, -, hr⟩ := h
  obtain ⟨d, rfl, -, -, rfl⟩ := hr.inv
  obtain ⟨g, o, rfl, hp, -, -⟩ := hrow 0 d rfl
  rw [drop_k]
  have hp' := cell_later hb hp
  simp only [Nat.zero_mul, Nat.add_zero] at hp'
  exact at_yes b X.length cap g o d.k kind w h0 hp'
theorem rd_at_no {w0 w : World} {b : Nat} (h : Rd w0 w b []) (kind : Int) : Calls Try.prog 34 #[.pointer (some ⟨b, 0, none⟩), .int .i64 kind] w fun e w' => e = .returned (.bool false) ∧ w = w' := by
  obtain ⟨p, rest, cap, a, h0, -, -, -, -, -, hr⟩ := h
  rw [hr.nil] at h0
  exact at_no b cap p kind w h0
theorem rd_left {w0 w : World} {b : Nat} {c : C} {X : List C} (h : Rd w0 w b (c :: X)) (hb : Below w0.heap.size w0 w) : Calls Try.prog 36 #[.pointer (some ⟨b, 0, none⟩)] w fun e w' => e = .returned (.int .i64 c.sz) ∧ Below w.heap.size w w' := by
  obtain ⟨p, rest, cap, a, h0, h1, -, hrow, -, hraw, hr⟩ := h
  obtain ⟨d, rfl, ha0, ha1, rfl⟩ := hr.inv
  obtain ⟨g, o, rfl, hp⟩ := hrow 0 d rfl
  have hd := (hraw d (by simp)).1
  rw [drop_sz (Raw.soft hd) ha0 (by omega)]
  have hp' := hp.below hb
  simp only [Nat.zero_mul, Nat.add_zero] at hp'
  exact left_yes b X.length cap g o d a w h0 h1 hp' hd ha0 (by omega)

/-- What Take answers, in these words. -/
def TakePost (w0 : World) (b : Nat) (c : C) (X : List C) (w : World) (e : Ending) (w' : World) : Prop :=
  e = .returned c.val ∧ w.grownBy w' (some b) ∧ Rd w0 w' b X

theorem rd_take {w0 w : World} {b : Nat} {c : C} {X : List C} (h : Rd w0 w b (c :: X)) (hb : Below w0.heap.size w0 w) (x : Int) (hx0 : 0 ≤ x) (hx1 : x ≤ c.sz) : Calls Try.prog 35 #[.pointer (some ⟨b, 0, none⟩), .int .i64 x] w (TakePost w0 b (takeC c x) (tailC c x X) w) := by
  obtain ⟨p, rest, cap, a, h0, h1, hfz, hrow, hcap, hraw, hr⟩ := h
  obtain ⟨d, rfl, ha0, ha1, rfl⟩ := hr.inv
  obtain ⟨g, o, rfl, hp⟩ := hrow 0 d rfl
  have hd := (hraw d (by simp)).1
  have hs := Raw.soft hd
  rw [drop_sz hs ha0 (by omega)] at hx1
  have hp' := hp.below hb
  simp only [Nat.zero_mul, Nat.add_zero] at hp'
  rw [take_of_drop hs ha0 hx0 (by omega)]
  have hrawX : ∀ c ∈ X, c.Raw ∧ 0 < c.sz := fun c hc => hraw c (by simp [hc])
  have gX : Gd X := fun c hc => ⟨Raw.soft (hrawX c hc).1, (hrawX c hc).2⟩
  have mid : ∀ {pt : C} {e : Ending} {w' : World}, a + x < d.sz → TakeW b pt (.slice (some ⟨g, o, none⟩) (X.length + 1) cap) (a + x) w e w' → TakePost w0 b pt (tailC (dropC d a) x X) w e w' := by
    rintro pt e w' hlt ⟨e1, e2, e3, e4, e5⟩
    exact ⟨e1, e2, _, d :: X, cap, a + x, e3, e4, e5, hrow, hcap, hraw, Rep.mid hs ha0 hx0 hlt⟩
  have fin : ∀ {pt : C} {q : Nat} {e : Ending} {w' : World}, cap = q + 2 → a + x = d.sz → TakeW b pt (.slice (some ⟨g, o + 3, none⟩) X.length (q + 1)) 0 w e w' → TakePost w0 b pt (tailC (dropC d a) x X) w e w' := by
    rintro pt q e w' hq heq ⟨e1, e2, e3, e4, e5⟩
    rw [tail_end hs ha0 hx0 heq]
    refine ⟨e1, e2, _, X, q + 1, 0, e3, e4, e5, ?_, by simp at hcap; omega, hrawX, Rep.start gX⟩
    have := RowC.drop hrow 1
    simpa using this
  have one : ∀ {pt : C} {e : Ending} {w' : World}, X = [] → a + x = d.sz → TakeW b pt (.slice (some ⟨g, o, none⟩) 0 0) 0 w e w' → TakePost w0 b pt (tailC (dropC d a) x X) w e w' := by
    rintro pt e w' rfl heq ⟨e1, e2, e3, e4, e5⟩
    rw [tail_end hs ha0 hx0 heq]
    exact ⟨e1, e2, _, [], 0, 0, e3, e4, e5, fun i c hi => by simp at hi, Nat.le_refl _, fun c hc => by simp at hc, Rep.start Gd.nil⟩
  clear hraw hrow hr
  simp only [List.length_cons] at h0 hcap
  have num : ∀ {k m : Int}, d = ⟨k, m, e0⟩ → k ≠ 1 → m ≤ 4096 → Calls Try.prog 35 #[.pointer (some ⟨b, 0, none⟩), .int .i64 x] w (TakePost w0 b ⟨k, x, e0⟩ (tailC (dropC d a) x X) w) := by
    rintro k m hd hk hm
    have hz : d.sz = m := by rw [hd]; simp [C.sz, e0_size]
    rw [hd] at hp'
    rcases Int.lt_or_eq_of_le (show a + x ≤ d.sz by omega) with hlt | heq
    · exact (take_num_mid b X.length cap g o k m a x w h0 h1 hfz hp' hk hcap ha0 hx0 (by omega) hm).mono fun _ _ => mid hlt
    · by_cases hc1 : cap = 1
      · obtain rfl : X = [] := List.eq_nil_of_length_eq_zero (by omega)
        subst hc1
        exact (take_num_one b g o k m a x w h0 h1 hfz hp' hk ha0 hx0 (by omega) hm).mono fun _ _ => one rfl heq
      · obtain ⟨q, rfl⟩ : ∃ q, cap = q + 2 := ⟨cap - 2, by omega⟩
        exact (take_num_end b X.length q g o k m a x w h0 h1 hfz hp' hk (by omega) ha0 hx0 (by omega) hm).mono fun _ _ => fin rfl heq
  rcases soft_form hs with ⟨m, hm, hdd⟩ | ⟨m, hm, hdd⟩ | ⟨t, hdd⟩
  · rw [show d.k = 0 by rw [hdd], if_neg (by omega)]
    exact num hdd (by omega) (by rw [hdd] at hd; simp [C.Raw] at hd; omega)
  · rw [show d.k = 2 by rw [hdd], if_neg (by omega)]
    exact num hdd (by omega) (by rw [hdd] at hd; simp [C.Raw] at hd; omega)
  · rw [show d.k = 1 by rw [hdd], if_pos rfl, show d.t = t by rw [hdd]]
    have hz : d.sz = t.size := by rw [hdd]; simp [C.sz]
    have hm : (t.size : Int) ≤ 4096 := by rw [hdd] at hd; simp [C.Raw] at hd; omega
    rw [hdd] at hp'
    rcases Int.lt_or_eq_of_le (show a + x ≤ d.sz by omega) with hlt | heq
    · exact (take_put_mid b X.length cap g o t a x w h0 h1 hfz hp' hcap ha0 hx0 (by omega) hm).mono fun _ _ => mid hlt
    · by_cases hc1 : cap = 1
      · obtain rfl : X = [] := List.eq_nil_of_length_eq_zero (by omega)
        subst hc1
        exact (take_put_one b g o t a x w h0 h1 hfz hp' ha0 hx0 (by omega) hm).mono fun _ _ => one rfl heq
      · obtain ⟨q, rfl⟩ : ∃ q, cap = q + 2 := ⟨cap - 2, by omega⟩
        exact (take_put_end b X.length q g o t a x w h0 h1 hfz hp' (by omega) ha0 hx0 (by omega) hm).mono fun _ _ => fin rfl heq

theorem rd_new {w0 w : World} (p : Option Addr) (cs : List C) (cap : Nat) (hrow : RowC w0 p cs) (hcap : cs.length ≤ cap) (hm : MayP cs) : Rd w0 (w.alloc (.cells #[.slice p cs.length cap, .int .i64 0] 64)) w.heap.size cs := by
  refine ⟨p, cs, cap, 0, ?_, ?_, fun i => by simp [World.frozen?_alloc_mark], hrow, hcap, fun c hc => ⟨(okB_iff.1 hm.1).2.1 c hc, (gd_of_may hm c hc).2⟩, Rep.start (gd_of_may hm)⟩
  · rw [World.cell?_alloc_mark]; rfl
  · rw [World.cell?_alloc_mark]; rfl

end Go.Proofs.Ytdpjkafabjhkiaa
