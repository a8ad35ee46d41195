/-
  What a reader of the reference stands for: the pieces that are left; its functions in these words. Conditions: as each theorem's premises say.
-/
import Derived.Test.YtkknkannjoijbaaRTake
namespace Go.Proofs.Ytkknkannjoijbaa
open Go.RowKit

/-- A reader of the reference at block b: X is left; the pieces lie where they lay in w0. -/
def RRd (w0 w : World) (b : Nat) (X : List C) : Prop :=
  ∃ (p : Option Addr) (cs : List C) (cap i : Nat) (a : Int), w.cell? ⟨b, 0, none⟩ = some (.slice p cs.length cap) ∧ w.cell? ⟨b, 1, none⟩ = some (.int .i64 i) ∧ w.cell? ⟨b, 2, none⟩ = some (.int .i64 a) ∧ (∀ j, w.frozen? ⟨b, j, none⟩ = false) ∧ RowC w0 p cs ∧ (∀ c ∈ cs, c.Raw ∧ 0 < c.sz) ∧ cs.length ≤ 4096 ∧ i ≤ cs.length ∧ Rep (cs.drop i) a X ∧ w0.heap.size ≤ b

theorem rrd_far (w0 : World) : Far (RRd w0) := by
  rintro w w' b X row ⟨p, cs, cap, i, a, h0, h1, h2, h3, h4⟩ hg hr
  have hblk := hg.block b (World.block_lt_of_cell? w ⟨b, 0, none⟩ h0) (fun e => hr e.symm)
  exact ⟨p, cs, cap, i, a, (World.cell?_of_block hblk).trans h0, (World.cell?_of_block hblk).trans h1, (World.cell?_of_block hblk).trans h2, fun j => (World.frozen?_of_block hblk).trans (h3 j), h4⟩

def rrLen (w : World) (b : Nat) : Nat := match w.cell? ⟨b, 0, none⟩, w.cell? ⟨b, 1, none⟩ with
  | some (.slice _ n _), some (.int _ i) => n - i.toNat
  | _, _ => 0
theorem RRd.length {w0 w : World} {b : Nat} {X : List C} (h : RRd w0 w b X) : rrLen w b = X.length := by
  obtain ⟨p, cs, cap, i, a, h0, h1, -, -, -, -, -, hi, hr, -⟩ := h
  unfold rrLen
  rw [h0, h1, ← hr.len, List.length_drop]
  rfl

theorem rrd_peek_no {w0 w : World} {b : Nat} (h : RRd w0 w b []) : Calls Try.prog 30 #[.pointer (some ⟨b, 0, none⟩)] w (PeekW ⟨0, 0, e0⟩ false w) := by
  obtain ⟨p, cs, cap, i, a, h0, h1, h2, -, -, -, -, hi, hr, -⟩ := h
  have hl := congrArg List.length hr.nil
  rw [List.length_drop, List.length_nil] at hl
  obtain rfl : i = cs.length := by omega
  exact peek_no b cs.length cap p a w h0 h1 h2
theorem drop_cons {cs X : List C} {i : Nat} {d : C} (h : cs.drop i = d :: X) : cs[i]? = some d ∧ cs.drop (i + 1) = X ∧ i < cs.length := by
  have hl : i < cs.length := by
    rcases Nat.lt_or_ge i cs.length with h' | h'
    · exact h'
    · rw [List.drop_eq_nil_of_le h'] at h; cases h
  rw [List.drop_eq_getElem_cons hl] at h
  cases h
  exact ⟨List.getElem?_eq_getElem hl, rfl, hl⟩
theorem raw_num {d : C} {m k : Int} (h : d.Raw) (e : d = ⟨k, m, e0⟩) (_hk : k = 0 ∨ k = 2) : 0 ≤ m ∧ m ≤ 4096 ∧ d.sz = m := by
  subst e; unfold C.Raw at h; simp [C.sz, e0_size] at *; omega
theorem raw_put {d : C} {t : ByteArray} (h : d.Raw) (e : d = ⟨1, 0, t⟩) : (t.size : Int) ≤ 4096 ∧ d.sz = t.size := by
  subst e; unfold C.Raw at h; simp [C.sz] at *; omega

theorem rrd_peek_yes {w0 w : World} {b : Nat} {c : C} {X : List C} (h : RRd w0 w b (c :: X)) (hb : Below w0.heap.size w0 w) : Calls Try.prog 30 #[.pointer (some ⟨b, 0, none⟩)] w (PeekW c true w) := by
  obtain ⟨p, cs, cap, i, a, h0, h1, h2, -, hrow, hraw, hl, hi, hr, -⟩ := h
  obtain ⟨d, hd, ha0, ha1, rfl⟩ := hr.inv
  obtain ⟨hdi, -, hlt⟩ := drop_cons hd
  obtain ⟨g, o, rfl, hp⟩ := hrow i d hdi
  have hdr := (hraw d (List.mem_of_getElem? hdi)).1
  have hp' := hp.below hb
  rcases soft_form (Raw.soft hdr) with ⟨m, hm, rfl⟩ | ⟨m, hm, rfl⟩ | ⟨t, rfl⟩
  · obtain ⟨f0, f1, f2⟩ := raw_num hdr rfl (.inl rfl)
    exact peek_num b cs.length cap g o i 0 m a w h0 h1 h2 hlt hl hp' (by omega) ha0 f1 (by omega)
  · obtain ⟨f0, f1, f2⟩ := raw_num hdr rfl (.inr rfl)
    exact peek_num b cs.length cap g o i 2 m a w h0 h1 h2 hlt hl hp' (by omega) ha0 f1 (by omega)
  · obtain ⟨f1, f2⟩ := raw_put hdr rfl
    exact peek_put b cs.length cap g o i t a w h0 h1 h2 hlt hl hp' ha0 f1 (by omega)

/-- What take answers, in these words. -/
def RTakePost (w0 : World) (b : Nat) (c : C) (X : List C) (w : World) (e : Ending) (w' : World) : Prop :=
  e = .returned c.val ∧ w.grownBy w' (some b) ∧ RRd w0 w' b X

theorem rrd_take {w0 w : World} {b : Nat} {c : C} {X : List C} (h : RRd w0 w b (c :: X)) (hb : Below w0.heap.size w0 w) (x K : Int) (hx0 : 0 ≤ x) (hK : min x c.sz = K) : Calls Try.prog 32 #[.pointer (some ⟨b, 0, none⟩), .int .i64 x] w (RTakePost w0 b (takeC c K) (tailC c K X) w) := by
  have hpk : ∀ W, Below w.heap.size w W → Calls Try.prog 30 #[.pointer (some ⟨b, 0, none⟩)] W (PeekW c true W) := fun W hW => rrd_peek_yes (rrd_far w0 _ _ _ _ none h (grown_of_below hW none) (by simp)) (hb.trans (hW.mono hb.size))
  obtain ⟨p, cs, cap, i, a, h0, h1, h2, hfz, hrow, hraw, hl, hi, hr, hwb⟩ := h
  obtain ⟨d, hd, ha0, ha1, rfl⟩ := hr.inv
  obtain ⟨hdi, hdd, hlt⟩ := drop_cons hd
  obtain ⟨g, o, rfl, hp⟩ := hrow i d hdi
  have hgb : g ≠ b := by
    have := World.block_lt_of_cell? w0 ⟨g, _, none⟩ hp.1
    dsimp only at this
    omega
  have hdr := (hraw d (List.mem_of_getElem? hdi)).1
  have hs := Raw.soft hdr
  have hp' := hp.below hb
  have hz := drop_sz hs ha0 (show a ≤ d.sz by omega)
  rw [hz] at hK
  have hK0 : 0 ≤ K := by omega
  have hK1 : a + K ≤ d.sz := by omega
  have gX : Gd X := fun c hc => by
    have := hraw c (List.mem_of_mem_drop (hdd ▸ hc : c ∈ cs.drop (i + 1)))
    exact ⟨Raw.soft this.1, this.2⟩
  have mid : ∀ {pt : C} {e : Ending} {w' : World}, a + K < d.sz → RTakeW b pt (.slice (some ⟨g, o, none⟩) cs.length cap) i (a + K) w e w' → RTakePost w0 b pt (tailC (dropC d a) K X) w e w' := by
    rintro pt e w' hlt ⟨e1, e2, e3, e4, e5, e6⟩
    exact ⟨e1, e2, _, cs, cap, i, a + K, e3, e4, e5, e6, hrow, hraw, hl, hi, by rw [hd]; exact Rep.mid hs ha0 hK0 hlt, hwb⟩
  have fin : ∀ {pt : C} {e : Ending} {w' : World}, a + K = d.sz → RTakeW b pt (.slice (some ⟨g, o, none⟩) cs.length cap) ((i : Int) + 1) 0 w e w' → RTakePost w0 b pt (tailC (dropC d a) K X) w e w' := by
    rintro pt e w' heq ⟨e1, e2, e3, e4, e5, e6⟩
    rw [tail_end hs ha0 hK0 heq]
    exact ⟨e1, e2, _, cs, cap, i + 1, 0, e3, by simpa using e4, e5, e6, hrow, hraw, hl, by omega, by rw [hdd]; exact Rep.start gX, hwb⟩
  clear hrow hraw hr
  have num : ∀ {k m : Int}, d = ⟨k, m, e0⟩ → (k = 0 ∨ k = 2) → Calls Try.prog 32 #[.pointer (some ⟨b, 0, none⟩), .int .i64 x] w (RTakePost w0 b (takeC (dropC d a) K) (tailC (dropC d a) K X) w) := by
    rintro k m hdk hk
    obtain ⟨f0, f1, f2⟩ := raw_num hdr hdk hk
    have hdc : dropC d a = ⟨k, m - a, e0⟩ := by rw [hdk]; unfold dropC; rw [if_neg (by dsimp only; omega)]
    have htc : takeC (dropC d a) K = ⟨k, K, e0⟩ := by rw [hdc]; unfold takeC; rw [if_neg (by dsimp only; omega)]
    rw [htc]
    rw [hdc] at hpk
    rw [hdk] at hp'
    rcases Int.lt_or_eq_of_le hK1 with hlt' | heq
    · exact (rtake_num_mid b cs.length cap g o i k m (m - a) a x K w h0 h1 h2 hfz hlt hl hp' hk hgb ha0 f1 rfl (by omega) hK0 (by omega) (by omega) hpk).mono fun _ _ => mid hlt'
    · exact (rtake_num_end b cs.length cap g o i k m (m - a) a x K w h0 h1 h2 hfz hlt hl hp' hk hgb ha0 f1 rfl (by omega) hK0 (by omega) (by omega) hpk).mono fun _ _ => fin heq
  rcases soft_form hs with ⟨m, hm, hdk⟩ | ⟨m, hm, hdk⟩ | ⟨t, hdk⟩
  · exact num hdk (.inl rfl)
  · exact num hdk (.inr rfl)
  · obtain ⟨f1, f2⟩ := raw_put hdr hdk
    have hdc : dropC d a = ⟨1, 0, t.extract a.toNat t.size⟩ := by rw [hdk]; unfold dropC; rw [if_pos rfl]
    have htc : takeC (dropC d a) K = ⟨1, 0, (t.extract a.toNat t.size).extract 0 K.toNat⟩ := by rw [hdc]; unfold takeC; rw [if_pos rfl]
    have hsz : ((t.extract a.toNat t.size).size : Int) = t.size - a := by rw [ByteArray.size_extract]; omega
    rw [htc]
    rw [hdc] at hpk
    rw [hdk] at hp'
    rcases Int.lt_or_eq_of_le hK1 with hlt' | heq
    · exact (rtake_put_mid b cs.length cap g o i t _ a x K w h0 h1 h2 hfz hlt hl hp' hgb ha0 f1 hsz (by omega) hK0 (by omega) (by omega) hpk).mono fun _ _ => mid hlt'
    · exact (rtake_put_end b cs.length cap g o i t _ a x K w h0 h1 h2 hfz hlt hl hp' hgb ha0 f1 hsz (by omega) hK0 (by omega) (by omega) hpk).mono fun _ _ => fin heq
theorem rrd_take_all {w0 w : World} {b : Nat} {c : C} {X : List C} (h : RRd w0 w b (c :: X)) (hb : Below w0.heap.size w0 w) (hc : c.Soft ∧ 0 < c.sz) (x : Int) (hx : c.sz ≤ x) : Calls Try.prog 32 #[.pointer (some ⟨b, 0, none⟩), .int .i64 x] w (RTakePost w0 b c X w) := by
  have := rrd_take h hb x c.sz (by omega) (by omega)
  rwa [take_all hc.1, tail_all] at this

theorem rrd_new {w0 w : World} (p : Option Addr) (cs : List C) (cap : Nat) (hrow : RowC w0 p cs) (hm : MayP cs) (hb : w0.heap.size ≤ w.heap.size) : RRd w0 (w.alloc (.cells #[.slice p cs.length cap, .int .i64 0, .int .i64 0] 62)) w.heap.size cs := by
  refine ⟨p, cs, cap, 0, 0, ?_, ?_, ?_, fun i => by simp [World.frozen?_alloc_mark], hrow, fun c hc => ⟨(okB_iff.1 hm.1).2.1 c hc, (gd_of_may hm c hc).2⟩, (okB_iff.1 hm.1).1, Nat.zero_le _, Rep.start (gd_of_may hm), hb⟩
  · rw [World.cell?_alloc_mark]; rfl
  · rw [World.cell?_alloc_mark]; rfl
  · rw [World.cell?_alloc_mark]; rfl

end Go.Proofs.Ytkknkannjoijbaa
