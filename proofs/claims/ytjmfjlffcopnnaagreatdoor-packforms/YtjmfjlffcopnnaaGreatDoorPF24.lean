/-
  minuetlaw17's awake, under what the program must answer (made by tools/genlw.py). Conditions: as each theorem's premises say.
-/
import Derived.Test.YtjmfjlffcopnnaaGreatDoorPF23
import Derived.Test.YtjmfjlffcopnnaaGreatDoorPF19
import Derived.Deep.RegionHeld3
namespace Go.Proofs.YtjmfjlffcopnnaaGreatDoor
open Go.RowKit
open Go.Proofs.YtjmfjlffcopnnaaGreatDoor.K (C RowC MayP)

/-- A row made by a literal. -/
theorem own_lit {α : Type} {L : Ly α} {W : World} {b n : Nat} {xs : List α} {c : Array Value} (h : W.heap[b]? = some (.cells c L.ty (0, 0))) (hn : xs.length = n) (hc : c.toList = L.all xs) (hm : n ≤ maxLen) : L.Own W b (.slice (some ⟨b, 0, none⟩) n n) xs := by
  subst hn
  have hs : c.size = xs.length * L.sz := by rw [← Array.length_toList, hc, all_len]
  exact ⟨all_len xs, .inr ⟨b, xs.length, c, rfl, Nat.le_refl _, h, Nat.le_refl _, hm, hs, by rw [List.take_of_length_le (by rw [hc, all_len]; exact Nat.le_refl _), hc]⟩⟩
theorem lit_rowC {W : World} {b : Nat} {cs : List C} {c : Array Value} (h : W.heap[b]? = some (.cells c 48 (0, 0))) (hc : c.toList = lyC.all cs) (hm : cs.length ≤ maxLen) : RowC W (some ⟨b, 0, none⟩) cs := own_rowC (own_lit (L := lyC) h rfl hc hm)
theorem mayP_of {cs : List C} (h1 : K.okB cs = true) (h2 : K.NormR cs.reverse) : MayP cs := ⟨h1, (K.norm_iff cs).2 h2⟩
theorem stepsR_one {W : World} {b : Nat} {s : St} {kp : Option Addr} {kc : Nat} (h : W.heap[b]? = some (.cells #[.int .i64 s.kd, .int .i64 s.id, .int .i64 s.nd, .int .i64 s.fr, .int .i64 (St.to s), .slice kp s.kids.length kc] 51 (0, 0))) (hk : lyI.Row W kp s.kids) : StepsR W (some ⟨b, 0, none⟩) [s] := fun i x hx => by
  match i, hx with
  | 0, hx =>
    cases hx
    refine ⟨b, 0, kp, kc, rfl, fun j u hu => ?_, hk⟩
    rw [show 0 + 0 * 6 + j = j from by omega]
    exact (obj_cells h).1 j u (by simpa [lyS, Sv.cells, Sv.kv] using hu)
  | i + 1, hx => simp at hx
theorem entsR_one {W : World} {b : Nat} {e : En} {ep dp : Option Addr} {ec dc : Nat} (h : W.heap[b]? = some (.cells #[.int .i64 e.cl, .int .i64 e.sq, .slice ep e.ed.length ec, .slice dp e.dl.length dc] 54 (0, 0))) (h1 : RowC W ep e.ed) (h2 : StepsR W dp e.dl) : EntsR W (some ⟨b, 0, none⟩) [e] := fun i x hx => by
  match i, hx with
  | 0, hx =>
    cases hx
    refine ⟨b, 0, ep, ec, dp, dc, rfl, fun j u hu => ?_, h1, h2⟩
    rw [show 0 + 0 * 4 + j = j from by omega]
    exact (obj_cells h).1 j u (by simpa [lyE, Ev.cells, Ev.ev, Ev.dv] using hu)
  | i + 1, hx => simp at hx

def mA : Ms := ⟨0, 2, 7, 3, 0, 0, false, ⟨#[]⟩, 0, 0, [], [⟨0, 4, ⟨#[]⟩⟩, ⟨1, 0, ⟨#[97, 44]⟩⟩, ⟨2, 1, ⟨#[]⟩⟩], []⟩
def mB : Ms := ⟨2, 0, 0, 0, 0, 0, false, ⟨#[]⟩, 0, 0, [], [], []⟩
def mC : Ms := ⟨1, 0, 1, 0, 0, 0, false, ⟨#[]⟩, 0, 0, [], [], [⟨1, 1, [⟨0, 2, ⟨#[]⟩⟩], [⟨2, 4, 0, 0, 0, [5]⟩]⟩]⟩
theorem normR_cons {c : C} {r : List C} (h1 : c.sz ≠ 0) (h2 : ∀ l, r.head? = some l → K.fol l.k c.k) (h3 : K.NormR r) : K.NormR (c :: r) := ⟨h1, h2, h3⟩
theorem normR_one {c : C} (h1 : c.sz ≠ 0) : K.NormR [c] := ⟨h1, fun l h => by simp at h, trivial⟩
theorem mA_may : MsMay mA := by
  refine ⟨⟨by decide, by decide, by decide, by decide, by decide, by decide⟩, .inl ⟨rfl, ⟨rfl, rfl, rfl, rfl, rfl, rfl, rfl⟩, rfl, mayP_of (by decide +kernel) ?_, .inl (by decide)⟩⟩
  exact normR_cons (by decide) (fun l h => by cases h; decide) (normR_cons (by decide) (fun l h => by cases h; decide) (normR_one (by decide)))
theorem mB_not : ¬ MsMay mB := by
  rintro ⟨_, ⟨h, _⟩ | ⟨h, _⟩ | ⟨_, _, _, _, _, _, _, _, h⟩⟩
  · cases h
  · cases h
  · revert h
    decide +kernel
theorem mC_may : MsMay mC := by
  refine ⟨⟨by decide, by decide, by decide, by decide, by decide, by decide⟩, .inr (.inl ⟨rfl, ⟨rfl, rfl, rfl, rfl, rfl, rfl, rfl⟩, rfl, rfl, by decide, fun e he => ?_⟩)⟩
  obtain rfl : e = _ := List.mem_singleton.1 he
  refine ⟨by decide, by decide, by decide, by decide, mayP_of (by decide +kernel) (normR_one (by decide)), by decide, fun s hs => ?_⟩
  obtain rfl : s = _ := List.mem_singleton.1 hs
  decide +kernel
theorem mA_text : msgC mA [] = bytesOf ⟨#[80, 50, 44, 55, 44, 51, 44, 51, 44, 107, 52, 44, 112, 50, 58, 97, 44, 99, 49, 44]⟩ := by decide +kernel
theorem mC_text : msgC mC [] = bytesOf ⟨#[67, 48, 44, 49, 44, 49, 44, 49, 44, 49, 44, 49, 44, 107, 50, 44, 49, 44, 50, 44, 52, 44, 48, 44, 48, 44, 48, 44, 49, 44, 53, 44]⟩ := by decide +kernel
theorem mN_not : ¬ ∃ m, Is ⟨#[80, 50, 44, 55, 44, 48, 51, 44, 48, 44]⟩ m := by
  rintro ⟨m, h1, h2, h3⟩
  have h := get_yes (s := bytesOf ⟨#[80, 50, 44, 55, 44, 48, 51, 44, 48, 44]⟩) (h := 80) (l := [50, 44, 55, 44, 48, 51, 44, 48, 44]) (by decide +kernel) h1 h2
  have e : msgC (pMsg 80 ([50, 44, 55, 44, 48, 51, 44, 48, 44], false)).1 [] ≠ bytesOf ⟨#[80, 50, 44, 55, 44, 48, 51, 44, 48, 44]⟩ := by decide +kernel
  rw [h] at e
  exact e h2
theorem mA_is : Is ⟨#[80, 50, 44, 55, 44, 51, 44, 51, 44, 107, 52, 44, 112, 50, 58, 97, 44, 99, 49, 44]⟩ mA := ⟨mA_may, mA_text, by decide⟩
theorem mA_put : putZ mA = ⟨#[80, 50, 44, 55, 44, 51, 44, 51, 44, 107, 52, 44, 112, 50, 58, 97, 44, 99, 49, 44]⟩ ∧ putE mA = 0 := ⟨(goes_is mA_is).2, (put_yes (goes_is mA_is).1).2.1⟩
theorem mC_is : Is ⟨#[67, 48, 44, 49, 44, 49, 44, 49, 44, 49, 44, 49, 44, 107, 50, 44, 49, 44, 50, 44, 52, 44, 48, 44, 48, 44, 48, 44, 49, 44, 53, 44]⟩ mC := ⟨mC_may, mC_text, by decide⟩
theorem mC_put : putZ mC = ⟨#[67, 48, 44, 49, 44, 49, 44, 49, 44, 49, 44, 49, 44, 107, 50, 44, 49, 44, 50, 44, 52, 44, 48, 44, 48, 44, 48, 44, 49, 44, 53, 44]⟩ ∧ putE mC = 0 := ⟨(goes_is mC_is).2, (put_yes (goes_is mC_is).1).2.1⟩
theorem mB_put : putZ mB = ⟨#[]⟩ ∧ putE mB = 1700 := put_not (fun h => mB_not h.1)
theorem mA_z : MsZ mA := by rw [← (getM_is mA_is).1]; exact getM_z _
theorem mC_z : MsZ mC := by rw [← (getM_is mC_is).1]; exact getM_z _
theorem mB_z : MsZ mB := ⟨by decide, by decide, by decide, by decide, fun x hx => (by cases hx), fun x hx => (by cases hx)⟩

open Classical in
set_option maxRecDepth 100000 in
set_option maxHeartbeats 8000000 in
theorem awake_true (PP : PutPr) (GP : GetPr) (MP : MayPr) (w : World) (TB : Tb w) : Calls Tryz.prog 15 #[] w (RetBelow (.returned (.bool true)) w) := by
  have PA : Hid (∀ W b1, Bl w W → RowC W (some ⟨b1, 0, none⟩) mA.ed → Calls Tryz.prog 6 #[.agg #[.int .i64 0, .int .i64 2, .int .i64 7, .int .i64 3, .int .i64 0, .int .i64 0, .bool false, .slice (some ⟨b1, 0, none⟩) 3 3, .slice none 0 0, .string ⟨#[]⟩, .int .i64 0, .int .i64 0, .slice none 0 0]] W (fun e w' => e = .returned (.tuple #[.string ⟨#[80, 50, 44, 55, 44, 51, 44, 51, 44, 107, 52, 44, 112, 50, 58, 97, 44, 99, 49, 44]⟩, .int .i64 0]) ∧ Below W.heap.size W w')) := Lib.hid (fun W b1 hW h => by
    have := PP mA ⟨some ⟨b1, 0, none⟩, 3, none, 0, none, 0⟩ W (Tb.bl TB hW) mA_z ⟨h, fun i c h => by simp [mA] at h, fun i c h => by simp [mA] at h⟩
    unfold PutD at this
    rw [mA_put.1, mA_put.2] at this
    exact this)
  have PB : Hid (∀ W, Bl w W → Calls Tryz.prog 6 #[.agg #[.int .i64 2, .int .i64 0, .int .i64 0, .int .i64 0, .int .i64 0, .int .i64 0, .bool false, .slice none 0 0, .slice none 0 0, .string ⟨#[]⟩, .int .i64 0, .int .i64 0, .slice none 0 0]] W (fun e w' => e = .returned (.tuple #[.string ⟨#[]⟩, .int .i64 1700]) ∧ Below W.heap.size W w')) := Lib.hid (fun W hW => by
    have := PP mB mq0 W (Tb.bl TB hW) mB_z ⟨fun i c h => by simp [mB] at h, fun i c h => by simp [mB] at h, fun i c h => by simp [mB] at h⟩
    unfold PutD at this
    rw [mB_put.1, mB_put.2] at this
    exact this)
  have PC : Hid (∀ W b4, Bl w W → EntsR W (some ⟨b4, 0, none⟩) mC.es → Calls Tryz.prog 6 #[.agg #[.int .i64 1, .int .i64 0, .int .i64 1, .int .i64 0, .int .i64 0, .int .i64 0, .bool false, .slice none 0 0, .slice (some ⟨b4, 0, none⟩) 1 1, .string ⟨#[]⟩, .int .i64 0, .int .i64 0, .slice none 0 0]] W (fun e w' => e = .returned (.tuple #[.string ⟨#[67, 48, 44, 49, 44, 49, 44, 49, 44, 49, 44, 49, 44, 107, 50, 44, 49, 44, 50, 44, 52, 44, 48, 44, 48, 44, 48, 44, 49, 44, 53, 44]⟩, .int .i64 0]) ∧ Below W.heap.size W w')) := Lib.hid (fun W b4 hW h => by
    have := PP mC ⟨none, 0, some ⟨b4, 0, none⟩, 1, none, 0⟩ W (Tb.bl TB hW) mC_z ⟨fun i c h => by simp [mC] at h, h, fun i c h => by simp [mC] at h⟩
    unfold PutD at this
    rw [mC_put.1, mC_put.2] at this
    exact this)
  have GA : Hid (∀ W, Calls Tryz.prog 8 #[.string ⟨#[80, 50, 44, 55, 44, 51, 44, 51, 44, 107, 52, 44, 112, 50, 58, 97, 44, 99, 49, 44]⟩] W (GetI mA W)) := Lib.hid (fun W => (GP _ W (by decide)).mono (fun _ _ h => getI_of h mA_is))
  have GN : Hid (∀ W, Calls Tryz.prog 8 #[.string ⟨#[80, 50, 44, 55, 44, 48, 51, 44, 48, 44]⟩] W (GetN W)) := Lib.hid (fun W => (GP _ W (by decide)).mono (fun _ _ h => getN_of h (getM_no mN_not)))
  have MYA : Hid (∀ W b1, RowC W (some ⟨b1, 0, none⟩) mA.ed → Calls Tryz.prog 12 #[.agg #[.int .i64 0, .int .i64 2, .int .i64 7, .int .i64 3, .int .i64 0, .int .i64 0, .bool false, .slice (some ⟨b1, 0, none⟩) 3 3, .slice none 0 0, .string ⟨#[]⟩, .int .i64 0, .int .i64 0, .slice none 0 0]] W (RetBelow (.returned (.bool true)) W)) := Lib.hid (fun W b1 h => by
    have := MP mA ⟨some ⟨b1, 0, none⟩, 3, none, 0, none, 0⟩ W mA_z ⟨h, fun i c h => by simp [mA] at h, fun i c h => by simp [mA] at h⟩
    rw [decide_eq_true mA_may] at this
    exact this)
  have SMA : Hid (∀ W b1 q4, MsR W mA q4 → RowC W (some ⟨b1, 0, none⟩) mA.ed → Calls Tryz.prog 11 #[.agg #[.int .i64 0, .int .i64 2, .int .i64 7, .int .i64 3, .int .i64 0, .int .i64 0, .bool false, .slice q4.ep 3 q4.ec, .slice q4.sp 0 q4.sc, .string ⟨#[]⟩, .int .i64 0, .int .i64 0, .slice q4.np 0 q4.nc], .agg #[.int .i64 0, .int .i64 2, .int .i64 7, .int .i64 3, .int .i64 0, .int .i64 0, .bool false, .slice (some ⟨b1, 0, none⟩) 3 3, .slice none 0 0, .string ⟨#[]⟩, .int .i64 0, .int .i64 0, .slice none 0 0]] W (RetBelow (.returned (.bool true)) W)) := Lib.hid (fun W b1 q4 h h2 => sameMsg_true mA q4 ⟨some ⟨b1, 0, none⟩, 3, none, 0, none, 0⟩ W mA_z h ⟨h2, fun i c h => by simp [mA] at h, fun i c h => by simp [mA] at h⟩)
  clear PP GP MP
  unfold GetI at GA
  unfold GetN at GN
  have GA2 : Hid (∀ W, Calls Tryz.prog 8 #[.string ⟨#[80, 50, 44, 55, 44, 51, 44, 51, 44, 107, 52, 44, 112, 50, 58, 97, 44, 99, 49, 44]⟩] W (fun e w' => ∃ q4 : Mq, e = .returned (.tuple #[.agg #[.int .i64 0, .int .i64 2, .int .i64 7, .int .i64 3, .int .i64 0, .int .i64 0, .bool false, .slice q4.ep 3 q4.ec, .slice q4.sp 0 q4.sc, .string ⟨#[]⟩, .int .i64 0, .int .i64 0, .slice q4.np 0 q4.nc], .int .i64 0]) ∧ MsR w' mA q4 ∧ Below W.heap.size W w')) := GA
  clear GA
  go_enter Tryz.func15, Tryz.ntmps15
  go_upto_region 2 with fail
  have XR : Hid (((w.alloc (.cells #[.int .i64 0, .int .i64 4, .string ⟨#[]⟩, .int .i64 1, .int .i64 0, .string ⟨#[97, 44]⟩, .int .i64 2, .int .i64 1, .string ⟨#[]⟩] 48)).alloc (.cells #[.int .i64 0, .int .i64 2, .int .i64 7, .int .i64 3, .int .i64 0, .int .i64 0, .bool false, .slice (some ⟨w.heap.size, 0, none⟩) 3 3, .slice none 0 0, .string ⟨#[]⟩, .int .i64 0, .int .i64 0, .slice none 0 0] 28)).heap[w.heap.size]? = some (.cells #[.int .i64 0, .int .i64 4, .string ⟨#[]⟩, .int .i64 1, .int .i64 0, .string ⟨#[97, 44]⟩, .int .i64 2, .int .i64 1, .string ⟨#[]⟩] 48 (0, 0))) := Lib.hid (heap_old (heap_alloc_new w _) _)
  have XB : Hid (((w.alloc (.cells #[.int .i64 0, .int .i64 4, .string ⟨#[]⟩, .int .i64 1, .int .i64 0, .string ⟨#[97, 44]⟩, .int .i64 2, .int .i64 1, .string ⟨#[]⟩] 48)).alloc (.cells #[.int .i64 0, .int .i64 2, .int .i64 7, .int .i64 3, .int .i64 0, .int .i64 0, .bool false, .slice (some ⟨w.heap.size, 0, none⟩) 3 3, .slice none 0 0, .string ⟨#[]⟩, .int .i64 0, .int .i64 0, .slice none 0 0] 28)).heap[w.heap.size + 1]? = some (.cells #[.int .i64 0, .int .i64 2, .int .i64 7, .int .i64 3, .int .i64 0, .int .i64 0, .bool false, .slice (some ⟨w.heap.size, 0, none⟩) 3 3, .slice none 0 0, .string ⟨#[]⟩, .int .i64 0, .int .i64 0, .slice none 0 0] 28 (0, 0))) := Lib.hid (heap_new (by simp) _ _)
  have B1 : Hid (Bl w ((w.alloc (.cells #[.int .i64 0, .int .i64 4, .string ⟨#[]⟩, .int .i64 1, .int .i64 0, .string ⟨#[97, 44]⟩, .int .i64 2, .int .i64 1, .string ⟨#[]⟩] 48)).alloc (.cells #[.int .i64 0, .int .i64 2, .int .i64 7, .int .i64 3, .int .i64 0, .int .i64 0, .bool false, .slice (some ⟨w.heap.size, 0, none⟩) 3 3, .slice none 0 0, .string ⟨#[]⟩, .int .i64 0, .int .i64 0, .slice none 0 0] 28))) := Lib.hid (Bl.alloc (Bl.alloc (Bl.refl w) _) _)
  generalize (w.alloc (.cells #[.int .i64 0, .int .i64 4, .string ⟨#[]⟩, .int .i64 1, .int .i64 0, .string ⟨#[97, 44]⟩, .int .i64 2, .int .i64 1, .string ⟨#[]⟩] 48)).alloc (.cells #[.int .i64 0, .int .i64 2, .int .i64 7, .int .i64 3, .int .i64 0, .int .i64 0, .bool false, .slice (some ⟨w.heap.size, 0, none⟩) 3 3, .slice none 0 0, .string ⟨#[]⟩, .int .i64 0, .int .i64 0, .slice none 0 0] 28) = w1 at XR XB B1 ⊢
  obtain ⟨bx, hbx⟩ : ∃ b, w.heap.size + 1 = b := ⟨_, rfl⟩
  rw [hbx] at XB ⊢
  clear hbx
  obtain ⟨b1, hb1⟩ : ∃ b, w.heap.size = b := ⟨_, rfl⟩
  rw [hb1] at XB XR ⊢
  clear hb1
  have RA : Hid (RowC w1 (some ⟨b1, 0, none⟩) mA.ed) := Lib.hid (lit_rowC XR.out rfl (by decide))
  have a0 := (obj_cells XB.out).1 0 _ rfl
  have a1 := (obj_cells XB.out).1 1 _ rfl
  have a2 := (obj_cells XB.out).1 2 _ rfl
  have a3 := (obj_cells XB.out).1 3 _ rfl
  have a4 := (obj_cells XB.out).1 4 _ rfl
  have a5 := (obj_cells XB.out).1 5 _ rfl
  have a6 := (obj_cells XB.out).1 6 _ rfl
  have a7 := (obj_cells XB.out).1 7 _ rfl
  have a8 := (obj_cells XB.out).1 8 _ rfl
  have a9 := (obj_cells XB.out).1 9 _ rfl
  have a10 := (obj_cells XB.out).1 10 _ rfl
  have a11 := (obj_cells XB.out).1 11 _ rfl
  have a12 := (obj_cells XB.out).1 12 _ rfl
  go_upto_region 3 with (go_at_call 6; refine (PA.out _ b1 B1.out RA.out).mono ?_; rintro e w2 ⟨rfl, hb⟩; have B12 : Hid (Bl w1 w2) := Lib.hid hb; clear hb)
  clear a0 a1 a2 a3 a4 a5 a6 a7 a8 a9 a10 a11 a12
  go_upto_region 4 with (go_at_call 8; refine (GA2.out _).mono ?_; rintro e w3 ⟨q4, rfl, h1, hb⟩; have R3 := Lib.hid h1; have B13 : Hid (Bl w1 w3) := Lib.hid (Bl.call B12.out hb); clear h1 hb)
  have X4 : Hid ((w3.alloc (.cells #[.int .i64 0, .int .i64 2, .int .i64 7, .int .i64 3, .int .i64 0, .int .i64 0, .bool false, .slice q4.ep 3 q4.ec, .slice q4.sp 0 q4.sc, .string ⟨#[]⟩, .int .i64 0, .int .i64 0, .slice q4.np 0 q4.nc] 28)).heap[w3.heap.size]? = some (.cells #[.int .i64 0, .int .i64 2, .int .i64 7, .int .i64 3, .int .i64 0, .int .i64 0, .bool false, .slice q4.ep 3 q4.ec, .slice q4.sp 0 q4.sc, .string ⟨#[]⟩, .int .i64 0, .int .i64 0, .slice q4.np 0 q4.nc] 28 (0, 0))) := Lib.hid (heap_alloc_new w3 _)
  have B34 : Hid (Bl w3 (w3.alloc (.cells #[.int .i64 0, .int .i64 2, .int .i64 7, .int .i64 3, .int .i64 0, .int .i64 0, .bool false, .slice q4.ep 3 q4.ec, .slice q4.sp 0 q4.sc, .string ⟨#[]⟩, .int .i64 0, .int .i64 0, .slice q4.np 0 q4.nc] 28))) := Lib.hid (Bl.alloc (Bl.refl w3) _)
  generalize w3.alloc (.cells #[.int .i64 0, .int .i64 2, .int .i64 7, .int .i64 3, .int .i64 0, .int .i64 0, .bool false, .slice q4.ep 3 q4.ec, .slice q4.sp 0 q4.sc, .string ⟨#[]⟩, .int .i64 0, .int .i64 0, .slice q4.np 0 q4.nc] 28) = w4 at X4 B34 ⊢
  obtain ⟨b2, hb2⟩ : ∃ b, w3.heap.size = b := ⟨_, rfl⟩
  rw [hb2] at X4 ⊢
  clear hb2
  go_upto_region 5 with (go_at_call 6; refine (PB.out _ (Bl.call B1.out (Bl.call B13.out B34.out))).mono ?_; rintro e w5 ⟨rfl, hb⟩; have B45 : Hid (Bl w4 w5) := Lib.hid hb; clear hb)
  go_upto_region 6 with (go_at_call 8; refine (GN.out _).mono ?_; rintro e w6 ⟨q5, rfl, h1, hb⟩; have B46 : Hid (Bl w4 w6) := Lib.hid (Bl.call B45.out hb); clear h1 hb)
  have B47 : Hid (Bl w4 (w6.alloc (.cells #[.int .i64 0, .int .i64 0, .int .i64 0, .int .i64 0, .int .i64 0, .int .i64 0, .bool false, .slice q5.ep 0 q5.ec, .slice q5.sp 0 q5.sc, .string ⟨#[]⟩, .int .i64 0, .int .i64 0, .slice q5.np 0 q5.nc] 28))) := Lib.hid (Bl.alloc B46.out _)
  generalize w6.alloc (.cells #[.int .i64 0, .int .i64 0, .int .i64 0, .int .i64 0, .int .i64 0, .int .i64 0, .bool false, .slice q5.ep 0 q5.ec, .slice q5.sp 0 q5.sc, .string ⟨#[]⟩, .int .i64 0, .int .i64 0, .slice q5.np 0 q5.nc] 28) = w7 at B47 ⊢
  have EN : Hid (EntsR ((((w7.alloc (.cells #[.int .i64 0, .int .i64 2, .string ⟨#[]⟩] 48)).alloc (.cells #[.int .i64 5] 3)).alloc (.cells #[.int .i64 2, .int .i64 4, .int .i64 0, .int .i64 0, .int .i64 0, .slice (some ⟨w7.heap.size + 1, 0, none⟩) 1 1] 51)).alloc (.cells #[.int .i64 1, .int .i64 1, .slice (some ⟨w7.heap.size, 0, none⟩) 1 1, .slice (some ⟨w7.heap.size + 2, 0, none⟩) 1 1] 54)) (some ⟨w7.heap.size + 3, 0, none⟩) mC.es) := Lib.hid (entsR_one (e := ⟨1, 1, [⟨0, 2, ⟨#[]⟩⟩], [⟨2, 4, 0, 0, 0, [5]⟩]⟩) (ep := some ⟨w7.heap.size, 0, none⟩) (ec := 1) (dp := some ⟨w7.heap.size + 2, 0, none⟩) (dc := 1) (heap_new (by simp) _ _)
    (lit_rowC (heap_old (heap_old (heap_old (heap_alloc_new w7 _) _) _) _) rfl (by decide))
    (stepsR_one (s := ⟨2, 4, 0, 0, 0, [5]⟩) (kp := some ⟨w7.heap.size + 1, 0, none⟩) (kc := 1) (heap_old (heap_new (by simp) _ _) _) (Ly.Own.row (own_lit (L := lyI) (n := 1) (xs := [5]) (heap_old (heap_old (heap_new (by simp) _ _) _) _) rfl rfl (by decide)))))
  have B78 : Hid (Bl w7 ((((w7.alloc (.cells #[.int .i64 0, .int .i64 2, .string ⟨#[]⟩] 48)).alloc (.cells #[.int .i64 5] 3)).alloc (.cells #[.int .i64 2, .int .i64 4, .int .i64 0, .int .i64 0, .int .i64 0, .slice (some ⟨w7.heap.size + 1, 0, none⟩) 1 1] 51)).alloc (.cells #[.int .i64 1, .int .i64 1, .slice (some ⟨w7.heap.size, 0, none⟩) 1 1, .slice (some ⟨w7.heap.size + 2, 0, none⟩) 1 1] 54))) := Lib.hid (Bl.alloc (Bl.alloc (Bl.alloc (Bl.alloc (Bl.refl w7) _) _) _) _)
  go_upto_region 7 with (go_at_call 6; refine (PC.out _ _ (Bl.call B1.out (Bl.call B13.out (Bl.call B34.out (Bl.call B47.out B78.out)))) EN.out).mono ?_; rintro e w9 ⟨rfl, hb⟩; have B79 : Hid (Bl w7 w9) := Lib.hid (Bl.call B78.out hb); clear hb)
  have B49 : Hid (Bl w4 w9) := Lib.hid (Bl.call B47.out B79.out)
  have B39 : Hid (Bl w3 w9) := Lib.hid (Bl.call B34.out B49.out)
  have B19 : Hid (Bl w1 w9) := Lib.hid (Bl.call B13.out B39.out)
  have B09 : Hid (Bl w w9) := Lib.hid (Bl.call B1.out B19.out)
  have R9 : Hid (∀ W, Bl w9 W → RowC W (some ⟨b1, 0, none⟩) mA.ed) := Lib.hid (fun W hW => rowC_below RA.out (Bl.call B19.out hW))
  have S9 : Hid (∀ W, Bl w9 W → MsR W mA q4) := Lib.hid (fun W hW => R3.out.below (Bl.call B39.out hW))
  have X9 := Lib.hid (heap_later XB.out B19.out)
  have Y9 := Lib.hid (heap_later X4.out B49.out)
  have a0 := (obj_cells X9.out).1 0 _ rfl
  have a1 := (obj_cells X9.out).1 1 _ rfl
  have a2 := (obj_cells X9.out).1 2 _ rfl
  have a3 := (obj_cells X9.out).1 3 _ rfl
  have a4 := (obj_cells X9.out).1 4 _ rfl
  have a5 := (obj_cells X9.out).1 5 _ rfl
  have a6 := (obj_cells X9.out).1 6 _ rfl
  have a7 := (obj_cells X9.out).1 7 _ rfl
  have a8 := (obj_cells X9.out).1 8 _ rfl
  have a9 := (obj_cells X9.out).1 9 _ rfl
  have a10 := (obj_cells X9.out).1 10 _ rfl
  have a11 := (obj_cells X9.out).1 11 _ rfl
  have a12 := (obj_cells X9.out).1 12 _ rfl
  have y0 := (obj_cells Y9.out).1 0 _ rfl
  have y1 := (obj_cells Y9.out).1 1 _ rfl
  have y2 := (obj_cells Y9.out).1 2 _ rfl
  have y3 := (obj_cells Y9.out).1 3 _ rfl
  have y4 := (obj_cells Y9.out).1 4 _ rfl
  have y5 := (obj_cells Y9.out).1 5 _ rfl
  have y6 := (obj_cells Y9.out).1 6 _ rfl
  have y7 := (obj_cells Y9.out).1 7 _ rfl
  have y8 := (obj_cells Y9.out).1 8 _ rfl
  have y9 := (obj_cells Y9.out).1 9 _ rfl
  have y10 := (obj_cells Y9.out).1 10 _ rfl
  have y11 := (obj_cells Y9.out).1 11 _ rfl
  have y12 := (obj_cells Y9.out).1 12 _ rfl
  clear EN B78
  go_wp2_with (first
      | (go_at_call 10; refine (num_any _ _).mono ?_; rintro e w10 ⟨rfl, rfl⟩)
      | (go_at_call 11; refine (SMA.out _ b1 q4 (S9.out _ (Bl.refl _)) (R9.out _ (Bl.refl _))).mono ?_; rintro e w11 ⟨rfl, hb⟩; have S11 : Bl w9 w11 := hb; have X11 := Lib.hid (heap_later X9.out hb); have p0 := (obj_cells X11.out).1 0 _ rfl; have p1 := (obj_cells X11.out).1 1 _ rfl; have p2 := (obj_cells X11.out).1 2 _ rfl; have p3 := (obj_cells X11.out).1 3 _ rfl; have p4 := (obj_cells X11.out).1 4 _ rfl; have p5 := (obj_cells X11.out).1 5 _ rfl; have p6 := (obj_cells X11.out).1 6 _ rfl; have p7 := (obj_cells X11.out).1 7 _ rfl; have p8 := (obj_cells X11.out).1 8 _ rfl; have p9 := (obj_cells X11.out).1 9 _ rfl; have p10 := (obj_cells X11.out).1 10 _ rfl; have p11 := (obj_cells X11.out).1 11 _ rfl; have p12 := (obj_cells X11.out).1 12 _ rfl; clear hb)
      | (go_at_call 12; refine (MYA.out _ b1 (R9.out _ S11)).mono ?_; rintro e w12 ⟨rfl, hb⟩; have S12 : Bl w9 w12 := Bl.call S11 hb; clear hb))
  go_ret
  exact ⟨rfl, Bl.call B09.out S12⟩

end Go.Proofs.YtjmfjlffcopnnaaGreatDoor
