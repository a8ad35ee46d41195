/-
  Shl, Pa, in one text. Conditions: as each theorem's premises say.
-/
import Derived.Shelf.Strconv.AppendIntPublic10
import Derived.Shelf.Small.Strs
import Derived.Shelf.Strconv.Clone
import Derived.Test.YtjmfjlffcopnnaaGreatDoorProg
import Derived.Test.YtjmfjlffcopnnaaGreatDoorPF19
import Derived.Test.YtjmfjlffcopnnaaGreatDoorPF36
import Derived.Lib.ItoaLen
import Derived.Lib.AppendStr
import Derived.Deep.CutBlock
import Derived.Deep.DeepCutAuto
namespace Go.Proofs
open Go.Shelf
def Tryz.laysAppendInt_ren : Go.Shelf.Ren := ⟨fun | 176 => 141 | 249 => 151 | 288 => 153 | 283 => 154 | 284 => 155 | 285 => 156 | 286 => 157 | 129 => 159 | 317 => 158 | 318 => 160 | 319 => 161 | 320 => 162 | 337 => 163 | 338 => 164 | n => n, fun | 37 => 61 | 2 => 2 | 3 => 3 | 53 => 151 | 4 => 4 | 9 => 9 | 171 => 174 | 0 => 0 | 173 => 177 | 212 => 180 | 51 => 181 | 5 => 5 | 20 => 20 | 213 => 182 | 46 => 55 | 232 => 185 | 233 => 186 | n => n, fun | 17 => 1 | 18 => 2 | 19 => 3 | n => n⟩
theorem Tryz.laysAppendInt : Go.Proofs.LaysM.n176 Tryz.prog Tryz.laysAppendInt_ren := {
  mixed := by kernel_rfl
  f129 := Tryz.func159.trans (congrArg some (by kernel_rfl))
  f176 := Tryz.func141.trans (congrArg some (by kernel_rfl))
  f249 := Tryz.func151.trans (congrArg some (by kernel_rfl))
  f283 := Tryz.func154.trans (congrArg some (by kernel_rfl))
  f284 := Tryz.func155.trans (congrArg some (by kernel_rfl))
  f285 := Tryz.func156.trans (congrArg some (by kernel_rfl))
  f286 := Tryz.func157.trans (congrArg some (by kernel_rfl))
  f288 := Tryz.func153.trans (congrArg some (by kernel_rfl))
  f317 := Tryz.func158.trans (congrArg some (by kernel_rfl))
  f318 := Tryz.func160.trans (congrArg some (by kernel_rfl))
  f319 := Tryz.func161.trans (congrArg some (by kernel_rfl))
  f320 := Tryz.func162.trans (congrArg some (by kernel_rfl))
  f337 := Tryz.func163.trans (congrArg some (by kernel_rfl))
  f338 := Tryz.func164.trans (congrArg some (by kernel_rfl))
  t0 := Tryz.underlying0
  a0 := Tryz.isAgg0
  z0 := Tryz.sizeOf0
  v0 := Tryz.zeroValue0
  t2 := Tryz.underlying2
  a2 := Tryz.isAgg2
  z2 := Tryz.sizeOf2
  v2 := Tryz.zeroValue2
  t3 := Tryz.underlying3
  a3 := Tryz.isAgg3
  z3 := Tryz.sizeOf3
  v3 := Tryz.zeroValue3
  t4 := Tryz.underlying4
  a4 := Tryz.isAgg4
  z4 := Tryz.sizeOf4
  v4 := Tryz.zeroValue4
  t5 := Tryz.underlying5
  a5 := Tryz.isAgg5
  z5 := Tryz.sizeOf5
  v5 := Tryz.zeroValue5
  t9 := Tryz.underlying9
  a9 := Tryz.isAgg9
  z9 := Tryz.sizeOf9
  v9 := Tryz.zeroValue9
  t20 := Tryz.underlying20
  a20 := Tryz.isAgg20
  z20 := Tryz.sizeOf20
  v20 := Tryz.zeroValue20
  t37 := Tryz.underlying61
  a37 := Tryz.isAgg61
  z37 := Tryz.sizeOf61
  v37 := Tryz.zeroValue61
  t46 := Tryz.underlying55
  a46 := Tryz.isAgg55
  z46 := Tryz.sizeOf55
  v46 := Tryz.zeroValue55
  t51 := Tryz.underlying181
  a51 := Tryz.isAgg181
  z51 := Tryz.sizeOf181
  v51 := Tryz.zeroValue181
  t53 := Tryz.underlying151
  a53 := Tryz.isAgg151
  z53 := Tryz.sizeOf151
  v53 := Tryz.zeroValue151
  t171 := Tryz.underlying174
  a171 := Tryz.isAgg174
  z171 := Tryz.sizeOf174
  v171 := Tryz.zeroValue174
  t173 := Tryz.underlying177
  a173 := Tryz.isAgg177
  z173 := Tryz.sizeOf177
  v173 := Tryz.zeroValue177
  t212 := Tryz.underlying180
  a212 := Tryz.isAgg180
  z212 := Tryz.sizeOf180
  v212 := Tryz.zeroValue180
  t213 := Tryz.underlying182
  a213 := Tryz.isAgg182
  z213 := Tryz.sizeOf182
  t232 := Tryz.underlying185
  a232 := Tryz.isAgg185
  z232 := Tryz.sizeOf185
  v232 := Tryz.zeroValue185
  t233 := Tryz.underlying186
  a233 := Tryz.isAgg186
  z233 := Tryz.sizeOf186
  v233 := Tryz.zeroValue186
  g17 := by kernel_rfl
  g18 := by kernel_rfl
  g19 := by kernel_rfl
  i0 := by kernel_rfl
  i2 := by kernel_rfl
  i3 := by kernel_rfl
  i4 := by kernel_rfl
  i5 := by kernel_rfl
  i9 := by kernel_rfl
  i20 := by kernel_rfl
  i37 := by kernel_rfl
  i46 := by kernel_rfl
  i51 := by kernel_rfl
  i53 := by kernel_rfl
  i171 := by kernel_rfl
  i173 := by kernel_rfl
  i212 := by kernel_rfl
  i232 := by kernel_rfl
  i233 := by kernel_rfl
  m17 := by kernel_rfl
  m18 := by kernel_rfl
  m19 := by kernel_rfl }
def Tryz.laysIndexByte_ren : Go.Shelf.Ren := ⟨fun | 137 => 111 | 217 => 143 | 266 => 152 | n => n, fun | 9 => 9 | 5 => 5 | 3 => 3 | n => n, fun | n => n⟩
theorem Tryz.laysIndexByte : Go.Proofs.Lays.n137 Tryz.prog Tryz.laysIndexByte_ren := {
  mixed := by kernel_rfl
  f137 := Tryz.func111.trans (congrArg some (by kernel_rfl))
  f217 := Tryz.func143.trans (congrArg some (by kernel_rfl))
  f266 := Tryz.func152.trans (congrArg some (by kernel_rfl))
  t3 := Tryz.underlying3
  a3 := Tryz.isAgg3
  z3 := Tryz.sizeOf3
  v3 := Tryz.zeroValue3
  t5 := Tryz.underlying5
  a5 := Tryz.isAgg5
  z5 := Tryz.sizeOf5
  v5 := Tryz.zeroValue5
  t9 := Tryz.underlying9
  a9 := Tryz.isAgg9
  z9 := Tryz.sizeOf9
  v9 := Tryz.zeroValue9 }
def Tryz.laysClone_ren : Go.Shelf.Ren := ⟨fun | 316 => 145 | n => n, fun | 9 => 9 | 3 => 3 | 4 => 4 | 37 => 61 | 0 => 0 | 127 => 172 | 5 => 5 | n => n, fun | n => n⟩
theorem Tryz.laysClone : Go.Proofs.LaysM.n316 Tryz.prog Tryz.laysClone_ren := {
  mixed := by kernel_rfl
  f316 := Tryz.func145.trans (congrArg some (by kernel_rfl))
  t0 := Tryz.underlying0
  a0 := Tryz.isAgg0
  z0 := Tryz.sizeOf0
  v0 := Tryz.zeroValue0
  t3 := Tryz.underlying3
  a3 := Tryz.isAgg3
  z3 := Tryz.sizeOf3
  v3 := Tryz.zeroValue3
  t4 := Tryz.underlying4
  a4 := Tryz.isAgg4
  z4 := Tryz.sizeOf4
  v4 := Tryz.zeroValue4
  t9 := Tryz.underlying9
  a9 := Tryz.isAgg9
  z9 := Tryz.sizeOf9
  v9 := Tryz.zeroValue9
  t37 := Tryz.underlying61
  a37 := Tryz.isAgg61
  z37 := Tryz.sizeOf61
  v37 := Tryz.zeroValue61
  t127 := Tryz.underlying172
  a127 := Tryz.isAgg172
  z127 := Tryz.sizeOf172
  v127 := Tryz.zeroValue172
  t5 := Tryz.underlying5
  a5 := Tryz.isAgg5
  z5 := Tryz.sizeOf5
  v5 := Tryz.zeroValue5
  i0 := by kernel_rfl
  i3 := by kernel_rfl
  i4 := by kernel_rfl
  i5 := by kernel_rfl
  i9 := by kernel_rfl
  i37 := by kernel_rfl
  i127 := by kernel_rfl }
end Go.Proofs

namespace Go.Proofs.YtjmfjlffcopnnaaGreatDoor
open Go.RowKit

abbrev TabB (B : Nat) (w : World) : Prop := Lib.TabBelow Tryz.prog B w "internal/strconv.uint64pow10" .u64 Lib.pow10Tab
/-- The putter's bytes, in its box. -/
structure PW (w : World) (B pb : Nat) (l : List UInt8) : Prop where
  box : ∃ v, w.heap[pb]? = some (.cells #[v] 63 (0, 0)) ∧ w.ownsRow B 5 1 v l.length (Lib.byteCells l)
  new : B ≤ pb
  tab : TabB B w
/-- As far as it counts: the bytes are these, or both are too many. -/
def Sim (l e : List UInt8) : Prop := l.length ≤ e.length ∧ (l = e ∨ (1000000 < l.length ∧ 1000000 < e.length))
theorem Sim.app {l e : List UInt8} (h : Sim l e) (x : List UInt8) : Sim (l ++ x) (e ++ x) := by
  obtain ⟨h1, h2⟩ := h
  refine ⟨by rw [List.length_append, List.length_append]; omega, ?_⟩
  rcases h2 with rfl | ⟨h2, h3⟩
  · exact .inl rfl
  · exact .inr ⟨by rw [List.length_append]; omega, by rw [List.length_append]; omega⟩
theorem Sim.stop {l e : List UInt8} (h : Sim l e) (ho : 1000000 < l.length) (x : List UInt8) : Sim l (e ++ x) := by
  obtain ⟨h1, _⟩ := h
  exact ⟨by rw [List.length_append]; omega, .inr ⟨ho, by rw [List.length_append]; omega⟩⟩
def PX (w : World) (B pb : Nat) (e : List UInt8) : Prop := ∃ l, Sim l e ∧ PW w B pb l
/-- What stays where the putter puts. -/
def Keep (B pb : Nat) (w w' : World) : Prop := Below B w w' ∧ ∀ k c e, k ≠ pb → e ≠ 5 → w.heap[k]? = some (.cells c e (0, 0)) → w'.heap[k]? = some (.cells c e (0, 0))
theorem Keep.refl (B pb : Nat) (w : World) : Keep B pb w w := ⟨Below.refl _ _, fun _ _ _ _ _ h => h⟩
theorem Keep.trans {B pb : Nat} {w w1 w2 : World} (h : Keep B pb w w1) (h1 : Keep B pb w1 w2) : Keep B pb w w2 := ⟨h.1.trans h1.1, fun k c e hk he hc => h1.2 k c e hk he (h.2 k c e hk he hc)⟩
theorem Keep.alloc {B pb : Nat} {w w1 : World} (h : Keep B pb w w1) (hB : B ≤ w.heap.size) (o : Obj) : Keep B pb w (w1.alloc o) := ⟨h.1.alloc (Nat.le_trans hB h.1.size) o, fun k c e hk he hc => heap_old (h.2 k c e hk he hc) o⟩
theorem Keep.old {B pb k : Nat} {w w1 : World} {c : Array Value} {e : TypeId} (h : Keep B pb w w1) (hc : w.heap[k]? = some (.cells c e (0, 0))) (hk : k ≠ pb) (he : e ≠ 5) : w1.heap[k]? = some (.cells c e (0, 0)) := h.2 k c e hk he hc
theorem PW.size {w : World} {B pb : Nat} {l : List UInt8} (h : PW w B pb l) : B ≤ w.heap.size := by
  obtain ⟨v, h1, _⟩ := h.box
  have := (Array.getElem?_eq_some_iff.1 h1).1
  have := h.new
  omega
theorem PW.lt {w : World} {B pb : Nat} {l : List UInt8} (h : PW w B pb l) : pb < w.heap.size := by
  obtain ⟨v, h1, _⟩ := h.box
  exact (Array.getElem?_eq_some_iff.1 h1).1
theorem PW.alloc {w : World} {B pb : Nat} {l : List UInt8} (h : PW w B pb l) (o : Obj) : PW (w.alloc o) B pb l := by
  obtain ⟨v, h1, h2⟩ := h.box
  exact ⟨⟨v, heap_old h1 o, h2.alloc o⟩, h.new, h.tab.on ((Below.refl B w).alloc h.size o)⟩
theorem PX.alloc {w : World} {B pb : Nat} {e : List UInt8} (h : PX w B pb e) (o : Obj) : PX (w.alloc o) B pb e := by
  obtain ⟨l, h1, h2⟩ := h
  exact ⟨l, h1, h2.alloc o⟩
theorem PX.size {w : World} {B pb : Nat} {e : List UInt8} (h : PX w B pb e) : B ≤ w.heap.size := by
  obtain ⟨l, _, h⟩ := h
  exact h.size
theorem PX.lt {w : World} {B pb : Nat} {e : List UInt8} (h : PX w B pb e) : pb < w.heap.size := by
  obtain ⟨l, _, h⟩ := h
  exact h.lt
/-- What each of the putter's methods answers. -/
def PutS (B pb : Nat) (e : List UInt8) (w : World) (en : Ending) (w' : World) : Prop := en = .returned (.tuple #[]) ∧ PX w' B pb e ∧ Keep B pb w w'
theorem dec_itoa : ∀ (m n : Nat), n ≤ m → Lib.decDigits n = decL n
  | 0, n, h => by
    have h0 : n = 0 := by omega
    subst h0
    rw [Lib.decDigits]
    decide
  | m + 1, n, h => by
    rw [Lib.decDigits, decL_step]
    split
    · rename_i h1
      have h2 : n / 10 = 0 := by omega
      rw [if_pos h2, show n % 10 = n by omega]
      rfl
    · rename_i h1
      rw [if_neg (by omega), dec_itoa m (n / 10) (by omega)]
theorem itoa_nat (n : Nat) : Lib.itoa (n : Int) = decL n := by
  unfold Lib.itoa
  rw [if_neg (by omega), Int.toNat_natCast]
  exact dec_itoa n n (Nat.le_refl _)
theorem bytes_app2 (a b : List UInt8) : Lib.byteCells (a ++ b) = Lib.byteCells a ++ Lib.byteCells b := List.map_append

theorem ownsB_obj {w : World} {B : Nat} {v : Value} {n : Nat} {xs : List Value} (h : w.ownsRow B 5 1 v n xs) {g : Nat} (hg : v.ownBlock = some g) : ∃ c, w.heap[g]? = some (.cells c 5 (0, 0)) := by
  rcases h.2 with ⟨e, _⟩ | ⟨g', cap, cur, hv, h1, h2, h3⟩
  · rw [e] at hg; cases hg
  · subst hv
    cases hg
    exact ⟨cur, h2⟩
theorem ownsB_set {w : World} {B pb : Nat} {v u : Value} {n : Nat} {xs : List Value} {c : Array Value} (h : w.ownsRow B 5 1 v n xs) (hb : w.heap[pb]? = some (.cells c 63 (0, 0))) : (w.setCell ⟨pb, 0, none⟩ u).ownsRow B 5 1 v n xs := by
  refine ⟨h.1, ?_⟩
  rcases h.2 with h2 | ⟨g', cap, cur, hv, h1, h2, h3⟩
  · exact .inl h2
  · refine .inr ⟨g', cap, cur, hv, h1, ?_, h3⟩
    rw [Below.heap_setCell _ _ _ _ (fun e => ?_)]
    · exact h2
    · subst e
      exact type_ne h2 hb (by decide) rfl
/-- What a method does: bytes are put behind the putter's own, and the box is written. -/
theorem putter_step {w w1 w2 : World} {B pb : Nat} {v v' : Value} {l l' : List UInt8} {n : Nat} {xs : List Value} (h : PW w B pb l) (h1 : Below B w w1) (k1 : Lib.OthersKept 5 none w w1) (o1 : w1.ownsRow B 5 1 v n xs) (g : w1.grownBy w2 v.ownBlock) (o2 : w2.ownsRow B 5 1 v' l'.length (Lib.byteCells l')) :
    (∃ v0, w2.heap[pb]? = some (.cells #[v0] 63 (0, 0))) ∧ PW (w2.setCell ⟨pb, 0, none⟩ v') B pb l' ∧ Keep B pb w (w2.setCell ⟨pb, 0, none⟩ v') := by
  have k2 : Lib.OthersKept 5 none w w2 := k1.grown g (fun k hk => by
    obtain ⟨c, hc⟩ := ownsB_obj o1 hk
    exact ⟨c, (0, 0), hc⟩)
  obtain ⟨v0, b0, _⟩ := h.box
  have b2 : w2.heap[pb]? = some (.cells #[v0] 63 (0, 0)) := k2 pb _ b0 (by simp) (fun c fz e => by cases e)
  have hs : B ≤ w1.heap.size := Nat.le_trans h.size h1.size
  have bl2 : Below B w w2 := h1.trans (below_grownN g (fun k hk => (o1.lt k hk).1) hs)
  have bl3 : Below B w (w2.setCell ⟨pb, 0, none⟩ v') := bl2.trans (below_grownN (set_grown w2 pb 0 v') (fun k hk => by cases hk; exact h.new) (Nat.le_trans h.size bl2.size))
  refine ⟨⟨v0, b2⟩, ⟨⟨v', by rw [heap_setCell_at b2]; rfl, ownsB_set o2 b2⟩, h.new, h.tab.on bl3⟩, bl3, fun k c e hk he hc => ?_⟩
  have := k2 k _ hc (by simp) (fun c' fz e' => by cases e'; exact he rfl)
  rw [Below.heap_setCell _ _ _ _ hk]
  exact this

set_option maxRecDepth 100000 in
set_option maxHeartbeats 4000000 in
theorem pdig_any (n : Nat) (hn : n ≤ 9223372036854775807) (c : UInt8) (B pb : Nat) (e : List UInt8) (w : World) (h : PX w B pb e) (hz : (e ++ (decL n ++ [c])).length ≤ 70368744177664) : Calls Tryz.prog 106 #[.pointer (some ⟨pb, 0, none⟩), .int .i64 n, .int .u8 c.toNat] w (PutS B pb (e ++ (decL n ++ [c])) w) := by
  obtain ⟨i0, hi, hz0, hz1, hz2⟩ := info_parts info5
  obtain ⟨l, hs, hp⟩ := h
  have HS := Lib.hid hs
  have HP := Lib.hid hp
  obtain ⟨v, h1, h2⟩ := hp.box
  have hle : l.length ≤ 70368744177664 := by have := hs.1; rw [List.length_append] at hz; omega
  have hlen : (decL n).length ≤ 70368744177664 := by simp only [List.length_append] at hz; omega
  have hl2 : l.length + (decL n).length + 1 ≤ 70368744177664 := by have := hs.1; simp only [List.length_append, List.length_singleton] at hz; omega
  have BX := Lib.hid h1
  have AP := Lib.hid (Any.strconv_AppendInt_10 Tryz.laysAppendInt B l.length (n : Int) (by omega) (by omega) v (Lib.byteCells l) w h2 hp.size (by omega) hp.tab)
  rw [itoa_nat] at AP
  have HB := Lib.hid hp.size
  have c0 := (obj_cells h1).1 0 _ rfl
  clear h1 h2 hs hp hz hle
  generalize hN : l.length = N at AP hl2
  have HN := Lib.hid hN
  clear hN
  generalize hD : decL n = D at AP hl2 hlen ⊢
  clear hD hn
  generalize hK : D.length = K at AP hl2 hlen
  have HK := Lib.hid hK
  clear hK
  go_enter Tryz.func106, Tryz.ntmps106
  go_wp2_with (first | (go_at_call 141; refine AP.out.mono ?_; rintro e w1 ⟨v1, rfl, h1, h2, h3⟩; have O1 := Lib.hid h1; have B1 := Lib.hid h2; have K1 := Lib.hid h3; clear h1 h2 h3) | (at_builtin; refine wpList_append_all _ rfl _ _ 61 rfl B 5 i0 _ 1 1 Tryz.underlying61 hi hz0 hz1 hz2 rfl (by decide) v1 (N + K) (Lib.byteCells l ++ Lib.byteCells D) rfl (World.ownsRow.alloc O1.out _) (some ⟨w1.heap.size, 0, none⟩) 1 1 [.int .u8 c.toNat] rfl rfl (fun e => by cases e) (fun ad hp => by cases hp; exact World.news_of_block (heap_alloc_new w1 _)) (fun u hu => by simp at hu; subst hu; rfl) (by unfold maxLen; omega) (by omega) (Nat.le_trans (Nat.le_trans HB.out B1.out.size) (by simp)) (N + K + 1) rfl ?_; intro p5 cap5 w5 hown5 hgrow5 hblk5; have EN : (l ++ (D ++ [c])).length = N + K + 1 := (by simp only [List.length_append, List.length_singleton, HN.out, HK.out]; omega); have ST := Lib.hid (putter_step (l' := l ++ (D ++ [c])) HP.out (B1.out.alloc (Nat.le_trans HB.out B1.out.size) _) (Lib.OthersKept.alloc K1.out _) (World.ownsRow.alloc O1.out _) hgrow5 (by rw [EN, bytes_app2, bytes_app2, ← List.append_assoc]; exact hown5)); obtain ⟨v0, hb0⟩ := ST.out.1; have d0 := (obj_cells hb0).1 0 _ rfl; have df := (obj_cells hb0).2.1 0; clear hown5 hgrow5 hblk5 hb0 EN))
  refine bodyPost_ret (results_none rfl _ _ _) rfl ?_
  exact ⟨rfl, ⟨l ++ (D ++ [c]), HS.out.app _, ST.out.2.1⟩, ST.out.2.2⟩

end Go.Proofs.YtjmfjlffcopnnaaGreatDoor
