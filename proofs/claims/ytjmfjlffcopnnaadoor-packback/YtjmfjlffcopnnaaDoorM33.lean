/-
  Shl, Pa, in one text. Conditions: as each theorem's premises say.
-/
import Derived.Shelf.Strconv.AppendIntPublic10
import Derived.Shelf.Small.Strs
import Derived.Shelf.Strconv.Clone
import Derived.Test.YtjmfjlffcopnnaaDoorProg
import Derived.Test.YtjmfjlffcopnnaaDoorM20
import Derived.Test.YtjmfjlffcopnnaaDoorQm
import Derived.Lib.ItoaLen
import Derived.Lib.AppendStr
import Derived.Deep.CutBlock
import Derived.Deep.DeepCutAuto
namespace Go.Proofs
open Go.Shelf
def Tryd.laysAppendInt_ren : Go.Shelf.Ren := ⟨fun | 176 => 80 | 249 => 86 | 288 => 88 | 283 => 89 | 284 => 90 | 285 => 91 | 286 => 92 | 129 => 94 | 317 => 93 | 318 => 95 | 319 => 96 | 320 => 97 | 337 => 98 | 338 => 99 | n => n, fun | 37 => 49 | 2 => 2 | 3 => 3 | 53 => 120 | 4 => 4 | 9 => 9 | 171 => 123 | 0 => 0 | 173 => 126 | 212 => 130 | 51 => 131 | 5 => 5 | 20 => 20 | 213 => 132 | 46 => 39 | 232 => 135 | 233 => 136 | n => n, fun | 17 => 1 | 18 => 2 | 19 => 3 | n => n⟩
theorem Tryd.laysAppendInt : Go.Proofs.LaysM.n176 Tryd.prog Tryd.laysAppendInt_ren := {
  mixed := by kernel_rfl
  f129 := Tryd.func94.trans (congrArg some (by kernel_rfl))
  f176 := Tryd.func80.trans (congrArg some (by kernel_rfl))
  f249 := Tryd.func86.trans (congrArg some (by kernel_rfl))
  f283 := Tryd.func89.trans (congrArg some (by kernel_rfl))
  f284 := Tryd.func90.trans (congrArg some (by kernel_rfl))
  f285 := Tryd.func91.trans (congrArg some (by kernel_rfl))
  f286 := Tryd.func92.trans (congrArg some (by kernel_rfl))
  f288 := Tryd.func88.trans (congrArg some (by kernel_rfl))
  f317 := Tryd.func93.trans (congrArg some (by kernel_rfl))
  f318 := Tryd.func95.trans (congrArg some (by kernel_rfl))
  f319 := Tryd.func96.trans (congrArg some (by kernel_rfl))
  f320 := Tryd.func97.trans (congrArg some (by kernel_rfl))
  f337 := Tryd.func98.trans (congrArg some (by kernel_rfl))
  f338 := Tryd.func99.trans (congrArg some (by kernel_rfl))
  t0 := Tryd.underlying0
  a0 := Tryd.isAgg0
  z0 := Tryd.sizeOf0
  v0 := Tryd.zeroValue0
  t2 := Tryd.underlying2
  a2 := Tryd.isAgg2
  z2 := Tryd.sizeOf2
  v2 := Tryd.zeroValue2
  t3 := Tryd.underlying3
  a3 := Tryd.isAgg3
  z3 := Tryd.sizeOf3
  v3 := Tryd.zeroValue3
  t4 := Tryd.underlying4
  a4 := Tryd.isAgg4
  z4 := Tryd.sizeOf4
  v4 := Tryd.zeroValue4
  t5 := Tryd.underlying5
  a5 := Tryd.isAgg5
  z5 := Tryd.sizeOf5
  v5 := Tryd.zeroValue5
  t9 := Tryd.underlying9
  a9 := Tryd.isAgg9
  z9 := Tryd.sizeOf9
  v9 := Tryd.zeroValue9
  t20 := Tryd.underlying20
  a20 := Tryd.isAgg20
  z20 := Tryd.sizeOf20
  v20 := Tryd.zeroValue20
  t37 := Tryd.underlying49
  a37 := Tryd.isAgg49
  z37 := Tryd.sizeOf49
  v37 := Tryd.zeroValue49
  t46 := Tryd.underlying39
  a46 := Tryd.isAgg39
  z46 := Tryd.sizeOf39
  v46 := Tryd.zeroValue39
  t51 := Tryd.underlying131
  a51 := Tryd.isAgg131
  z51 := Tryd.sizeOf131
  v51 := Tryd.zeroValue131
  t53 := Tryd.underlying120
  a53 := Tryd.isAgg120
  z53 := Tryd.sizeOf120
  v53 := Tryd.zeroValue120
  t171 := Tryd.underlying123
  a171 := Tryd.isAgg123
  z171 := Tryd.sizeOf123
  v171 := Tryd.zeroValue123
  t173 := Tryd.underlying126
  a173 := Tryd.isAgg126
  z173 := Tryd.sizeOf126
  v173 := Tryd.zeroValue126
  t212 := Tryd.underlying130
  a212 := Tryd.isAgg130
  z212 := Tryd.sizeOf130
  v212 := Tryd.zeroValue130
  t213 := Tryd.underlying132
  a213 := Tryd.isAgg132
  z213 := Tryd.sizeOf132
  t232 := Tryd.underlying135
  a232 := Tryd.isAgg135
  z232 := Tryd.sizeOf135
  v232 := Tryd.zeroValue135
  t233 := Tryd.underlying136
  a233 := Tryd.isAgg136
  z233 := Tryd.sizeOf136
  v233 := Tryd.zeroValue136
  g17 := by kernel_rfl
  g18 := by kernel_rfl
  g19 := by kernel_rfl
  i0 := by kernel_rfl
  i2 := by kernel_rfl
  i3 := by kernel_rfl
  i4 := by kernel_rfl
  i5 := by kernel_rfl
  i9 := by kernel_rfl
  i20 := by kernel_rfl
  i37 := by kernel_rfl
  i46 := by kernel_rfl
  i51 := by kernel_rfl
  i53 := by kernel_rfl
  i171 := by kernel_rfl
  i173 := by kernel_rfl
  i212 := by kernel_rfl
  i232 := by kernel_rfl
  i233 := by kernel_rfl
  m17 := by kernel_rfl
  m18 := by kernel_rfl
  m19 := by kernel_rfl }
def Tryd.laysIndexByte_ren : Go.Shelf.Ren := ⟨fun | 137 => 59 | 217 => 82 | 266 => 87 | n => n, fun | 9 => 9 | 5 => 5 | 3 => 3 | n => n, fun | n => n⟩
theorem Tryd.laysIndexByte : Go.Proofs.Lays.n137 Tryd.prog Tryd.laysIndexByte_ren := {
  mixed := by kernel_rfl
  f137 := Tryd.func59.trans (congrArg some (by kernel_rfl))
  f217 := Tryd.func82.trans (congrArg some (by kernel_rfl))
  f266 := Tryd.func87.trans (congrArg some (by kernel_rfl))
  t3 := Tryd.underlying3
  a3 := Tryd.isAgg3
  z3 := Tryd.sizeOf3
  v3 := Tryd.zeroValue3
  t5 := Tryd.underlying5
  a5 := Tryd.isAgg5
  z5 := Tryd.sizeOf5
  v5 := Tryd.zeroValue5
  t9 := Tryd.underlying9
  a9 := Tryd.isAgg9
  z9 := Tryd.sizeOf9
  v9 := Tryd.zeroValue9 }
def Tryd.laysClone_ren : Go.Shelf.Ren := ⟨fun | 316 => 84 | n => n, fun | 9 => 9 | 3 => 3 | 4 => 4 | 37 => 49 | 0 => 0 | 127 => 119 | 5 => 5 | n => n, fun | n => n⟩
theorem Tryd.laysClone : Go.Proofs.LaysM.n316 Tryd.prog Tryd.laysClone_ren := {
  mixed := by kernel_rfl
  f316 := Tryd.func84.trans (congrArg some (by kernel_rfl))
  t0 := Tryd.underlying0
  a0 := Tryd.isAgg0
  z0 := Tryd.sizeOf0
  v0 := Tryd.zeroValue0
  t3 := Tryd.underlying3
  a3 := Tryd.isAgg3
  z3 := Tryd.sizeOf3
  v3 := Tryd.zeroValue3
  t4 := Tryd.underlying4
  a4 := Tryd.isAgg4
  z4 := Tryd.sizeOf4
  v4 := Tryd.zeroValue4
  t9 := Tryd.underlying9
  a9 := Tryd.isAgg9
  z9 := Tryd.sizeOf9
  v9 := Tryd.zeroValue9
  t37 := Tryd.underlying49
  a37 := Tryd.isAgg49
  z37 := Tryd.sizeOf49
  v37 := Tryd.zeroValue49
  t127 := Tryd.underlying119
  a127 := Tryd.isAgg119
  z127 := Tryd.sizeOf119
  v127 := Tryd.zeroValue119
  t5 := Tryd.underlying5
  a5 := Tryd.isAgg5
  z5 := Tryd.sizeOf5
  v5 := Tryd.zeroValue5
  i0 := by kernel_rfl
  i3 := by kernel_rfl
  i4 := by kernel_rfl
  i5 := by kernel_rfl
  i9 := by kernel_rfl
  i37 := by kernel_rfl
  i127 := by kernel_rfl }
end Go.Proofs

namespace Go.Proofs.YtjmfjlffcopnnaaDoor
open Go.RowKit

abbrev TabB (B : Nat) (w : World) : Prop := Lib.TabBelow Tryd.prog B w "internal/strconv.uint64pow10" .u64 Lib.pow10Tab
/-- The putter's bytes, in its box. -/
structure PW (w : World) (B pb : Nat) (l : List UInt8) : Prop where
  box : ∃ v, w.heap[pb]? = some (.cells #[v] 51 (0, 0)) ∧ w.ownsRow B 5 1 v l.length (Lib.byteCells l)
  new : B ≤ pb
  tab : TabB B w
/-- As far as it counts: the bytes are these, or both are too many. -/
def Sim (l e : List UInt8) : Prop := l.length ≤ e.length ∧ (l = e ∨ (1000000 < l.length ∧ 1000000 < e.length))
theorem Sim.app {l e : List UInt8} (h : Sim l e) (x : List UInt8) : Sim (l ++ x) (e ++ x) := by
  obtain ⟨h1, h2⟩ := h
  refine ⟨by rw [List.length_append, List.length_append]; omega, ?_⟩
  rcases h2 with rfl | ⟨h2, h3⟩
  · exact .inl rfl
  · exact .inr ⟨by rw [List.length_append]; omega, by rw [List.length_append]; omega⟩
theorem Sim.stop {l e : List UInt8} (h : Sim l e) (ho : 1000000 < l.length) (x : List UInt8) : Sim l (e ++ x) := by
  obtain ⟨h1, _⟩ := h
  exact ⟨by rw [List.length_append]; omega, .inr ⟨ho, by rw [List.length_append]; omega⟩⟩
def PX (w : World) (B pb : Nat) (e : List UInt8) : Prop := ∃ l, Sim l e ∧ PW w B pb l
/-- What stays where the putter puts. -/
def Keep (B pb : Nat) (w w' : World) : Prop := Below B w w' ∧ ∀ k c e, k ≠ pb → e ≠ 5 → w.heap[k]? = some (.cells c e (0, 0)) → w'.heap[k]? = some (.cells c e (0, 0))
theorem Keep.refl (B pb : Nat) (w : World) : Keep B pb w w := ⟨Below.refl _ _, fun _ _ _ _ _ h => h⟩
theorem Keep.trans {B pb : Nat} {w w1 w2 : World} (h : Keep B pb w w1) (h1 : Keep B pb w1 w2) : Keep B pb w w2 := ⟨h.1.trans h1.1, fun k c e hk he hc => h1.2 k c e hk he (h.2 k c e hk he hc)⟩
theorem Keep.alloc {B pb : Nat} {w w1 : World} (h : Keep B pb w w1) (hB : B ≤ w.heap.size) (o : Obj) : Keep B pb w (w1.alloc o) := ⟨h.1.alloc (Nat.le_trans hB h.1.size) o, fun k c e hk he hc => heap_old (h.2 k c e hk he hc) o⟩
theorem Keep.old {B pb k : Nat} {w w1 : World} {c : Array Value} {e : TypeId} (h : Keep B pb w w1) (hc : w.heap[k]? = some (.cells c e (0, 0))) (hk : k ≠ pb) (he : e ≠ 5) : w1.heap[k]? = some (.cells c e (0, 0)) := h.2 k c e hk he hc
theorem PW.size {w : World} {B pb : Nat} {l : List UInt8} (h : PW w B pb l) : B ≤ w.heap.size := by
  obtain ⟨v, h1, _⟩ := h.box
  have := (Array.getElem?_eq_some_iff.1 h1).1
  have := h.new
  omega
theorem PW.lt {w : World} {B pb : Nat} {l : List UInt8} (h : PW w B pb l) : pb < w.heap.size := by
  obtain ⟨v, h1, _⟩ := h.box
  exact (Array.getElem?_eq_some_iff.1 h1).1
theorem PW.alloc {w : World} {B pb : Nat} {l : List UInt8} (h : PW w B pb l) (o : Obj) : PW (w.alloc o) B pb l := by
  obtain ⟨v, h1, h2⟩ := h.box
  exact ⟨⟨v, heap_old h1 o, h2.alloc o⟩, h.new, h.tab.on ((Below.refl B w).alloc h.size o)⟩
theorem PX.alloc {w : World} {B pb : Nat} {e : List UInt8} (h : PX w B pb e) (o : Obj) : PX (w.alloc o) B pb e := by
  obtain ⟨l, h1, h2⟩ := h
  exact ⟨l, h1, h2.alloc o⟩
theorem PX.size {w : World} {B pb : Nat} {e : List UInt8} (h : PX w B pb e) : B ≤ w.heap.size := by
  obtain ⟨l, _, h⟩ := h
  exact h.size
theorem PX.lt {w : World} {B pb : Nat} {e : List UInt8} (h : PX w B pb e) : pb < w.heap.size := by
  obtain ⟨l, _, h⟩ := h
  exact h.lt
/-- What each of the putter's methods answers. -/
def PutS (B pb : Nat) (e : List UInt8) (w : World) (en : Ending) (w' : World) : Prop := en = .returned (.tuple #[]) ∧ PX w' B pb e ∧ Keep B pb w w'
theorem dec_itoa : ∀ (m n : Nat), n ≤ m → Lib.decDigits n = decL n
  | 0, n, h => by
    have h0 : n = 0 := by omega
    subst h0
    rw [Lib.decDigits]
    decide
  | m + 1, n, h => by
    rw [Lib.decDigits, decL_step]
    split
    · rename_i h1
      have h2 : n / 10 = 0 := by omega
      rw [if_pos h2, show n % 10 = n by omega]
      rfl
    · rename_i h1
      rw [if_neg (by omega), dec_itoa m (n / 10) (by omega)]
theorem itoa_nat (n : Nat) : Lib.itoa (n : Int) = decL n := by
  unfold Lib.itoa
  rw [if_neg (by omega), Int.toNat_natCast]
  exact dec_itoa n n (Nat.le_refl _)
theorem bytes_app2 (a b : List UInt8) : Lib.byteCells (a ++ b) = Lib.byteCells a ++ Lib.byteCells b := List.map_append

theorem ownsB_obj {w : World} {B : Nat} {v : Value} {n : Nat} {xs : List Value} (h : w.ownsRow B 5 1 v n xs) {g : Nat} (hg : v.ownBlock = some g) : ∃ c, w.heap[g]? = some (.cells c 5 (0, 0)) := by
  rcases h.2 with ⟨e, _⟩ | ⟨g', cap, cur, hv, h1, h2, h3⟩
  · rw [e] at hg; cases hg
  · subst hv
    cases hg
    exact ⟨cur, h2⟩
theorem ownsB_set {w : World} {B pb : Nat} {v u : Value} {n : Nat} {xs : List Value} {c : Array Value} (h : w.ownsRow B 5 1 v n xs) (hb : w.heap[pb]? = some (.cells c 51 (0, 0))) : (w.setCell ⟨pb, 0, none⟩ u).ownsRow B 5 1 v n xs := by
  refine ⟨h.1, ?_⟩
  rcases h.2 with h2 | ⟨g', cap, cur, hv, h1, h2, h3⟩
  · exact .inl h2
  · refine .inr ⟨g', cap, cur, hv, h1, ?_, h3⟩
    rw [Below.heap_setCell _ _ _ _ (fun e => ?_)]
    · exact h2
    · subst e
      exact type_ne h2 hb (by decide) rfl
/-- What a method does: bytes are put behind the putter's own, and the box is written. -/
theorem putter_step {w w1 w2 : World} {B pb : Nat} {v v' : Value} {l l' : List UInt8} {n : Nat} {xs : List Value} (h : PW w B pb l) (h1 : Below B w w1) (k1 : Lib.OthersKept 5 none w w1) (o1 : w1.ownsRow B 5 1 v n xs) (g : w1.grownBy w2 v.ownBlock) (o2 : w2.ownsRow B 5 1 v' l'.length (Lib.byteCells l')) :
    (∃ v0, w2.heap[pb]? = some (.cells #[v0] 51 (0, 0))) ∧ PW (w2.setCell ⟨pb, 0, none⟩ v') B pb l' ∧ Keep B pb w (w2.setCell ⟨pb, 0, none⟩ v') := by
  have k2 : Lib.OthersKept 5 none w w2 := k1.grown g (fun k hk => by
    obtain ⟨c, hc⟩ := ownsB_obj o1 hk
    exact ⟨c, (0, 0), hc⟩)
  obtain ⟨v0, b0, _⟩ := h.box
  have b2 : w2.heap[pb]? = some (.cells #[v0] 51 (0, 0)) := k2 pb _ b0 (by simp) (fun c fz e => by cases e)
  have hs : B ≤ w1.heap.size := Nat.le_trans h.size h1.size
  have bl2 : Below B w w2 := h1.trans (below_grownN g (fun k hk => (o1.lt k hk).1) hs)
  have bl3 : Below B w (w2.setCell ⟨pb, 0, none⟩ v') := bl2.trans (below_grownN (set_grown w2 pb 0 v') (fun k hk => by cases hk; exact h.new) (Nat.le_trans h.size bl2.size))
  refine ⟨⟨v0, b2⟩, ⟨⟨v', by rw [heap_setCell_at b2]; rfl, ownsB_set o2 b2⟩, h.new, h.tab.on bl3⟩, bl3, fun k c e hk he hc => ?_⟩
  have := k2 k _ hc (by simp) (fun c' fz e' => by cases e'; exact he rfl)
  rw [Below.heap_setCell _ _ _ _ hk]
  exact this

set_option maxRecDepth 100000 in
set_option maxHeartbeats 4000000 in
theorem pdig_any (n : Nat) (hn : n ≤ 9223372036854775807) (c : UInt8) (B pb : Nat) (e : List UInt8) (w : World) (h : PX w B pb e) (hz : (e ++ (decL n ++ [c])).length ≤ 70368744177664) : Calls Tryd.prog 54 #[.pointer (some ⟨pb, 0, none⟩), .int .i64 n, .int .u8 c.toNat] w (PutS B pb (e ++ (decL n ++ [c])) w) := by
  obtain ⟨i0, hi, hz0, hz1, hz2⟩ := info_parts info5
  obtain ⟨l, hs, hp⟩ := h
  have HS := Lib.hid hs
  have HP := Lib.hid hp
  obtain ⟨v, h1, h2⟩ := hp.box
  have hle : l.length ≤ 70368744177664 := by have := hs.1; rw [List.length_append] at hz; omega
  have hlen : (decL n).length ≤ 70368744177664 := by simp only [List.length_append] at hz; omega
  have hl2 : l.length + (decL n).length + 1 ≤ 70368744177664 := by have := hs.1; simp only [List.length_append, List.length_singleton] at hz; omega
  have BX := Lib.hid h1
  have AP := Lib.hid (Any.strconv_AppendInt_10 Tryd.laysAppendInt B l.length (n : Int) (by omega) (by omega) v (Lib.byteCells l) w h2 hp.size (by omega) hp.tab)
  rw [itoa_nat] at AP
  have HB := Lib.hid hp.size
  have c0 := (obj_cells h1).1 0 _ rfl
  clear h1 h2 hs hp hz hle
  generalize hN : l.length = N at AP hl2
  have HN := Lib.hid hN
  clear hN
  generalize hD : decL n = D at AP hl2 hlen ⊢
  clear hD hn
  generalize hK : D.length = K at AP hl2 hlen
  have HK := Lib.hid hK
  clear hK
  go_enter Tryd.func54, Tryd.ntmps54
  go_wp2_with (first | (go_at_call 80; refine AP.out.mono ?_; rintro e w1 ⟨v1, rfl, h1, h2, h3⟩; have O1 := Lib.hid h1; have B1 := Lib.hid h2; have K1 := Lib.hid h3; clear h1 h2 h3) | (at_builtin; refine wpList_append_all _ rfl _ _ 49 rfl B 5 i0 _ 1 1 Tryd.underlying49 hi hz0 hz1 hz2 rfl (by decide) v1 (N + K) (Lib.byteCells l ++ Lib.byteCells D) rfl (World.ownsRow.alloc O1.out _) (some ⟨w1.heap.size, 0, none⟩) 1 1 [.int .u8 c.toNat] rfl rfl (fun e => by cases e) (fun ad hp => by cases hp; exact World.news_of_block (heap_alloc_new w1 _)) (fun u hu => by simp at hu; subst hu; rfl) (by unfold maxLen; omega) (by omega) (Nat.le_trans (Nat.le_trans HB.out B1.out.size) (by simp)) (N + K + 1) rfl ?_; intro p5 cap5 w5 hown5 hgrow5 hblk5; have EN : (l ++ (D ++ [c])).length = N + K + 1 := (by simp only [List.length_append, List.length_singleton, HN.out, HK.out]; omega); have ST := Lib.hid (putter_step (l' := l ++ (D ++ [c])) HP.out (B1.out.alloc (Nat.le_trans HB.out B1.out.size) _) (Lib.OthersKept.alloc K1.out _) (World.ownsRow.alloc O1.out _) hgrow5 (by rw [EN, bytes_app2, bytes_app2, ← List.append_assoc]; exact hown5)); obtain ⟨v0, hb0⟩ := ST.out.1; have d0 := (obj_cells hb0).1 0 _ rfl; have df := (obj_cells hb0).2.1 0; clear hown5 hgrow5 hblk5 hb0 EN))
  refine bodyPost_ret (results_none rfl _ _ _) rfl ?_
  exact ⟨rfl, ⟨l ++ (D ++ [c]), HS.out.app _, ST.out.2.1⟩, ST.out.2.2⟩

end Go.Proofs.YtjmfjlffcopnnaaDoor
