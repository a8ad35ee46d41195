/-
  Blx, Pk1, Pk2, Pk3, Pk4, in one text. Conditions: as each theorem's premises say.
-/
import Derived.Test.YtjmfjlffcopnnaaGreatDoorPM05
import Derived.Test.YtjmfjlffcopnnaaGreatDoorPM16
import Derived.Test.YtjmfjlffcopnnaaGreatDoorPM13
import Derived.Laws.IdiomStrings
import Derived.Test.YtjmfjlffcopnnaaGreatDoorPM00
import Derived.Deep.RegionHeld3
import Derived.Deep.RegionLaw
namespace Go.Proofs.YtjmfjlffcopnnaaGreatDoor
open Go.RowKit

def Bl (w W : World) : Prop := Below w.heap.size w W
theorem Bl.refl (w : World) : Bl w w := Below.refl _ _
theorem Bl.size {w W : World} (h : Bl w W) : w.heap.size ≤ W.heap.size := Below.size h
theorem Bl.drew {w W : World} (h : Bl w W) : Bl w W.drew := below_drew h
theorem Bl.alloc {w W : World} (h : Bl w W) (o : Obj) : Bl w (W.alloc o) := Below.alloc h h.size o
theorem Bl.call {w W W' : World} (h : Bl w W) (hb : Below W.heap.size W W') : Bl w W' := Below.trans h (hb.mono h.size)
theorem Bl.set {w W : World} (h : Bl w W) {g j : Nat} (hg : w.heap.size ≤ g) (u : Value) : Bl w (W.setCell ⟨g, j, none⟩ u) := below_set h hg u
theorem Bl.cell {w W : World} (h : Bl w W) {b o : Nat} {u : Value} (hc : w.cell? ⟨b, o, none⟩ = some u) : W.cell? ⟨b, o, none⟩ = some u := cell_later h hc
theorem heap_old {W : World} {k : Nat} {o : Obj} (h : W.heap[k]? = some o) (o' : Obj) : (W.alloc o').heap[k]? = some o :=
  ((below1 (Below.refl W.heap.size W) (Nat.le_refl _) o').block k (Array.getElem?_eq_some_iff.1 h).1).trans h
theorem heap_new {W : World} {k : Nat} (hk : W.heap.size = k) (cs : Array Value) (ty : TypeId) : (W.alloc (.cells cs ty)).heap[k]? = some (.cells cs ty (0, 0)) := by
  subst hk; exact heap_alloc_new W _
/-- Four boxes just made. -/
theorem heap_later {w W : World} {k : Nat} {o : Obj} (h : w.heap[k]? = some o) (hb : Bl w W) : W.heap[k]? = some o := (Below.block hb k (Array.getElem?_eq_some_iff.1 h).1).trans h

end Go.Proofs.YtjmfjlffcopnnaaGreatDoor

namespace Go.Proofs.YtjmfjlffcopnnaaGreatDoor
open Go.RowKit

def lyB : Ly UInt8 where
  ty := 5
  sz := 1
  cells b := [.int .u8 b.toNat]
  len _ := rfl
  one t u hu := by
    simp at hu
    rcases hu with rfl
    rfl
  pos := by decide
theorem info5 : (Tryz.prog.info? 5).map (fun i => (i.zero, i.size, i.bytes)) = some (some (.int .u8 0), 1, 1) := by kernel_rfl
theorem built_own (w : World) (base : Nat) (hb : base ≤ w.heap.size) (b : UInt8) : lyB.Own (w.alloc (.cells #[.int .u8 b.toNat] 5)) base (.slice (some ⟨w.heap.size, 0, none⟩) 1 1) [b] :=
  ⟨rfl, .inr ⟨w.heap.size, 1, _, rfl, hb, heap_alloc_new w _, Nat.le_refl 1, (by decide : 1 ≤ maxLen), rfl, rfl⟩⟩
theorem back_bytes {w : World} {base g n cap : Nat} {l : List UInt8} (h : lyB.Own w base (.slice (some ⟨g, 0, none⟩) n cap) l) (hn : l.length = n) : (convert 61 9 (.slice (some ⟨g, 0, none⟩) n cap)).run Tryz.prog w = .ok (.string ⟨l.toArray⟩) w := by
  subst hn
  refine run_convert_bytes_back (P := Tryz.prog) w 61 9 5 ⟨g, 0, none⟩ cap l Tryz.underlying61 Tryz.underlying5 Tryz.underlying9 fun j hj => ?_
  have := h.at (List.getElem?_eq_getElem hj) 0 _ rfl
  rw [add_plain, Nat.zero_add]
  rw [show j * lyB.sz = j from Nat.mul_one j] at this
  exact this

/-- How far Decimal's loop has come: this number is left, these digits stand. -/
def DecI (n k : Nat) (acc : List UInt8) : Prop := (acc = [] ∧ k = n) ∨ (0 < k ∧ ∃ f, k < f ∧ decA f k acc = decL n) ∨ (k = 0 ∧ acc = decL n ∧ acc ≠ [])
theorem decI_step {n k : Nat} {acc : List UInt8} (h : DecI n k acc) (hk : 0 < k ∨ acc = []) : DecI n (k / 10) (UInt8.ofNat (48 + k % 10) :: acc) := by
  have key : ∀ f, k < f + 1 → decA (f + 1) k acc = decL n → DecI n (k / 10) (UInt8.ofNat (48 + k % 10) :: acc) := fun f hf e => by
    unfold decA at e
    by_cases h0 : k / 10 = 0
    · rw [if_pos h0] at e
      exact .inr (.inr ⟨h0, e, by simp⟩)
    · rw [if_neg h0] at e
      exact .inr (.inl ⟨by omega, f, by omega, e⟩)
  rcases h with ⟨rfl, rfl⟩ | ⟨h1, f, hf, e⟩ | ⟨h1, _, h3⟩
  · exact key k (by omega) rfl
  · cases f with
    | zero => omega
    | succ f => exact key f hf e
  · rcases hk with hk | hk
    · omega
    · exact absurd hk h3
theorem decI_le {n k : Nat} {acc : List UInt8} (h : DecI n k acc) : acc.length ≤ (decL n).length := by
  rcases h with ⟨rfl, -⟩ | ⟨-, f, -, e⟩ | ⟨-, e, -⟩
  · simp
  · rw [← e, decA_len]; omega
  · rw [e]; exact Nat.le_refl _
theorem decL_len {n : Nat} (h : n ≤ 9223372036854775807) : (decL n).length ≤ 19 := Nat.le_trans (decL_mono h) (by decide +kernel)
def isNil : Value → Nat
  | .slice none _ _ => 1
  | _ => 0
def tx (l : List UInt8) : Value := .string ⟨l.toArray⟩

theorem ofNat_dg {d : Nat} (h : d < 10) : ((UInt8.ofNat (48 + d)).toNat : Int) = 48 + (d : Int) := by
  rw [dg_nat h]
  omega

set_option maxRecDepth 100000 in
set_option maxHeartbeats 1000000 in
theorem dec_any (n : Nat) (hn : n ≤ 9223372036854775807) (w : World) : Calls Tryz.prog 72 #[.int .i64 n] w (fun e w' => e = .returned (tx (decL n)) ∧ Below w.heap.size w w') := by
  obtain ⟨i0, hi, hz0, hz1, hz2⟩ := info_parts info5
  have DL := Lib.hid (decL_len hn)
  have hn0 : (0 : Int) ≤ (n : Int) := by omega
  go_enter Tryz.func72, Tryz.ntmps72
  go_wp2_with fail
  go_loopw [3, 4] (fun x v wr => ∃ (k : Nat) (acc : List UInt8), k ≤ n ∧ x = .int .u64 k ∧ Hid (DecI n k acc) ∧ Hid (lyB.Own wr w.heap.size v acc) ∧ Hid (acc = [] → v = .slice none 0 0) ∧ Hid (Below w.heap.size w wr)) (fun x v _ => 2 * (intOf x).toNat + isNil v)
  case atStart => exact ⟨n, [], Nat.le_refl _, by go_num, Lib.hid (.inl ⟨rfl, rfl⟩), Lib.hid (Ly.Own.nil _ _), Lib.hid (fun _ => rfl), Lib.hid (Below.refl _ _)⟩
  case round =>
    obtain ⟨k, acc, hk, rfl, D, O, ON, B⟩ := hrel
    have HA := Lib.hid (Nat.le_trans (decI_le D.out) DL.out)
    have key : ∀ (hgo : 0 < k ∨ acc = []), True := fun _ => trivial
    clear key
    obtain ⟨d, hd⟩ : ∃ d, k % 10 = d := ⟨_, rfl⟩
    obtain ⟨q, hq⟩ : ∃ q, k / 10 = q := ⟨_, rfl⟩
    have hd10 : d < 10 := by rw [← hd]; exact Nat.mod_lt _ (by decide)
    have E1 : ((k : Nat) : Int).tmod 10 = (d : Int) := by rw [← hd]; exact (Int.ofNat_tmod k 10).symm
    have E2 : ((k : Nat) : Int).tdiv 10 = (q : Int) := by rw [← hq]; exact (Int.ofNat_tdiv k 10).symm
    have HQ : Hid (q ≤ k ∧ (0 < k → q < k)) := Lib.hid (by omega)
    obtain ⟨b, hb⟩ : ∃ b, UInt8.ofNat (48 + d) = b := ⟨_, rfl⟩
    have HBD : (b.toNat : Int) = 48 + (d : Int) := by rw [← hb]; exact ofNat_dg hd10
    have D2 : Hid (0 < k ∨ acc = [] → DecI n q (b :: acc)) := Lib.hid (fun h => by
      have := decI_step D.out h
      rw [hd, hq, hb] at this
      exact this)
    have OB := Lib.hid (built_own wr w.heap.size B.out.size b)
    rw [HBD] at OB
    obtain ⟨p, cap, rfl⟩ := O.out.form
    clear hb hd hq HBD
    obtain ⟨N, hN⟩ : ∃ N, acc.length = N := ⟨_, rfl⟩
    rw [hN] at O ON HA ⊢
    by_cases h0 : k = 0
    · by_cases ha : acc = []
      · subst ha
        cases hN
        cases (ON.out rfl)
        subst h0
        have D3 := Lib.hid (D2.out (.inr rfl))
        cases (show q = 0 by have := HQ.out.1; omega)
        cases (show d = 0 by rw [show ((0 : Nat) : Int).tmod 10 = 0 from rfl] at E1; omega)
        go_wp2_with fail
        refine ⟨⟨0, [b], Nat.zero_le _, rfl, D3, OB, Lib.hid (fun h => by simp at h), Lib.hid (B.out.alloc B.out.size _)⟩, ?_⟩
        simp [intOf, isNil]
      · have hN0 : 0 < N := by
          rw [← hN]; exact List.length_pos_iff.2 ha
        subst h0
        have F : Hid (acc = decL n) := Lib.hid (by
          rcases D.out with ⟨h, -⟩ | ⟨h, -⟩ | ⟨-, h, -⟩
          · exact absurd h ha
          · omega
          · exact h)
        have hN1 : ¬ ((N : Int) = 0) := by omega
        obtain ⟨g, c1, hf, -⟩ := O.out.formS ha
        cases hf
        have CB := back_bytes O.out hN
        go_wp2_with fail
        go_ret
        exact ⟨by rw [F.out]; rfl, B.out⟩
    · have hk0 : 0 < k := by omega
      have D3 := Lib.hid (D2.out (.inl hk0))
      have OA : Hid (∀ ad, p = some ad → ∀ j u, (lyB.all acc)[j]? = some u → (wr.alloc (.cells #[.int .u8 (48 + (d : Int))] 5)).cell? (ad.add j) = some u) := Lib.hid (by
        rintro ad rfl j u hu
        obtain ⟨g, c1, hf, -, hg, -⟩ := O.out.formS (by rintro rfl; simp [Ly.all] at hu)
        cases hf
        exact World.ownsRow.cells (World.ownsRow.alloc O.out _) rfl j u hu)
      have OP : Hid (p = none → N = 0) := Lib.hid (by
        rintro rfl
        rcases O.out.2 with ⟨-, h⟩ | ⟨g, c1, c2, h, -⟩
        · rw [← hN]; exact h
        · cases h)
      go_wp2_with (at_builtin; refine wpList_append_all _ rfl _ _ 61 rfl w.heap.size 5 i0 _ 1 1 Tryz.underlying61 hi hz0 hz1 hz2 rfl (by decide) (.slice (some ⟨wr.heap.size, 0, none⟩) 1 1) 1 (lyB.all [b]) rfl OB.out p N cap (lyB.all acc) rfl (by rw [all_len, hN]; rfl) OP.out OA.out (all_ones acc) (by unfold maxLen; have := HA.out; omega) (by have := HA.out; omega) (Nat.le_trans B.out.size (by simp)) (N + 1) (by omega) ?_; intro p5 cap5 w5 hown5 hgrow5 hblk5; have H5 := Lib.hid hown5; have G5 := Lib.hid hgrow5; clear hown5 hgrow5 hblk5)
      have O6 : Hid (lyB.Own w5 w.heap.size (.slice p5 (N + 1) cap5) (b :: acc)) := Lib.hid (by
        unfold Ly.Own
        rw [List.length_cons, hN]
        exact H5.out)
      obtain ⟨g6, c6, hf6, -⟩ := O6.out.formS (by simp)
      cases hf6
      have B6 : Hid (Below w.heap.size w w5) := Lib.hid ((B.out.alloc B.out.size _).grown G5.out (Nat.le_trans B.out.size (by simp)) (fun g hg => (Ly.Own.lt OB.out hg).1))
      have HW : IntKind.u64.wrap (q : Int) = (q : Int) := by
        unfold IntKind.wrap
        simp only [IntKind.signed, Bool.false_and]
        have := HQ.out.1
        exact Int.emod_eq_of_lt (by omega) (by simp [IntKind.bits]; omega)
      have hql := HQ.out.2 hk0
      refine ⟨⟨q, b :: acc, by omega, by rw [HW], D3, ?_, Lib.hid (fun h => by simp at h), B6⟩, ?_⟩
      · exact O6
      · rw [HW]
        simp [intOf, isNil]
        omega

end Go.Proofs.YtjmfjlffcopnnaaGreatDoor

namespace Go.Proofs.YtjmfjlffcopnnaaGreatDoor
open Go.RowKit

theorem bytes_app (a b : ByteArray) : bytesOf (a ++ b) = bytesOf a ++ bytesOf b := by
  unfold bytesOf
  rw [ByteArray.data_append]
  simp
theorem bytes_len (a : ByteArray) : (bytesOf a).length = a.size := by
  unfold bytesOf
  rw [Array.length_toList]
  rfl
/-- A text that has these bytes. -/
def TxP (l : List UInt8) (w : World) (e : Ending) (w' : World) : Prop := ∃ z : ByteArray, e = .returned (.string z) ∧ bytesOf z = l ∧ Below w.heap.size w w'
theorem TxP.size {z : ByteArray} {l : List UInt8} (h : bytesOf z = l) : z.size = l.length := by rw [← h, bytes_len]
theorem num_len {n : Int} (h0 : 0 ≤ n) (h1 : n ≤ 9223372036854775807) : (numC n []).length ≤ 20 := by
  unfold numC
  have := decL_len (n := n.toNat) (by omega)
  simp
  omega
theorem str_len (t : List UInt8) (h : t.length ≤ 9223372036854775807) : (strC t []).length ≤ 20 + t.length := by
  unfold strC
  have := decL_len h
  simp
  omega
theorem row_take_len {α : Type} {f : α → List UInt8 → List UInt8} (hf : App f) (xs : List α) (i : Nat) : (rowC f (xs.take i) []).length ≤ (rowC f xs []).length := by
  have h : rowC f xs [] = rowC f (xs.take i) [] ++ rowC f (xs.drop i) [] := by
    have h1 : rowC f xs [] = rowC f (xs.take i) (rowC f (xs.drop i) []) := by
      unfold rowC
      rw [← List.foldr_append, List.take_append_drop]
    rw [h1]
    have := row_app hf (xs.take i) [] (rowC f (xs.drop i) [])
    rw [List.nil_append] at this
    exact this
  rw [h, List.length_append]
  omega
theorem list_split {α : Type} {f : α → List UInt8 → List UInt8} (xs : List α) : listC f xs [] = numC xs.length [] ++ rowC f xs [] := num_app.nil _ _
theorem dec_txt (n : Nat) (hn : n ≤ 9223372036854775807) (w : World) : Calls Tryz.prog 72 #[.int .i64 n] w (TxP (decL n) w) :=
  (dec_any n hn w).mono fun _ _ h => ⟨_, h.1, by simp [bytesOf], h.2⟩
theorem row_snoc {α : Type} {f : α → List UInt8 → List UInt8} (hf : App f) {xs : List α} {i : Nat} {x : α} (h : xs[i]? = some x) : rowC f (xs.take (i + 1)) [] = rowC f (xs.take i) [] ++ f x [] := by
  rw [List.take_add_one, h]
  unfold rowC
  rw [List.foldr_append]
  show List.foldr f (f x []) (xs.take i) = _
  have := row_app hf (xs.take i) [] (f x [])
  unfold rowC at this
  rw [List.nil_append] at this
  exact this
set_option maxRecDepth 100000 in
set_option maxHeartbeats 1000000 in
theorem num_txt (n : Int) (h0 : 0 ≤ n) (h1 : n ≤ 9223372036854775807) (w : World) : Calls Tryz.prog 23 #[.int .i64 n] w (TxP (numC n []) w) := by
  obtain ⟨m, rfl⟩ := Int.eq_ofNat_of_zero_le h0
  have D := Lib.hid (fun W => dec_txt m (by omega) W)
  have DL := Lib.hid (decL_len (n := m) (by omega))
  go_enter Tryz.func23, Tryz.ntmps23
  go_wp2_with (go_at_call 72; refine (D.out _).mono ?_; rintro e w1 ⟨z, rfl, hz, hb1⟩; have B1 := Lib.hid hb1; have Z := Lib.hid hz; have zl : z.size ≤ 19 := (by rw [TxP.size hz]; exact DL.out); clear hb1 hz)
  go_ret
  exact ⟨_, rfl, by rw [bytes_app, Z.out]; rfl, B1.out⟩

set_option maxRecDepth 100000 in
set_option maxHeartbeats 1000000 in
theorem str_txt (s : ByteArray) (h1 : s.size ≤ 4611686018427387904) (w : World) : Calls Tryz.prog 26 #[.string s] w (TxP (strC (bytesOf s) []) w) := by
  have D := Lib.hid (fun W => dec_txt s.size (by omega) W)
  have DL := Lib.hid (decL_len (n := s.size) (by omega))
  go_enter Tryz.func26, Tryz.ntmps26
  go_wp2_with (go_at_call 72; refine (D.out _).mono ?_; rintro e w1 ⟨z, rfl, hz, hb1⟩; have B1 := Lib.hid hb1; have Z := Lib.hid hz; have zl : z.size ≤ 19 := (by rw [TxP.size hz]; exact DL.out); clear hb1 hz)
  go_ret
  refine ⟨_, rfl, ?_, B1.out⟩
  rw [bytes_app, bytes_app, Z.out]
  unfold strC
  rw [bytes_len, List.append_nil, List.append_assoc]
  rfl

set_option maxRecDepth 100000 in
set_option maxHeartbeats 1000000 in
theorem nums_txt (p : Option Addr) (xs : List Int) (n cap : Nat) (hn : xs.length = n) (w : World) (h : lyI.Row w p xs) (h0 : ∀ x ∈ xs, 0 ≤ x ∧ x ≤ 9223372036854775807) (hl : n ≤ 140737488355328) (hL : (listC numC xs []).length ≤ 4611686018427387904) : Calls Tryz.prog 73 #[.slice p n cap] w (TxP (listC numC xs []) w) := by
  have NL := Lib.hid (fun W => num_txt (n : Int) (by omega) (by omega) W)
  have LL : Hid ((numC (n : Int) []).length + (rowC numC xs []).length ≤ 4611686018427387904) := Lib.hid (by
    rw [list_split, List.length_append, hn] at hL
    exact hL)
  clear hL
  go_enter Tryz.func73, Tryz.ntmps73
  go_upto_region 2 with (go_at_call 23; refine (NL.out _).mono ?_; rintro e w1 ⟨z, rfl, hz, hb1⟩; have B1 := Lib.hid hb1; have Z := Lib.hid hz; clear hb1 hz)
  go_wp2_with fail
  go_loopw [3, 4] (fun v a wr => ∃ (i : Nat) (z : ByteArray), i ≤ n ∧ a = .int .i64 i ∧ v = .string z ∧ Hid (bytesOf z = numC (n : Int) [] ++ rowC numC (xs.take i) []) ∧ Hid (Below w.heap.size w wr)) (fun _ a _ => n - (intOf a).toNat)
  case atStart => exact ⟨0, z, by omega, rfl, rfl, Lib.hid (by rw [Z.out]; simp [rowC]), B1⟩
  case round =>
    obtain ⟨i, zz, hi, rfl, rfl, ZZ, B⟩ := hrel
    by_cases hlt : i < n
    · obtain ⟨x, hx⟩ : ∃ x, xs[i]? = some x := ⟨_, List.getElem?_eq_getElem (by omega)⟩
      obtain ⟨b, o, rfl, hat⟩ := h i x hx
      have c := (hat.below B.out) 0 _ rfl
      have c' : wr.cell? ⟨b, o + i, none⟩ = some (.int .i64 x) := by
        rw [show o + i * lyI.sz + 0 = o + i from by show o + i * 1 + 0 = o + i; omega] at c
        exact c
      clear c hat
      have hx0 := h0 x (List.mem_of_getElem? hx)
      have NX := Lib.hid (fun W => num_txt x hx0.1 hx0.2 W)
      have RS := Lib.hid (row_snoc num_app hx)
      have zl : zz.size ≤ 4611686018427387904 := by
        rw [TxP.size ZZ.out, List.length_append]
        exact Nat.le_trans (Nat.add_le_add_left (row_take_len num_app xs i) _) LL.out
      have XL := Lib.hid (num_len hx0.1 hx0.2)
      go_wp2_with (go_at_call 23; refine (NX.out _).mono ?_; rintro e w2 ⟨z2, rfl, hz, hb1⟩; have B2 := Lib.hid hb1; have Z2 := Lib.hid hz; have z2l : z2.size ≤ 20 := (by rw [TxP.size hz]; exact XL.out); clear hb1 hz)
      go_roundw
      case rel => exact ⟨i + 1, _, by omega, by go_num, rfl, Lib.hid (by rw [bytes_app, ZZ.out, Z2.out, RS.out, List.append_assoc]), Lib.hid (B.out.trans (B2.out.mono B.out.size))⟩
      case measure => simp [intOf]; omega
    · go_wp2_with fail
      go_ret
      refine ⟨_, rfl, ?_, B.out⟩
      rw [ZZ.out, List.take_of_length_le (by omega), list_split, hn]

end Go.Proofs.YtjmfjlffcopnnaaGreatDoor

namespace Go.Proofs.YtjmfjlffcopnnaaGreatDoor
open Go.RowKit
open Go.Proofs.YtjmfjlffcopnnaaGreatDoor.K (C RowC PieceAt)

theorem comp_app : App compC := by
  intro x r r'
  unfold compC
  split
  · rw [str_app]; rfl
  split
  · rw [num_app]; rfl
  · rw [num_app]; rfl
/-- What a piece is, that can be packed. -/
def CpP (c : C) : Prop := (c.k = 1 ∧ c.t.size ≤ 140737488355328) ∨ ((c.k = 0 ∨ c.k = 2) ∧ 0 ≤ c.n ∧ c.n ≤ 9223372036854775807)
theorem ltr0 : bytesOf ((⟨#[107, 32, 99]⟩ : ByteArray).extract 0 1) = [107] := by decide +kernel
theorem ltr2 : bytesOf ((⟨#[107, 32, 99]⟩ : ByteArray).extract 2 3) = [99] := by decide +kernel

set_option maxRecDepth 100000 in
set_option maxHeartbeats 2000000 in
theorem comps_txt (p : Option Addr) (cs : List C) (n cap : Nat) (hn : cs.length = n) (w : World) (h : RowC w p cs) (h0 : ∀ c ∈ cs, CpP c) (hl : n ≤ 140737488355328) (hL : (listC compC cs []).length ≤ 4611686018427387904) : Calls Tryz.prog 24 #[.slice p n cap] w (TxP (listC compC cs []) w) := by
  have NL := Lib.hid (fun W => num_txt (n : Int) (by omega) (by omega) W)
  have LL : Hid ((numC (n : Int) []).length + (rowC compC cs []).length ≤ 4611686018427387904) := Lib.hid (by
    rw [list_split, List.length_append, hn] at hL
    exact hL)
  clear hL
  go_enter Tryz.func24, Tryz.ntmps24
  go_upto_region 2 with (go_at_call 23; refine (NL.out _).mono ?_; rintro e w1 ⟨z, rfl, hz, hb1⟩; have B1 := Lib.hid hb1; have Z := Lib.hid hz; clear hb1 hz)
  go_wp2_with fail
  go_loopw [3, 4] (fun v a wr => ∃ (i : Nat) (z : ByteArray), i ≤ n ∧ a = .int .i64 i ∧ v = .string z ∧ Hid (bytesOf z = numC (n : Int) [] ++ rowC compC (cs.take i) []) ∧ Hid (Below w.heap.size w wr)) (fun _ a _ => n - (intOf a).toNat)
  case atStart => exact ⟨0, z, by omega, rfl, rfl, Lib.hid (by rw [Z.out]; simp [rowC]), B1⟩
  case round =>
    obtain ⟨i, zz, hi, rfl, rfl, ZZ, B⟩ := hrel
    by_cases hlt : i < n
    · obtain ⟨x, hx⟩ : ∃ x, cs[i]? = some x := ⟨_, List.getElem?_eq_getElem (by omega)⟩
      obtain ⟨b, o, rfl, hat⟩ := h i x hx
      obtain ⟨c0, c1, c2⟩ := hat.below B.out
      clear hat
      have hx0 := h0 x (List.mem_of_getElem? hx)
      have RS := Lib.hid (row_snoc comp_app hx)
      have zl : zz.size ≤ 4611686018427387904 := by
        rw [TxP.size ZZ.out, List.length_append]
        exact Nat.le_trans (Nat.add_le_add_left (row_take_len comp_app cs i) _) LL.out
      obtain ⟨k, m, t⟩ := x
      dsimp only at c0 c1 c2
      simp only [CpP] at hx0
      rcases hx0 with ⟨rfl, ht⟩ | ⟨hk, hm0, hm1⟩
      · have ST := Lib.hid (fun W => str_txt t (by omega) W)
        have TL := Lib.hid (str_len (bytesOf t) (by rw [bytes_len]; omega))
        go_wp2_with (go_at_call 26; refine (ST.out _).mono ?_; rintro e w2 ⟨z2, rfl, hz, hb1⟩; have B2 := Lib.hid hb1; have Z2 := Lib.hid hz; have z2l : z2.size ≤ 20 + 140737488355328 := (by rw [TxP.size hz]; refine Nat.le_trans TL.out ?_; rw [bytes_len]; omega); clear hb1 hz)
        go_roundw
        case rel => exact ⟨i + 1, _, by omega, by go_num, rfl, Lib.hid (by rw [bytes_app, bytes_app, ZZ.out, Z2.out, RS.out]; simp [compC, bytesOf]), Lib.hid (B.out.trans (B2.out.mono B.out.size))⟩
        case measure => simp [intOf]; omega
      · have NX := Lib.hid (fun W => num_txt m hm0 hm1 W)
        have XL := Lib.hid (num_len hm0 hm1)
        have c0' : ∀ W, Bl wr W → W.cell? ⟨b, o + i * 3, none⟩ = some (.int .i64 k) := fun W hW => hW.cell c0
        have c1' : ∀ W, Bl wr W → W.cell? ⟨b, o + i * 3 + 1, none⟩ = some (.int .i64 m) := fun W hW => hW.cell c1
        have hi0 : (0 : Int) ≤ (i : Int) := by omega
        have hi1 : (i : Int) < (n : Int) := by omega
        have hk1 : ((k : Int) == 1) = false := by rcases hk with rfl | rfl <;> rfl
        have S00 := Bl.refl wr
        go_upto_region 7 with fail
        have z1l : ¬ 9223372036854775807 < zz.size + 1 := by omega
        have v0 : IntKind.i64.wrap 0 = 0 := by rfl
        have v1 : IntKind.i64.wrap 1 = 1 := by rfl
        have v2 : IntKind.i64.wrap 2 = 2 := by rfl
        have v3 : IntKind.i64.wrap 3 = 3 := by rfl
        rcases hk with rfl | rfl
        · have a4 : (0 : Int).tdiv 2 = 0 := by rfl
          go_region_held3 (fun W => Bl wr W) ((repeat (first | with_reducible assumption | with_reducible refine Bl.alloc ?_ _ | with_reducible refine Bl.drew ?_ | (with_reducible refine Bl.set ?_ ?h _; case h => omega))))
            (first | (go_at_call 23; refine (NX.out _).mono ?_; rintro e w2 ⟨z2, rfl, hz, hb1⟩; have B2 : Bl wr w2 := Bl.call (by (repeat (first | with_reducible assumption | with_reducible refine Bl.drew ?_))) hb1; have Z2 := Lib.hid hz; have z2l : z2.size ≤ 20 := (by rw [TxP.size hz]; exact XL.out); have zl3 : ¬ 9223372036854775807 < zz.size + 1 + z2.size := (by omega); clear hb1 hz) | fail)
          all_goals
            go_wp2_with fail
            go_roundw
            case rel => exact ⟨i + 1, _, by omega, by go_num, rfl, Lib.hid (by rw [bytes_app, bytes_app, ZZ.out, Z2.out, RS.out, ltr0, List.append_assoc, List.append_assoc]; rfl), Lib.hid (B.out.trans (Below.mono B2 B.out.size))⟩
            case measure => simp [intOf]; omega
        · have a4 : (2 : Int).tdiv 2 = 1 := by rfl
          go_region_held3 (fun W => Bl wr W) ((repeat (first | with_reducible assumption | with_reducible refine Bl.alloc ?_ _ | with_reducible refine Bl.drew ?_ | (with_reducible refine Bl.set ?_ ?h _; case h => omega))))
            (first | (go_at_call 23; refine (NX.out _).mono ?_; rintro e w2 ⟨z2, rfl, hz, hb1⟩; have B2 : Bl wr w2 := Bl.call (by (repeat (first | with_reducible assumption | with_reducible refine Bl.drew ?_))) hb1; have Z2 := Lib.hid hz; have z2l : z2.size ≤ 20 := (by rw [TxP.size hz]; exact XL.out); have zl3 : ¬ 9223372036854775807 < zz.size + 1 + z2.size := (by omega); clear hb1 hz) | fail)
          all_goals
            go_wp2_with fail
            go_roundw
            case rel => exact ⟨i + 1, _, by omega, by go_num, rfl, Lib.hid (by rw [bytes_app, bytes_app, ZZ.out, Z2.out, RS.out, ltr2, List.append_assoc, List.append_assoc]; rfl), Lib.hid (B.out.trans (Below.mono B2 B.out.size))⟩
            case measure => simp [intOf]; omega
    · go_wp2_with fail
      go_ret
      refine ⟨_, rfl, ?_, B.out⟩
      rw [ZZ.out, List.take_of_length_le (by omega), list_split, hn]

end Go.Proofs.YtjmfjlffcopnnaaGreatDoor

namespace Go.Proofs.YtjmfjlffcopnnaaGreatDoor
open Go.RowKit
open Go.Proofs.YtjmfjlffcopnnaaGreatDoor.K (C RowC PieceAt)

theorem node_app : App nodeC := by
  intro x r r'
  unfold nodeC
  rw [list_app num_app, num_app, num_app, num_app, num_app]
/-- What a node is, that can be packed. -/
def NmP (x : Int) : Prop := 0 ≤ x ∧ x ≤ 9223372036854775807
def NdP (x : Nd) : Prop := NmP x.id ∧ NmP x.kd ∧ NmP x.fr ∧ NmP (Nd.to x) ∧ (∀ k ∈ x.kids, NmP k) ∧ x.kids.length ≤ 140737488355328
theorem node_split (x : Nd) : nodeC x [] = numC x.id [] ++ (numC x.kd [] ++ (numC x.fr [] ++ (numC (Nd.to x) [] ++ listC numC x.kids []))) := by
  unfold nodeC
  rw [num_app.nil x.id, num_app.nil x.kd, num_app.nil x.fr, num_app.nil (Nd.to x)]
theorem row_elem_len {α : Type} {f : α → List UInt8 → List UInt8} (hf : App f) {xs : List α} {i : Nat} {x : α} (h : xs[i]? = some x) : (rowC f (xs.take i) []).length + (f x []).length ≤ (rowC f xs []).length := by
  have h1 := row_take_len hf xs (i + 1)
  rw [row_snoc hf h, List.length_append] at h1
  exact h1

set_option maxRecDepth 100000 in
set_option maxHeartbeats 4000000 in
theorem tree_txt (root next : Int) (p : Option Addr) (ns : List Nd) (n cap : Nat) (hn : ns.length = n) (w : World) (h : NodesR w p ns) (hr : NmP root) (hx : NmP next) (h0 : ∀ x ∈ ns, NdP x) (hl : n ≤ 140737488355328) (hL : (treeC root next ns []).length ≤ 4611686018427387904) : Calls Tryz.prog 27 #[trV root next p n cap] w (TxP (treeC root next ns []) w) := by
  have TS : treeC root next ns [] = numC root [] ++ (numC next [] ++ (numC (n : Int) [] ++ rowC nodeC ns [])) := by
    unfold treeC
    rw [num_app.nil root, num_app.nil next, list_split, hn]
  have LL : Hid ((numC root []).length + (numC next []).length + (numC (n : Int) []).length + (rowC nodeC ns []).length ≤ 4611686018427387904) := Lib.hid (by
    rw [TS] at hL
    simp only [List.length_append] at hL
    omega)
  have N1 := Lib.hid (fun W => num_txt root hr.1 hr.2 W)
  have N2 := Lib.hid (fun W => num_txt next hx.1 hx.2 W)
  have N3 := Lib.hid (fun W => num_txt (n : Int) (by omega) (by omega) W)
  have E1 := Lib.hid (num_len hr.1 hr.2)
  have E2 := Lib.hid (num_len hx.1 hx.2)
  have E3 := Lib.hid (num_len (n := (n : Int)) (by omega) (by omega))
  have R := Lib.hid h; have HN := Lib.hid hn; have H0 := Lib.hid h0; have TS' := Lib.hid TS
  clear h hn h0 hL TS hr hx
  unfold trV
  go_enter Tryz.func27, Tryz.ntmps27
  go_upto_region 1 with fail
  have X0 : Hid ((w.alloc (.cells #[.int .i64 root, .int .i64 next, .slice p n cap] 26)).heap[w.heap.size]? = some (.cells #[.int .i64 root, .int .i64 next, .slice p n cap] 26 (0, 0))) := Lib.hid (heap_alloc_new w _)
  have B0 : Hid (Bl w (w.alloc (.cells #[.int .i64 root, .int .i64 next, .slice p n cap] 26))) := Lib.hid (Bl.alloc (Bl.refl w) _)
  generalize w.alloc (.cells #[.int .i64 root, .int .i64 next, .slice p n cap] 26) = w1 at X0 B0 ⊢
  generalize hxb : w.heap.size = xb at X0 ⊢
  clear hxb
  have q0 : ∀ W, Bl w1 W → W.cell? ⟨xb, 0, none⟩ = some (.int .i64 root) := fun W hW => hW.cell ((obj_cells X0.out).1 0 _ rfl)
  have q1 : ∀ W, Bl w1 W → W.cell? ⟨xb, 1, none⟩ = some (.int .i64 next) := fun W hW => hW.cell ((obj_cells X0.out).1 1 _ rfl)
  have q2 : ∀ W, Bl w1 W → W.cell? ⟨xb, 2, none⟩ = some (.slice p n cap) := fun W hW => hW.cell ((obj_cells X0.out).1 2 _ rfl)
  go_cut [3] (fun v wx => ∃ z : ByteArray, v = .string z ∧ bytesOf z = numC root [] ++ (numC next [] ++ numC (n : Int) []) ∧ Bl w1 wx)
  case first =>
    have S00 := Bl.refl w1
    go_region_held3 (fun W => Bl w1 W) ((repeat (first | with_reducible assumption | with_reducible refine Bl.alloc ?_ _ | with_reducible refine Bl.drew ?_ | (with_reducible refine Bl.set ?_ ?h _; case h => omega))))
      (first | (go_at_call 23; refine (N1.out _).mono ?_; rintro e w11 ⟨z1, rfl, hz, hb1⟩; have B11 : Bl w1 w11 := Bl.call (by (repeat (first | with_reducible assumption | with_reducible refine Bl.drew ?_))) hb1; have Z1 := Lib.hid hz; have l1 : z1.size ≤ 20 := (by rw [TxP.size hz]; exact E1.out); clear hb1 hz) | (go_at_call 23; refine (N2.out _).mono ?_; rintro e w12 ⟨z2, rfl, hz, hb1⟩; have B12 : Bl w1 w12 := Bl.call (by (repeat (first | with_reducible assumption | with_reducible refine Bl.drew ?_))) hb1; have Z2 := Lib.hid hz; have l2 : z2.size ≤ 20 := (by rw [TxP.size hz]; exact E2.out); have s2 : ¬ 9223372036854775807 < z1.size + z2.size := (by omega); clear hb1 hz) | (go_at_call 23; refine (N3.out _).mono ?_; rintro e w13 ⟨z3, rfl, hz, hb1⟩; have B13 : Bl w1 w13 := Bl.call (by (repeat (first | with_reducible assumption | with_reducible refine Bl.drew ?_))) hb1; have Z3 := Lib.hid hz; have l3 : z3.size ≤ 20 := (by rw [TxP.size hz]; exact E3.out); have s3 : ¬ 9223372036854775807 < z1.size + z2.size + z3.size := (by omega); clear hb1 hz) | fail)
    all_goals
      go_wp2_with fail
      go_meet
      refine ⟨_, rfl, ?_, by assumption⟩
      rw [bytes_app, bytes_app, Z1.out, Z2.out, Z3.out, List.append_assoc]
  case rest =>
    obtain ⟨z, rfl, hz, hbx⟩ := hcut
    have Z := Lib.hid hz; have BX := Lib.hid hbx
    clear hz hbx
    go_wp2_with fail
    go_loopw [3, 4] (fun v a wr => ∃ (i : Nat) (z : ByteArray), i ≤ n ∧ a = .int .i64 i ∧ v = .string z ∧ Hid (bytesOf z = (numC root [] ++ (numC next [] ++ numC (n : Int) [])) ++ rowC nodeC (ns.take i) []) ∧ Hid (Bl w1 wr)) (fun _ a _ => n - (intOf a).toNat)
    case atStart => exact ⟨0, z, by omega, rfl, rfl, Lib.hid (by rw [Z.out]; simp [rowC]), BX⟩
    case round =>
      obtain ⟨i, zz, hi, rfl, rfl, ZZ, B⟩ := hrel
      have c2 := q2 _ B.out
      by_cases hlt : i < n
      · obtain ⟨x, hx⟩ : ∃ x, ns[i]? = some x := ⟨_, List.getElem?_eq_getElem (by rw [HN.out]; exact hlt)⟩
        obtain ⟨ab, ao, kp, kc, rfl, hat, hrow⟩ := R.out i x hx
        have b1 : Bl w wr := B0.out.trans (Below.mono B.out B0.out.size)
        have m1 := hat.below b1
        have n0 : wr.cell? ⟨ab, ao + i * 5, none⟩ = some (.int .i64 x.id) := m1 0 _ rfl
        have n1 : wr.cell? ⟨ab, ao + i * 5 + 1, none⟩ = some (.int .i64 x.kd) := m1 1 _ rfl
        have n2 : wr.cell? ⟨ab, ao + i * 5 + 2, none⟩ = some (.int .i64 x.fr) := m1 2 _ rfl
        have n3 : wr.cell? ⟨ab, ao + i * 5 + 3, none⟩ = some (.int .i64 (Nd.to x)) := m1 3 _ rfl
        have n4 : wr.cell? ⟨ab, ao + i * 5 + 4, none⟩ = some (.slice kp x.kids.length kc) := m1 4 _ rfl
        have ROW := Lib.hid (hrow.below b1)
        obtain ⟨p0, p1, p2, p3, p4, p5⟩ := H0.out x (List.mem_of_getElem? hx)
        have RS := Lib.hid (row_snoc node_app hx)
        have RL := Lib.hid (row_elem_len node_app hx)
        rw [node_split] at RS RL
        have hi0 : (0 : Int) ≤ (i : Int) := by omega
        have hi1 : (i : Int) < (n : Int) := by omega
        clear m1 hat hrow hx b1
        obtain ⟨xid, xkd, xfr, xto, xks⟩ := x
        dsimp only at n0 n1 n2 n3 n4 ROW p0 p1 p2 p3 p4 p5 RS RL
        obtain ⟨K, hK⟩ : ∃ K, (listC numC xks []).length = K := ⟨_, rfl⟩
        have hz : zz.size + K ≤ 4611686018427387904 := by
          have h1 := RL.out
          have h2 := LL.out
          rw [TxP.size ZZ.out]
          simp only [List.length_append] at h1 ⊢
          omega
        obtain ⟨kn, hkl⟩ : ∃ kn, xks.length = kn := ⟨_, rfl⟩
        rw [hkl] at n4 p5
        have M1 := Lib.hid (fun W => num_txt xid p0.1 p0.2 W)
        have M2 := Lib.hid (fun W => num_txt xkd p1.1 p1.2 W)
        have M3 := Lib.hid (fun W => num_txt xfr p2.1 p2.2 W)
        have M4 := Lib.hid (fun W => num_txt xto p3.1 p3.2 W)
        have M5 : Hid (∀ W, Bl wr W → Calls Tryz.prog 73 #[.slice kp kn kc] W (TxP (listC numC xks []) W)) := Lib.hid (fun W hW => nums_txt kp xks kn kc hkl W (ROW.out.below hW) p4 p5 (by rw [hK]; omega))
        have F1 := Lib.hid (num_len p0.1 p0.2)
        have F2 := Lib.hid (num_len p1.1 p1.2)
        have F3 := Lib.hid (num_len p2.1 p2.2)
        have F4 := Lib.hid (num_len p3.1 p3.2)
        have F5 := Lib.hid hK
        clear p0 p1 p2 p3 p4 hkl hK
        go_upto_region 6 with fail
        have X1 : Hid ((wr.alloc (.cells #[.int .i64 xid, .int .i64 xkd, .int .i64 xfr, .int .i64 xto, .slice kp kn kc] 109)).heap[wr.heap.size]? = some (.cells #[.int .i64 xid, .int .i64 xkd, .int .i64 xfr, .int .i64 xto, .slice kp kn kc] 109 (0, 0))) := Lib.hid (heap_alloc_new wr _)
        have B1 : Hid (Bl wr (wr.alloc (.cells #[.int .i64 xid, .int .i64 xkd, .int .i64 xfr, .int .i64 xto, .slice kp kn kc] 109))) := Lib.hid (Bl.alloc (Bl.refl wr) _)
        clear n0 n1 n2 n3 n4 c2
        generalize wr.alloc (.cells #[.int .i64 xid, .int .i64 xkd, .int .i64 xfr, .int .i64 xto, .slice kp kn kc] 109) = w5 at X1 B1 ⊢
        generalize hyb : wr.heap.size = yb at X1 ⊢
        clear hyb
        have r0 : ∀ W, Bl w5 W → W.cell? ⟨yb, 0, none⟩ = some (.int .i64 xid) := fun W hW => hW.cell ((obj_cells X1.out).1 0 _ rfl)
        have r1 : ∀ W, Bl w5 W → W.cell? ⟨yb, 1, none⟩ = some (.int .i64 xkd) := fun W hW => hW.cell ((obj_cells X1.out).1 1 _ rfl)
        have r2 : ∀ W, Bl w5 W → W.cell? ⟨yb, 2, none⟩ = some (.int .i64 xfr) := fun W hW => hW.cell ((obj_cells X1.out).1 2 _ rfl)
        have r3 : ∀ W, Bl w5 W → W.cell? ⟨yb, 3, none⟩ = some (.int .i64 xto) := fun W hW => hW.cell ((obj_cells X1.out).1 3 _ rfl)
        have r4 : ∀ W, Bl w5 W → W.cell? ⟨yb, 4, none⟩ = some (.slice kp kn kc) := fun W hW => hW.cell ((obj_cells X1.out).1 4 _ rfl)
        have M6 : Hid (∀ W, Bl w5 W → Calls Tryz.prog 73 #[.slice kp kn kc] W (TxP (listC numC xks []) W)) := Lib.hid (fun W hW => M5.out W (B1.out.trans (Below.mono hW B1.out.size)))
        have S00 := Bl.refl w5
        go_region_held3 (fun W => Bl w5 W) ((repeat (first | with_reducible assumption | with_reducible refine Bl.alloc ?_ _ | with_reducible refine Bl.drew ?_ | (with_reducible refine Bl.set ?_ ?h _; case h => omega))))
          (first | (go_at_call 23; refine (M1.out _).mono ?_; rintro e w11 ⟨z1, rfl, hz, hb1⟩; have B11 : Bl w5 w11 := Bl.call (by (repeat (first | with_reducible assumption | with_reducible refine Bl.drew ?_))) hb1; have Z1 := Lib.hid hz; have l1 : z1.size ≤ 20 := (by rw [TxP.size hz]; exact F1.out); have s1 : ¬ 9223372036854775807 < zz.size + z1.size := (by omega); clear hb1 hz) | (go_at_call 23; refine (M2.out _).mono ?_; rintro e w12 ⟨z2, rfl, hz, hb1⟩; have B12 : Bl w5 w12 := Bl.call (by (repeat (first | with_reducible assumption | with_reducible refine Bl.drew ?_))) hb1; have Z2 := Lib.hid hz; have l2 : z2.size ≤ 20 := (by rw [TxP.size hz]; exact F2.out); have s2 : ¬ 9223372036854775807 < zz.size + z1.size + z2.size := (by omega); clear hb1 hz) | (go_at_call 23; refine (M3.out _).mono ?_; rintro e w13 ⟨z3, rfl, hz, hb1⟩; have B13 : Bl w5 w13 := Bl.call (by (repeat (first | with_reducible assumption | with_reducible refine Bl.drew ?_))) hb1; have Z3 := Lib.hid hz; have l3 : z3.size ≤ 20 := (by rw [TxP.size hz]; exact F3.out); have s3 : ¬ 9223372036854775807 < zz.size + z1.size + z2.size + z3.size := (by omega); clear hb1 hz) | (go_at_call 23; refine (M4.out _).mono ?_; rintro e w14 ⟨z4, rfl, hz, hb1⟩; have B14 : Bl w5 w14 := Bl.call (by (repeat (first | with_reducible assumption | with_reducible refine Bl.drew ?_))) hb1; have Z4 := Lib.hid hz; have l4 : z4.size ≤ 20 := (by rw [TxP.size hz]; exact F4.out); have s4 : ¬ 9223372036854775807 < zz.size + z1.size + z2.size + z3.size + z4.size := (by omega); clear hb1 hz) | (go_at_call 73; refine (M6.out _ (by (repeat (first | with_reducible assumption | with_reducible refine Bl.drew ?_)))).mono ?_; rintro e w15 ⟨z5, rfl, hz, hb1⟩; have B15 : Bl w5 w15 := Bl.call (by (repeat (first | with_reducible assumption | with_reducible refine Bl.drew ?_))) hb1; have Z5 := Lib.hid hz; have l5 : z5.size ≤ K := (by rw [TxP.size hz]; exact Nat.le_of_eq F5.out); have s5 : ¬ 9223372036854775807 < zz.size + z1.size + z2.size + z3.size + z4.size + z5.size := (by omega); clear hb1 hz) | fail)
        all_goals
          go_wp2_with fail
          go_roundw
          case rel => exact ⟨i + 1, _, by omega, by go_num, rfl, Lib.hid (by rw [bytes_app, bytes_app, bytes_app, bytes_app, bytes_app, ZZ.out, Z1.out, Z2.out, Z3.out, Z4.out, Z5.out, RS.out]; simp only [List.append_assoc]), Lib.hid (B.out.trans (Below.mono (B1.out.trans (Below.mono (by assumption) B1.out.size)) B.out.size))⟩
          case measure => simp [intOf]; omega
      · go_wp2_with fail
        go_ret
        refine ⟨_, rfl, ?_, B0.out.trans (Below.mono B.out B0.out.size)⟩
        rw [ZZ.out, List.take_of_length_le (by rw [HN.out]; omega), TS'.out]
        simp only [List.append_assoc]

end Go.Proofs.YtjmfjlffcopnnaaGreatDoor
