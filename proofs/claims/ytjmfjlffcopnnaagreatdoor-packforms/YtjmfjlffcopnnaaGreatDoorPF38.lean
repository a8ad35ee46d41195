/-
  Pb, Pc, in one text. Conditions: as each theorem's premises say.
-/
import Derived.Test.YtjmfjlffcopnnaaGreatDoorPF37
import Derived.Test.YtjmfjlffcopnnaaGreatDoorPF20
namespace Go.Proofs.YtjmfjlffcopnnaaGreatDoor
open Go.RowKit

theorem PX.stop {w : World} {B pb : Nat} {e : List UInt8} (h : PX w B pb e) (ho : 1000000 < e.length) (x : List UInt8) : PX w B pb (e ++ x) := by
  obtain ⟨l, hs, hp⟩ := h
  refine ⟨l, hs.stop ?_ x, hp⟩
  rcases hs.2 with rfl | h
  · exact ho
  · exact h.1
theorem PW.form {w : World} {B pb : Nat} {l : List UInt8} (h : PW w B pb l) : ∃ p cap, w.heap[pb]? = some (.cells #[.slice p l.length cap] 63 (0, 0)) ∧ w.ownsRow B 5 1 (.slice p l.length cap) l.length (Lib.byteCells l) := by
  obtain ⟨v, h1, h2⟩ := h.box
  generalize l.length = n at h2 ⊢
  rcases h2.2 with ⟨rfl, rfl⟩ | ⟨g, cap, cur, rfl, _⟩
  · exact ⟨none, 0, h1, h2⟩
  · exact ⟨_, cap, h1, h2⟩
theorem ownsB_form {w : World} {B : Nat} {v : Value} {n : Nat} {xs : List Value} (h : w.ownsRow B 5 1 v n xs) : ∃ p cap, v = .slice p n cap := by
  rcases h.2 with ⟨rfl, rfl⟩ | ⟨g, cap, cur, rfl, _⟩
  · exact ⟨none, 0, rfl⟩
  · exact ⟨_, cap, rfl⟩

set_option maxRecDepth 100000 in
set_option maxHeartbeats 4000000 in
theorem pover_any (B pb : Nat) (e : List UInt8) (w : World) (h : PX w B pb e) : Calls Tryz.prog 22 #[.pointer (some ⟨pb, 0, none⟩)] w (fun en w' => en = .returned (.bool (decide (1000000 < e.length))) ∧ w' = w) := by
  obtain ⟨l, hs, hp⟩ := h
  have hd : 1000000 < l.length ↔ 1000000 < e.length := by
    rcases hs.2 with rfl | h
    · exact Iff.rfl
    · exact ⟨fun _ => h.2, fun _ => h.1⟩
  obtain ⟨p, cap, h1, _⟩ := hp.form
  have c0 := (obj_cells h1).1 0 _ rfl
  clear h1 hp hs
  generalize l.length = N at hd c0
  by_cases hg : 1000000 < N
  · have hg1 : (1000000 : Int) < (N : Int) := by omega
    rw [decide_eq_true (hd.1 hg)]
    clear hd hg
    go_enter Tryz.func22, Tryz.ntmps22
    go_wp2_with fail
    go_ret
    exact ⟨rfl, rfl⟩
  · have hg1 : ¬ (1000000 : Int) < (N : Int) := by omega
    rw [decide_eq_false (fun h => hg (hd.2 h))]
    clear hd hg
    go_enter Tryz.func22, Tryz.ntmps22
    go_wp2_with fail
    go_ret
    exact ⟨rfl, rfl⟩

set_option maxRecDepth 100000 in
set_option maxHeartbeats 4000000 in
theorem plet_any (c : UInt8) (B pb : Nat) (e : List UInt8) (w : World) (h : PX w B pb e) (hz : (e ++ [c]).length ≤ 70368744177664) : Calls Tryz.prog 62 #[.pointer (some ⟨pb, 0, none⟩), .int .u8 c.toNat] w (PutS B pb (e ++ [c]) w) := by
  obtain ⟨i0, hi, hz0, hz1, hz2⟩ := info_parts info5
  obtain ⟨l, hs, hp⟩ := h
  have HS := Lib.hid hs
  have HP := Lib.hid hp
  obtain ⟨v, h1, h2⟩ := hp.box
  have hl2 : l.length + 1 ≤ 70368744177664 := by have := hs.1; simp only [List.length_append, List.length_singleton] at hz; omega
  have O := Lib.hid h2
  have HB := Lib.hid hp.size
  have c0 := (obj_cells h1).1 0 _ rfl
  clear h1 h2 hs hp hz
  generalize hN : l.length = N at O hl2
  have HN := Lib.hid hN
  clear hN
  go_enter Tryz.func62, Tryz.ntmps62
  go_wp2_with (at_builtin; refine wpList_append_all _ rfl _ _ 61 rfl B 5 i0 _ 1 1 Tryz.underlying61 hi hz0 hz1 hz2 rfl (by decide) v N (Lib.byteCells l) rfl (World.ownsRow.alloc O.out _) (some ⟨w.heap.size, 0, none⟩) 1 1 [.int .u8 c.toNat] rfl rfl (fun e => by cases e) (fun ad hp => by cases hp; exact World.news_of_block (heap_alloc_new w _)) (fun u hu => by simp at hu; subst hu; rfl) (by unfold maxLen; omega) (by omega) (Nat.le_trans HB.out (by simp)) (N + 1) rfl ?_; intro p5 cap5 w5 hown5 hgrow5 hblk5; have EN : (l ++ [c]).length = N + 1 := (by simp only [List.length_append, List.length_singleton, HN.out]); have ST := Lib.hid (putter_step (l' := l ++ [c]) HP.out ((Below.refl B w).alloc HB.out _) (Lib.OthersKept.alloc (Lib.OthersKept.refl 5 none w) _) (World.ownsRow.alloc O.out _) hgrow5 (by rw [EN, bytes_app2]; exact hown5)); obtain ⟨v0, hb0⟩ := ST.out.1; have d0 := (obj_cells hb0).1 0 _ rfl; have df := (obj_cells hb0).2.1 0; clear hown5 hgrow5 hblk5 hb0 EN)
  refine bodyPost_ret (results_none rfl _ _ _) rfl ?_
  exact ⟨rfl, ⟨l ++ [c], HS.out.app _, ST.out.2.1⟩, ST.out.2.2⟩

set_option maxRecDepth 100000 in
set_option maxHeartbeats 4000000 in
theorem pnum_any (x : Int) (hx : NmP x) (B pb : Nat) (e : List UInt8) (w : World) (h : PX w B pb e) (hz : (e ++ numC x []).length ≤ 70368744177664) : Calls Tryz.prog 64 #[.pointer (some ⟨pb, 0, none⟩), .int .i64 x] w (PutS B pb (e ++ numC x []) w) := by
  obtain ⟨n, rfl⟩ : ∃ n : Nat, x = n := ⟨x.toNat, by have := hx.1; omega⟩
  have P : Hid (Calls Tryz.prog 106 #[.pointer (some ⟨pb, 0, none⟩), .int .i64 n, .int .u8 44] w (PutS B pb (e ++ numC n []) w)) := Lib.hid (pdig_any n (by have := hx.2; omega) 44 B pb e w h hz)
  clear h hz hx
  generalize e ++ numC n [] = E at P ⊢
  go_enter Tryz.func64, Tryz.ntmps64
  go_wp2_with (go_at_call 106; refine P.out.mono ?_; rintro e w1 ⟨rfl, h1, h2⟩; have S1 := Lib.hid h1; have K1 := Lib.hid h2; clear h1 h2)
  refine bodyPost_ret (results_none rfl _ _ _) rfl ?_
  exact ⟨rfl, S1.out, K1.out⟩

set_option maxRecDepth 100000 in
set_option maxHeartbeats 4000000 in
theorem ptru_any (b : Bool) (B pb : Nat) (e : List UInt8) (w : World) (h : PX w B pb e) (hz : (e ++ numC (if b then 1 else 0) []).length ≤ 70368744177664) : Calls Tryz.prog 69 #[.pointer (some ⟨pb, 0, none⟩), .bool b] w (PutS B pb (e ++ numC (if b then 1 else 0) []) w) := by
  have P := Lib.hid (pnum_any (if b then 1 else 0) (by cases b <;> exact ⟨by decide, by decide⟩) B pb e w h hz)
  clear h hz
  generalize e ++ numC (if b then 1 else 0) [] = E at P ⊢
  cases b
  · have P2 : Hid (Calls Tryz.prog 64 #[.pointer (some ⟨pb, 0, none⟩), .int .i64 0] w (PutS B pb E w)) := P
    clear P
    go_enter Tryz.func69, Tryz.ntmps69
    go_wp2_with (go_at_call 64; refine P2.out.mono ?_; rintro e w1 ⟨rfl, h1, h2⟩; have S1 := Lib.hid h1; have K1 := Lib.hid h2; clear h1 h2)
    refine bodyPost_ret (results_none rfl _ _ _) rfl ?_
    exact ⟨rfl, S1.out, K1.out⟩
  · have P2 : Hid (Calls Tryz.prog 64 #[.pointer (some ⟨pb, 0, none⟩), .int .i64 1] w (PutS B pb E w)) := P
    clear P
    go_enter Tryz.func69, Tryz.ntmps69
    go_wp2_with (go_at_call 64; refine P2.out.mono ?_; rintro e w1 ⟨rfl, h1, h2⟩; have S1 := Lib.hid h1; have K1 := Lib.hid h2; clear h1 h2)
    refine bodyPost_ret (results_none rfl _ _ _) rfl ?_
    exact ⟨rfl, S1.out, K1.out⟩

set_option maxRecDepth 100000 in
set_option maxHeartbeats 4000000 in
theorem pnums_any (xs : List Int) (p : Option Addr) (n cap : Nat) (hn : xs.length = n) (hx : ∀ x ∈ xs, NmP x) (B pb : Nat) (e : List UInt8) (w : World) (h : PX w B pb e) (hr : ∀ W, Keep B pb w W → lyI.Row W p xs) (hl : n ≤ 140737488355328) (hz : (e ++ rowC numC xs []).length ≤ 70368744177664) : Calls Tryz.prog 63 #[.pointer (some ⟨pb, 0, none⟩), .slice p n cap] w (PutS B pb (e ++ rowC numC xs []) w) := by
  have HR := Lib.hid hr; have HX := Lib.hid hx; have HZ := Lib.hid hz; have H := Lib.hid h; have HN := Lib.hid hn
  clear hr hx hz h hn
  go_enter Tryz.func63, Tryz.ntmps63
  go_wp2_with fail
  go_loopw [8, 5] (fun a _ wr => ∃ i : Nat, i ≤ n ∧ a = .int .i64 i ∧ Hid (PX wr B pb (e ++ rowC numC (xs.take i) [])) ∧ Hid (Keep B pb w wr)) (fun a _ _ => n - (intOf a).toNat)
  case atStart => exact ⟨0, by omega, rfl, Lib.hid (by simpa [rowC] using H.out), Lib.hid (Keep.refl _ _ _)⟩
  case round =>
    obtain ⟨i, hi, rfl, X, K⟩ := hrel
    by_cases hlt : i < n
    · obtain ⟨x, hx⟩ : ∃ x, xs[i]? = some x := ⟨_, List.getElem?_eq_getElem (by rw [HN.out]; exact hlt)⟩
      obtain ⟨b, o, rfl, hat⟩ := HR.out wr K.out i x hx
      have c := hat 0 _ rfl
      have c' : wr.cell? ⟨b, o + i, none⟩ = some (.int .i64 x) := by
        rw [show o + i * lyI.sz + 0 = o + i from by show o + i * 1 + 0 = o + i; omega] at c
        exact c
      clear c hat
      have RS : Hid ((e ++ rowC numC (xs.take i) []) ++ numC x [] = e ++ rowC numC (xs.take (i + 1)) []) := Lib.hid (by rw [row_snoc num_app hx, List.append_assoc])
      have NX := Lib.hid (pnum_any x (HX.out x (List.mem_of_getElem? hx)) B pb (e ++ rowC numC (xs.take i) []) wr X.out (by
        rw [RS.out, List.length_append]
        have h1 := row_take_len num_app xs (i + 1)
        have h2 := HZ.out
        rw [List.length_append] at h2
        omega))
      rw [RS.out] at NX
      clear hx RS
      generalize hE : e ++ rowC numC (xs.take (i + 1)) [] = E at NX
      have HE := Lib.hid hE
      clear hE
      go_wp2_with (go_at_call 64; refine NX.out.mono ?_; rintro e w2 ⟨rfl, h1, h2⟩; have X2 := Lib.hid h1; have K2 := Lib.hid h2; clear h1 h2)
      go_roundw
      case rel => exact ⟨i + 1, by omega, by go_num, by rw [HE.out]; exact X2, Lib.hid (K.out.trans K2.out)⟩
      case measure => simp [intOf]; omega
    · go_wp2_with fail
      refine bodyPost_ret (results_none rfl _ _ _) rfl ?_
      refine ⟨rfl, ?_, K.out⟩
      have := X.out
      rwa [List.take_of_length_le (by rw [HN.out]; omega)] at this

set_option maxRecDepth 100000 in
set_option maxHeartbeats 4000000 in
theorem ptxt_any (z : ByteArray) (B pb : Nat) (e : List UInt8) (w : World) (h : PX w B pb e) (hz : (e ++ strC (bytesOf z) []).length ≤ 70368744177664) : Calls Tryz.prog 70 #[.pointer (some ⟨pb, 0, none⟩), .string z] w (PutS B pb (e ++ strC (bytesOf z) []) w) := by
  obtain ⟨i0, hi, hz0, hz1, hz2⟩ := info_parts info5
  have e1 : strC (bytesOf z) [] = (decL z.size ++ [58]) ++ bytesOf z := by
    unfold strC
    rw [bytes_len, List.append_nil, List.append_assoc]
    rfl
  rw [e1, ← List.append_assoc] at hz ⊢
  have hzs : z.size ≤ 70368744177664 := by
    rw [List.length_append, bytes_len] at hz
    omega
  have P : Hid (Calls Tryz.prog 106 #[.pointer (some ⟨pb, 0, none⟩), .int .i64 z.size, .int .u8 58] w (PutS B pb (e ++ (decL z.size ++ [58])) w)) := Lib.hid (pdig_any z.size (by omega) 58 B pb e w h (by rw [List.length_append] at hz; omega))
  clear h e1
  generalize e ++ (decL z.size ++ [58]) = E at P hz ⊢
  go_enter Tryz.func70, Tryz.ntmps70
  go_upto_region 1 with (go_at_call 106; refine P.out.mono ?_; rintro e w1 ⟨rfl, h1, h2⟩; have X1 := Lib.hid h1; have K1 := Lib.hid h2; clear h1 h2)
  obtain ⟨l, hs, hp⟩ := X1.out
  have HS := Lib.hid hs
  have HP := Lib.hid hp
  obtain ⟨v, h1, h2⟩ := hp.box
  have hl2 : l.length + z.size ≤ 70368744177664 := by have := hs.1; rw [List.length_append, bytes_len] at hz; omega
  have O := Lib.hid h2
  have HB := Lib.hid hp.size
  have c0 := (obj_cells h1).1 0 _ rfl
  clear h1 h2 hs hp hz P X1
  generalize hN : l.length = N at O hl2
  have HN := Lib.hid hN
  clear hN
  go_wp2_with (at_builtin; refine Lib.wpList_append_own_string _ rfl _ _ 61 9 rfl B 5 i0 Tryz.underlying61 Tryz.underlying9 hi hz0 hz1 hz2 v N (Lib.byteCells l) rfl O.out z rfl (by unfold maxLen; omega) (by omega) HB.out ?_; intro v5 w5 hown5 hgrow5 hblk5; obtain ⟨p5, cap5, rfl⟩ := ownsB_form hown5; have EN : (l ++ bytesOf z).length = N + z.size := (by rw [List.length_append, bytes_len, HN.out]); have ST := Lib.hid (putter_step (l' := l ++ bytesOf z) HP.out (Below.refl B w1) (Lib.OthersKept.refl 5 none w1) O.out hgrow5 (by rw [EN, bytes_app2]; exact hown5)); obtain ⟨v0, hb0⟩ := ST.out.1; have d0 := (obj_cells hb0).1 0 _ rfl; have df := (obj_cells hb0).2.1 0; clear hown5 hgrow5 hblk5 hb0 EN)
  refine bodyPost_ret (results_none rfl _ _ _) rfl ?_
  exact ⟨rfl, ⟨l ++ bytesOf z, HS.out.app _, ST.out.2.1⟩, K1.out.trans ST.out.2.2⟩

end Go.Proofs.YtjmfjlffcopnnaaGreatDoor

namespace Go.Proofs.YtjmfjlffcopnnaaGreatDoor
open Go.RowKit
open Go.Proofs.YtjmfjlffcopnnaaGreatDoor.K (C RowC PieceAt)

theorem row_cut {α : Type} {f : α → List UInt8 → List UInt8} (hf : App f) (xs : List α) (i : Nat) : rowC f (xs.take i) [] ++ rowC f (xs.drop i) [] = rowC f xs [] := by
  have h1 : rowC f xs [] = rowC f (xs.take i) (rowC f (xs.drop i) []) := by
    conv => lhs; rw [← List.take_append_drop i xs]
    unfold rowC
    rw [List.foldr_append]
  rw [h1]
  exact ((row_app hf).nil _ _).symm
theorem PX.rowStop {α : Type} {f : α → List UInt8 → List UInt8} (hf : App f) {w : World} {B pb : Nat} {E : List UInt8} {xs : List α} {i : Nat} (h : PX w B pb (E ++ rowC f (xs.take i) [])) (ho : 1000000 < (E ++ rowC f (xs.take i) []).length) : PX w B pb (E ++ rowC f xs []) := by
  have := h.stop ho (rowC f (xs.drop i) [])
  rwa [List.append_assoc, row_cut hf] at this
theorem row_nxt {α : Type} {f : α → List UInt8 → List UInt8} (hf : App f) {E : List UInt8} {xs : List α} {i : Nat} {x : α} (h : xs[i]? = some x) : (E ++ rowC f (xs.take i) []) ++ f x [] = E ++ rowC f (xs.take (i + 1)) [] := by
  rw [row_snoc hf h, List.append_assoc]
theorem row_fits {α : Type} {f : α → List UInt8 → List UInt8} (hf : App f) {E : List UInt8} {xs : List α} {i m : Nat} {x : α} (h : xs[i]? = some x) (hz : (E ++ rowC f xs []).length ≤ m) : ((E ++ rowC f (xs.take i) []) ++ f x []).length ≤ m := by
  rw [row_nxt hf h]
  have := row_take_len hf xs (i + 1)
  rw [List.length_append] at hz ⊢
  omega
theorem list_head {α : Type} (f : α → List UInt8 → List UInt8) (e : List UInt8) (xs : List α) {n : Nat} (hn : xs.length = n) : e ++ listC f xs [] = (e ++ numC (n : Int) []) ++ rowC f xs [] := by
  rw [list_split, hn, List.append_assoc]

set_option maxRecDepth 100000 in
set_option maxHeartbeats 4000000 in
theorem pints_any (xs : List Int) (p : Option Addr) (n cap : Nat) (hn : xs.length = n) (hx : ∀ x ∈ xs, NmP x) (hl : n ≤ 140737488355328) (B pb : Nat) (e : List UInt8) (w : World) (h : PX w B pb e) (hr : ∀ W, Keep B pb w W → lyI.Row W p xs) (hz : (e ++ listC numC xs []).length ≤ 70368744177664) : Calls Tryz.prog 142 #[.pointer (some ⟨pb, 0, none⟩), .slice p n cap, .func (.func 64) #[.pointer (some ⟨pb, 0, none⟩)] #[]] w (PutS B pb (e ++ listC numC xs []) w) := by
  rw [list_head numC e xs hn] at hz ⊢
  have P := Lib.hid (pnum_any (n : Int) ⟨by omega, by omega⟩ B pb e w h (by rw [List.length_append] at hz; omega))
  generalize e ++ numC (n : Int) [] = E at P hz ⊢
  have HR := Lib.hid hr; have HX := Lib.hid hx; have HZ := Lib.hid hz; have HN := Lib.hid hn
  clear hr hx hz hn h
  go_enter Tryz.func142, Tryz.ntmps142
  go_upto_region 1 with (go_at_call 64; refine P.out.mono ?_; rintro e w1 ⟨rfl, h1, h2⟩; have X1 := Lib.hid h1; have K1 := Lib.hid h2; clear h1 h2)
  go_wp2_with fail
  go_loopw [14, 7] (fun a _ wr => ∃ i : Nat, i ≤ n ∧ a = .int .i64 i ∧ Hid (PX wr B pb (E ++ rowC numC (xs.take i) [])) ∧ Hid (Keep B pb w wr)) (fun a _ _ => n - (intOf a).toNat)
  case atStart => exact ⟨0, by omega, rfl, Lib.hid (by simpa [rowC] using X1.out), K1⟩
  case round =>
    obtain ⟨i, hi, rfl, X, K⟩ := hrel
    by_cases hlt : i < n
    · obtain ⟨x, hx⟩ : ∃ x, xs[i]? = some x := ⟨_, List.getElem?_eq_getElem (by rw [HN.out]; exact hlt)⟩
      obtain ⟨b, o, rfl, hat⟩ := HR.out wr K.out i x hx
      have c := hat 0 _ rfl
      have c' : wr.cell? ⟨b, o + i, none⟩ = some (.int .i64 x) := by
        rw [show o + i * lyI.sz + 0 = o + i from by show o + i * 1 + 0 = o + i; omega] at c
        exact c
      clear c hat
      have OV := Lib.hid (pover_any B pb _ wr X.out)
      by_cases ho : 1000000 < (E ++ rowC numC (xs.take i) []).length
      · rw [decide_eq_true ho] at OV
        have ST := Lib.hid (X.out.rowStop num_app ho)
        clear ho hx X
        go_wp2_with (go_at_call 22; refine OV.out.mono ?_; rintro e w2 ⟨rfl, rfl⟩)
        refine bodyPost_ret (results_none rfl _ _ _) rfl ?_
        exact ⟨rfl, ST.out, K.out⟩
      · rw [decide_eq_false ho] at OV
        have NX := Lib.hid (pnum_any x (HX.out x (List.mem_of_getElem? hx)) B pb _ wr X.out (row_fits num_app hx HZ.out))
        rw [row_nxt num_app hx] at NX
        clear hx ho X
        go_wp2_with (first | (go_at_call 22; refine OV.out.mono ?_; rintro e w2 ⟨rfl, rfl⟩) | (go_at_call 64; refine NX.out.mono ?_; rintro e w3 ⟨rfl, h1, h2⟩; have X2 := Lib.hid h1; have K2 := Lib.hid h2; clear h1 h2))
        go_roundw
        case rel => exact ⟨i + 1, by omega, by go_num, X2, Lib.hid (K.out.trans K2.out)⟩
        case measure => simp [intOf]; omega
    · go_wp2_with fail
      refine bodyPost_ret (results_none rfl _ _ _) rfl ?_
      refine ⟨rfl, ?_, K.out⟩
      have := X.out
      rwa [List.take_of_length_le (by rw [HN.out]; omega)] at this

set_option maxRecDepth 100000 in
set_option maxHeartbeats 4000000 in
theorem pcomp_any (k m : Int) (t : ByteArray) (hC : CpP ⟨k, m, t⟩) (B pb : Nat) (e : List UInt8) (w : World) (h : PX w B pb e) (hz : (e ++ compC ⟨k, m, t⟩ []).length ≤ 70368744177664) : Calls Tryz.prog 66 #[.pointer (some ⟨pb, 0, none⟩), .agg #[.int .i64 k, .int .i64 m, .string t]] w (PutS B pb (e ++ compC ⟨k, m, t⟩ []) w) := by
  have HH := Lib.hid h
  have hlt := h.lt
  have hbs := h.size
  have hC2 := hC
  simp only [CpP] at hC2
  clear h hC
  go_enter Tryz.func66, Tryz.ntmps66
  go_upto_region 1 with fail
  have HX : Hid ((w.alloc (.cells #[.int .i64 k, .int .i64 m, .string t] 48)).heap[w.heap.size]? = some (.cells #[.int .i64 k, .int .i64 m, .string t] 48 (0, 0))) := Lib.hid (heap_alloc_new w _)
  have X1 : Hid (PX (w.alloc (.cells #[.int .i64 k, .int .i64 m, .string t] 48)) B pb e) := Lib.hid (HH.out.alloc _)
  have K1 : Hid (Keep B pb w (w.alloc (.cells #[.int .i64 k, .int .i64 m, .string t] 48))) := Lib.hid ((Keep.refl B pb w).alloc hbs _)
  generalize w.alloc (.cells #[.int .i64 k, .int .i64 m, .string t] 48) = w1 at HX X1 K1 ⊢
  obtain ⟨xb, hxb⟩ : ∃ b, w.heap.size = b := ⟨_, rfl⟩
  rw [hxb] at HX ⊢
  have NE : Hid (xb ≠ pb) := Lib.hid (by omega)
  clear hxb hlt hbs HH
  rcases hC2 with ⟨rfl, ht⟩ | ⟨rfl | rfl, hm⟩
  · have e1 : e ++ compC ⟨1, m, t⟩ [] = (e ++ [112]) ++ strC (bytesOf t) [] := by rw [List.append_assoc]; rfl
    rw [e1] at hz
    have E1 := Lib.hid e1
    have L : Hid (Calls Tryz.prog 62 #[.pointer (some ⟨pb, 0, none⟩), .int .u8 112] w1 (PutS B pb (e ++ [112]) w1)) := Lib.hid (plet_any 112 B pb e w1 X1.out (by rw [List.length_append] at hz; omega))
    have HZ := Lib.hid hz
    clear e1 hz X1
    have a0 := (obj_cells HX.out).1 0 _ rfl
    have a1 := (obj_cells HX.out).1 1 _ rfl
    have a2 := (obj_cells HX.out).1 2 _ rfl
    go_upto_region 2 with (go_at_call 62; refine L.out.mono ?_; rintro e w2 ⟨rfl, h1, h2⟩; have X2 := Lib.hid h1; have K2 := Lib.hid h2; clear h1 h2)
    clear a0 a1 a2
    have HX2 := Lib.hid (K2.out.old HX.out NE.out (by decide))
    have a0 := (obj_cells HX2.out).1 0 _ rfl
    have a1 := (obj_cells HX2.out).1 1 _ rfl
    have a2 := (obj_cells HX2.out).1 2 _ rfl
    have T := Lib.hid (ptxt_any t B pb _ w2 X2.out HZ.out)
    go_wp2_with (go_at_call 70; refine T.out.mono ?_; rintro e w3 ⟨rfl, h1, h2⟩; have X3 := Lib.hid h1; have K3 := Lib.hid h2; clear h1 h2)
    refine bodyPost_ret (results_none rfl _ _ _) rfl ?_
    exact ⟨rfl, by rw [E1.out]; exact X3.out, (K1.out.trans K2.out).trans K3.out⟩
  · have e1 : e ++ compC ⟨0, m, t⟩ [] = (e ++ [107]) ++ numC m [] := by rw [List.append_assoc]; rfl
    rw [e1] at hz
    have E1 := Lib.hid e1
    have L : Hid (Calls Tryz.prog 62 #[.pointer (some ⟨pb, 0, none⟩), .int .u8 107] w1 (PutS B pb (e ++ [107]) w1)) := Lib.hid (plet_any 107 B pb e w1 X1.out (by rw [List.length_append] at hz; omega))
    have HZ := Lib.hid hz
    clear e1 hz X1
    have a0 := (obj_cells HX.out).1 0 _ rfl
    have a1 := (obj_cells HX.out).1 1 _ rfl
    have a2 := (obj_cells HX.out).1 2 _ rfl
    go_upto_region 2 with (go_at_call 62; refine L.out.mono ?_; rintro e w2 ⟨rfl, h1, h2⟩; have X2 := Lib.hid h1; have K2 := Lib.hid h2; clear h1 h2)
    clear a0 a1 a2
    have HX2 := Lib.hid (K2.out.old HX.out NE.out (by decide))
    have a0 := (obj_cells HX2.out).1 0 _ rfl
    have a1 := (obj_cells HX2.out).1 1 _ rfl
    have a2 := (obj_cells HX2.out).1 2 _ rfl
    have T := Lib.hid (pnum_any m hm B pb _ w2 X2.out HZ.out)
    go_wp2_with (go_at_call 64; refine T.out.mono ?_; rintro e w3 ⟨rfl, h1, h2⟩; have X3 := Lib.hid h1; have K3 := Lib.hid h2; clear h1 h2)
    refine bodyPost_ret (results_none rfl _ _ _) rfl ?_
    exact ⟨rfl, by rw [E1.out]; exact X3.out, (K1.out.trans K2.out).trans K3.out⟩
  · have e1 : e ++ compC ⟨2, m, t⟩ [] = (e ++ [99]) ++ numC m [] := by rw [List.append_assoc]; rfl
    rw [e1] at hz
    have E1 := Lib.hid e1
    have L : Hid (Calls Tryz.prog 62 #[.pointer (some ⟨pb, 0, none⟩), .int .u8 99] w1 (PutS B pb (e ++ [99]) w1)) := Lib.hid (plet_any 99 B pb e w1 X1.out (by rw [List.length_append] at hz; omega))
    have HZ := Lib.hid hz
    clear e1 hz X1
    have a0 := (obj_cells HX.out).1 0 _ rfl
    have a1 := (obj_cells HX.out).1 1 _ rfl
    have a2 := (obj_cells HX.out).1 2 _ rfl
    go_upto_region 2 with (go_at_call 62; refine L.out.mono ?_; rintro e w2 ⟨rfl, h1, h2⟩; have X2 := Lib.hid h1; have K2 := Lib.hid h2; clear h1 h2)
    clear a0 a1 a2
    have HX2 := Lib.hid (K2.out.old HX.out NE.out (by decide))
    have a0 := (obj_cells HX2.out).1 0 _ rfl
    have a1 := (obj_cells HX2.out).1 1 _ rfl
    have a2 := (obj_cells HX2.out).1 2 _ rfl
    have T := Lib.hid (pnum_any m hm B pb _ w2 X2.out HZ.out)
    go_wp2_with (go_at_call 64; refine T.out.mono ?_; rintro e w3 ⟨rfl, h1, h2⟩; have X3 := Lib.hid h1; have K3 := Lib.hid h2; clear h1 h2)
    refine bodyPost_ret (results_none rfl _ _ _) rfl ?_
    exact ⟨rfl, by rw [E1.out]; exact X3.out, (K1.out.trans K2.out).trans K3.out⟩

end Go.Proofs.YtjmfjlffcopnnaaGreatDoor
