/-
  The program's putter: an edit's list; a step, a node: the walks (made by tools/genpp.py). Conditions: as each theorem's premises say.
-/
import Derived.Test.YtjmfjlffcopnnaaGreatDoorPF38
namespace Go.Proofs.YtjmfjlffcopnnaaGreatDoor
open Go.RowKit
open Go.Proofs.YtjmfjlffcopnnaaGreatDoor.K (C RowC PieceAt)

theorem own_box {α : Type} {L : Ly α} {W : World} {b n : Nat} {xs : List α} {c : Array Value} (h : W.heap[b]? = some (.cells c L.ty (0, 0))) (hn : xs.length = n) (hc : c.toList = L.all xs) (hm : n ≤ maxLen) : L.Own W b (.slice (some ⟨b, 0, none⟩) n n) xs := by
  subst hn
  have hs : c.size = xs.length * L.sz := by rw [← Array.length_toList, hc, all_len]
  exact ⟨all_len xs, .inr ⟨b, xs.length, c, rfl, Nat.le_refl _, h, Nat.le_refl _, hm, hs, by rw [List.take_of_length_le (by rw [hc, all_len]; exact Nat.le_refl _), hc]⟩⟩
/-- numbers, at a slice that was just made of its arguments. -/
theorem pnums_own (xs : List Int) (n : Nat) (hn : xs.length = n) (hx : ∀ x ∈ xs, NmP x) (B pb : Nat) (e : List UInt8) (w : World) (h : PX w B pb e) (hm : n ≤ 1000) (hz : (e ++ rowC numC xs []).length ≤ 70368744177664) (c : Array Value) (hc : c.toList = lyI.all xs) : Calls Tryz.prog 63 #[.pointer (some ⟨pb, 0, none⟩), .slice (some ⟨w.heap.size, 0, none⟩) n n] (w.alloc (.cells c 3)) (PutS B pb (e ++ rowC numC xs []) w) :=
  (pnums_any xs (some ⟨w.heap.size, 0, none⟩) n n hn hx B pb e _ (h.alloc _) (fun W hW => (own_box (L := lyI) (hW.old (heap_alloc_new w _) (Ne.symm (Nat.ne_of_lt h.lt)) (by decide)) hn hc (by unfold maxLen; omega)).row) (by omega) hz).mono (fun _ _ ⟨a, b, k⟩ => ⟨a, b, ((Keep.refl B pb w).alloc h.size _).trans k⟩)

set_option maxRecDepth 100000 in
set_option maxHeartbeats 4000000 in
theorem pcs_any (w0 : World) (xs : List C) (p : Option Addr) (n cap : Nat) (hn : xs.length = n) (hr : RowC w0 p xs) (hx : ∀ x ∈ xs, CpP x) (hl : n ≤ 140737488355328) (pb : Nat) (e : List UInt8) (w : World) (hb : Below w0.heap.size w0 w) (h : PX w w0.heap.size pb e) (hz : (e ++ listC compC xs []).length ≤ 70368744177664) : Calls Tryz.prog 65 #[.pointer (some ⟨pb, 0, none⟩), .slice p n cap, .func (.func 66) #[.pointer (some ⟨pb, 0, none⟩)] #[]] w (PutS w0.heap.size pb (e ++ listC compC xs []) w) := by
  rw [list_head compC e xs hn] at hz ⊢
  have P := Lib.hid (pnum_any (n : Int) ⟨by omega, by omega⟩ w0.heap.size pb e w h (by rw [List.length_append] at hz; omega))
  generalize e ++ numC (n : Int) [] = E at P hz ⊢
  have HR := Lib.hid hr; have HX := Lib.hid hx; have HZ := Lib.hid hz; have HN := Lib.hid hn; have HB := Lib.hid hb; have HS := Lib.hid h.size
  clear hr hx hz hn h hb
  obtain ⟨B, hB⟩ : ∃ B, w0.heap.size = B := ⟨_, rfl⟩
  rw [hB] at P HS ⊢
  have HE := Lib.hid hB
  clear hB
  go_enter Tryz.func65, Tryz.ntmps65
  go_upto_region 1 with (go_at_call 64; refine P.out.mono ?_; rintro e w1 ⟨rfl, h1, h2⟩; have X1 := Lib.hid h1; have K1 := Lib.hid h2; clear h1 h2)
  go_wp2_with fail
  go_loopw [14, 7] (fun a _ wr => ∃ i : Nat, i ≤ n ∧ a = .int .i64 i ∧ Hid (PX wr B pb (E ++ rowC compC (xs.take i) [])) ∧ Hid (Keep B pb w wr)) (fun a _ _ => n - (intOf a).toNat)
  case atStart => exact ⟨0, by omega, rfl, Lib.hid (by simpa [rowC] using X1.out), K1⟩
  case round =>
    obtain ⟨i, hi, rfl, X, K⟩ := hrel
    by_cases hlt : i < n
    · obtain ⟨x, hx⟩ : ∃ x, xs[i]? = some x := ⟨_, List.getElem?_eq_getElem (by rw [HN.out]; exact hlt)⟩
      have bw : Below w0.heap.size w0 wr := by have := HB.out.trans (show Below w0.heap.size w wr by rw [HE.out]; exact K.out.1); exact this
      obtain ⟨ab, ao, rfl, hat⟩ := HR.out i x hx
      obtain ⟨n0, n1, n2⟩ := hat.below bw
      clear hat
      have hp := Lib.hid (HX.out x (List.mem_of_getElem? hx))
      have FT := Lib.hid (row_fits comp_app hx HZ.out)
      have RN := Lib.hid (row_nxt (E := E) comp_app hx)
      clear hx bw
      go_upto_region 4 with fail
      have HXB : Hid ((wr.alloc (.cells #[.int .i64 x.k, .int .i64 x.n, .string x.t] 48)).heap[wr.heap.size]? = some (.cells #[.int .i64 x.k, .int .i64 x.n, .string x.t] 48 (0, 0))) := Lib.hid (heap_alloc_new wr _)
      have X5 : Hid (PX (wr.alloc (.cells #[.int .i64 x.k, .int .i64 x.n, .string x.t] 48)) B pb (E ++ rowC compC (xs.take i) [])) := Lib.hid (X.out.alloc _)
      have K5 : Hid (Keep B pb w (wr.alloc (.cells #[.int .i64 x.k, .int .i64 x.n, .string x.t] 48))) := Lib.hid (K.out.alloc HS.out _)
      clear n0 n1 n2
      generalize wr.alloc (.cells #[.int .i64 x.k, .int .i64 x.n, .string x.t] 48) = w5 at HXB X5 K5 ⊢
      obtain ⟨yb, hyb⟩ : ∃ b, wr.heap.size = b := ⟨_, rfl⟩
      rw [hyb] at HXB ⊢
      clear hyb
      have OV := Lib.hid (pover_any B pb _ w5 X5.out)
      by_cases ho : 1000000 < (E ++ rowC compC (xs.take i) []).length
      · rw [decide_eq_true ho] at OV
        have ST := Lib.hid (X5.out.rowStop comp_app ho)
        clear ho X X5
        go_wp2_with (go_at_call 22; refine OV.out.mono ?_; rintro e w6 ⟨rfl, rfl⟩)
        refine bodyPost_ret (results_none rfl _ _ _) rfl ?_
        exact ⟨rfl, ST.out, K5.out⟩
      · rw [decide_eq_false ho] at OV
        have B5 : Below w0.heap.size w0 w5 := by have := HB.out.trans (show Below w0.heap.size w w5 by rw [HE.out]; exact K5.out.1); exact this
        have ONE := Lib.hid (pcomp_any x.k x.n x.t hp.out w0.heap.size pb _ w5 (by rw [HE.out]; exact X5.out) FT.out)
        rw [HE.out, RN.out] at ONE
        have q0 := (obj_cells HXB.out).1 0 _ rfl
        have q1 := (obj_cells HXB.out).1 1 _ rfl
        have q2 := (obj_cells HXB.out).1 2 _ rfl
        clear ho X X5 B5
        go_wp2_with (first | (go_at_call 22; refine OV.out.mono ?_; rintro e w6 ⟨rfl, rfl⟩) | (go_at_call 66; refine ONE.out.mono ?_; rintro e w7 ⟨rfl, h1, h2⟩; have X2 := Lib.hid h1; have K2 := Lib.hid h2; clear h1 h2))
        go_roundw
        case rel => exact ⟨i + 1, by omega, by go_num, X2, Lib.hid (K5.out.trans K2.out)⟩
        case measure => simp [intOf]; omega
    · go_wp2_with fail
      refine bodyPost_ret (results_none rfl _ _ _) rfl ?_
      refine ⟨rfl, ?_, K.out⟩
      have := X.out
      rwa [List.take_of_length_le (by rw [HN.out]; omega)] at this

set_option maxRecDepth 100000 in
set_option maxHeartbeats 4000000 in
theorem pstep_any (w0 : World) (s : St) (kp : Option Addr) (kc : Nat) (hs : StP s) (hk : lyI.Row w0 kp s.kids) (pb : Nat) (e : List UInt8) (w : World) (hb : Below w0.heap.size w0 w) (h : PX w w0.heap.size pb e) (hz : (e ++ stepC s []).length ≤ 70368744177664) : Calls Tryz.prog 108 #[.pointer (some ⟨pb, 0, none⟩), .agg #[.int .i64 s.kd, .int .i64 s.id, .int .i64 s.nd, .int .i64 s.fr, .int .i64 (St.to s), .slice kp s.kids.length kc]] w (PutS w0.heap.size pb (e ++ stepC s []) w) := by
  have e1 : e ++ stepC s [] = (e ++ rowC numC [s.kd, s.id, s.nd, s.fr, St.to s] []) ++ listC numC s.kids [] := by
    rw [List.append_assoc, ← (row_app num_app).nil]
    rfl
  rw [e1] at hz ⊢
  have HZ := Lib.hid hz; have HB := Lib.hid hb; have HH := Lib.hid h
  clear hz hb h e1
  obtain ⟨B, hB⟩ : ∃ B, w0.heap.size = B := ⟨_, rfl⟩
  rw [hB] at HH ⊢
  have hlt := HH.out.lt
  have hbs := HH.out.size
  have HE := Lib.hid hB
  clear hB
  obtain ⟨p1, p2, p3, p4, p5, p6, p7⟩ := hs
  have HK := Lib.hid hk; have H6 := Lib.hid p6
  clear hk p6
  obtain ⟨kd, id, nd, fr, tt, ks⟩ := s
  dsimp only at *
  obtain ⟨kn, hkn⟩ : ∃ kn, ks.length = kn := ⟨_, rfl⟩
  rw [hkn] at p7 ⊢
  have HN := Lib.hid hkn
  clear hkn
  go_enter Tryz.func108, Tryz.ntmps108
  go_upto_region 1 with fail
  have HX : Hid ((w.alloc (.cells #[.int .i64 kd, .int .i64 id, .int .i64 nd, .int .i64 fr, .int .i64 tt, .slice kp kn kc] 51)).heap[w.heap.size]? = some (.cells #[.int .i64 kd, .int .i64 id, .int .i64 nd, .int .i64 fr, .int .i64 tt, .slice kp kn kc] 51 (0, 0))) := Lib.hid (heap_alloc_new w _)
  have X1 : Hid (PX (w.alloc (.cells #[.int .i64 kd, .int .i64 id, .int .i64 nd, .int .i64 fr, .int .i64 tt, .slice kp kn kc] 51)) B pb e) := Lib.hid (HH.out.alloc _)
  have K1 : Hid (Keep B pb w (w.alloc (.cells #[.int .i64 kd, .int .i64 id, .int .i64 nd, .int .i64 fr, .int .i64 tt, .slice kp kn kc] 51))) := Lib.hid ((Keep.refl B pb w).alloc hbs _)
  generalize w.alloc (.cells #[.int .i64 kd, .int .i64 id, .int .i64 nd, .int .i64 fr, .int .i64 tt, .slice kp kn kc] 51) = w1 at HX X1 K1 ⊢
  obtain ⟨xb, hxb⟩ : ∃ b, w.heap.size = b := ⟨_, rfl⟩
  rw [hxb] at HX ⊢
  have NE : Hid (xb ≠ pb) := Lib.hid (by omega)
  clear hxb hlt hbs HH
  have NS := Lib.hid (pnums_own [kd, id, nd, fr, tt] 5 rfl (by intro x hx; simp only [List.mem_cons, List.not_mem_nil, or_false] at hx; rcases hx with rfl | rfl | rfl | rfl | rfl <;> assumption) B pb e w1 X1.out (by decide) (by have := HZ.out; rw [List.length_append] at this; omega) #[.int .i64 kd, .int .i64 id, .int .i64 nd, .int .i64 fr, .int .i64 tt] rfl)
  have a0 := (obj_cells HX.out).1 0 _ rfl
  have a1 := (obj_cells HX.out).1 1 _ rfl
  have a2 := (obj_cells HX.out).1 2 _ rfl
  have a3 := (obj_cells HX.out).1 3 _ rfl
  have a4 := (obj_cells HX.out).1 4 _ rfl
  have a5 := (obj_cells HX.out).1 5 _ rfl
  go_upto_region 2 with (go_at_call 63; refine NS.out.mono ?_; rintro e w2 ⟨rfl, h1, h2⟩; have X2 := Lib.hid h1; have K2 := Lib.hid h2; clear h1 h2)
  clear a0 a1 a2 a3 a4 a5 NS
  have HX2 := Lib.hid (K2.out.old HX.out NE.out (by decide))
  have KK2 := Lib.hid (K1.out.trans K2.out)
  have a0 := (obj_cells HX2.out).1 0 _ rfl
  have a1 := (obj_cells HX2.out).1 1 _ rfl
  have a2 := (obj_cells HX2.out).1 2 _ rfl
  have a3 := (obj_cells HX2.out).1 3 _ rfl
  have a4 := (obj_cells HX2.out).1 4 _ rfl
  have a5 := (obj_cells HX2.out).1 5 _ rfl
  have CC := Lib.hid (pints_any ks kp kn kc HN.out H6.out p7 w0.heap.size pb _ w2 (by rw [HE.out]; exact X2.out) (fun W hW => HK.out.below ((HB.out.trans (show Below w0.heap.size w w2 by rw [HE.out]; exact KK2.out.1)).trans hW.1)) HZ.out)
  rw [HE.out] at CC
  go_wp2_with (go_at_call 142; refine CC.out.mono ?_; rintro e w3 ⟨rfl, h1, h2⟩; have X3 := Lib.hid h1; have K3 := Lib.hid h2; clear h1 h2)
  refine bodyPost_ret (results_none rfl _ _ _) rfl ?_
  exact ⟨rfl, X3.out, KK2.out.trans K3.out⟩

set_option maxRecDepth 100000 in
set_option maxHeartbeats 4000000 in
theorem pnode_any (w0 : World) (s : Nd) (kp : Option Addr) (kc : Nat) (hs : NdP s) (hk : lyI.Row w0 kp s.kids) (pb : Nat) (e : List UInt8) (w : World) (hb : Below w0.heap.size w0 w) (h : PX w w0.heap.size pb e) (hz : (e ++ nodeC s []).length ≤ 70368744177664) : Calls Tryz.prog 110 #[.pointer (some ⟨pb, 0, none⟩), .agg #[.int .i64 s.id, .int .i64 s.kd, .int .i64 s.fr, .int .i64 (Nd.to s), .slice kp s.kids.length kc]] w (PutS w0.heap.size pb (e ++ nodeC s []) w) := by
  have e1 : e ++ nodeC s [] = (e ++ rowC numC [s.id, s.kd, s.fr, Nd.to s] []) ++ listC numC s.kids [] := by
    rw [List.append_assoc, ← (row_app num_app).nil]
    rfl
  rw [e1] at hz ⊢
  have HZ := Lib.hid hz; have HB := Lib.hid hb; have HH := Lib.hid h
  clear hz hb h e1
  obtain ⟨B, hB⟩ : ∃ B, w0.heap.size = B := ⟨_, rfl⟩
  rw [hB] at HH ⊢
  have hlt := HH.out.lt
  have hbs := HH.out.size
  have HE := Lib.hid hB
  clear hB
  obtain ⟨p1, p2, p3, p4, p6, p7⟩ := hs
  have HK := Lib.hid hk; have H6 := Lib.hid p6
  clear hk p6
  obtain ⟨id, kd, fr, tt, ks⟩ := s
  dsimp only at *
  obtain ⟨kn, hkn⟩ : ∃ kn, ks.length = kn := ⟨_, rfl⟩
  rw [hkn] at p7 ⊢
  have HN := Lib.hid hkn
  clear hkn
  go_enter Tryz.func110, Tryz.ntmps110
  go_upto_region 1 with fail
  have HX : Hid ((w.alloc (.cells #[.int .i64 id, .int .i64 kd, .int .i64 fr, .int .i64 tt, .slice kp kn kc] 109)).heap[w.heap.size]? = some (.cells #[.int .i64 id, .int .i64 kd, .int .i64 fr, .int .i64 tt, .slice kp kn kc] 109 (0, 0))) := Lib.hid (heap_alloc_new w _)
  have X1 : Hid (PX (w.alloc (.cells #[.int .i64 id, .int .i64 kd, .int .i64 fr, .int .i64 tt, .slice kp kn kc] 109)) B pb e) := Lib.hid (HH.out.alloc _)
  have K1 : Hid (Keep B pb w (w.alloc (.cells #[.int .i64 id, .int .i64 kd, .int .i64 fr, .int .i64 tt, .slice kp kn kc] 109))) := Lib.hid ((Keep.refl B pb w).alloc hbs _)
  generalize w.alloc (.cells #[.int .i64 id, .int .i64 kd, .int .i64 fr, .int .i64 tt, .slice kp kn kc] 109) = w1 at HX X1 K1 ⊢
  obtain ⟨xb, hxb⟩ : ∃ b, w.heap.size = b := ⟨_, rfl⟩
  rw [hxb] at HX ⊢
  have NE : Hid (xb ≠ pb) := Lib.hid (by omega)
  clear hxb hlt hbs HH
  have NS := Lib.hid (pnums_own [id, kd, fr, tt] 4 rfl (by intro x hx; simp only [List.mem_cons, List.not_mem_nil, or_false] at hx; rcases hx with rfl | rfl | rfl | rfl <;> assumption) B pb e w1 X1.out (by decide) (by have := HZ.out; rw [List.length_append] at this; omega) #[.int .i64 id, .int .i64 kd, .int .i64 fr, .int .i64 tt] rfl)
  have a0 := (obj_cells HX.out).1 0 _ rfl
  have a1 := (obj_cells HX.out).1 1 _ rfl
  have a2 := (obj_cells HX.out).1 2 _ rfl
  have a3 := (obj_cells HX.out).1 3 _ rfl
  have a4 := (obj_cells HX.out).1 4 _ rfl
  go_upto_region 2 with (go_at_call 63; refine NS.out.mono ?_; rintro e w2 ⟨rfl, h1, h2⟩; have X2 := Lib.hid h1; have K2 := Lib.hid h2; clear h1 h2)
  clear a0 a1 a2 a3 a4 NS
  have HX2 := Lib.hid (K2.out.old HX.out NE.out (by decide))
  have KK2 := Lib.hid (K1.out.trans K2.out)
  have a0 := (obj_cells HX2.out).1 0 _ rfl
  have a1 := (obj_cells HX2.out).1 1 _ rfl
  have a2 := (obj_cells HX2.out).1 2 _ rfl
  have a3 := (obj_cells HX2.out).1 3 _ rfl
  have a4 := (obj_cells HX2.out).1 4 _ rfl
  have CC := Lib.hid (pints_any ks kp kn kc HN.out H6.out p7 w0.heap.size pb _ w2 (by rw [HE.out]; exact X2.out) (fun W hW => HK.out.below ((HB.out.trans (show Below w0.heap.size w w2 by rw [HE.out]; exact KK2.out.1)).trans hW.1)) HZ.out)
  rw [HE.out] at CC
  go_wp2_with (go_at_call 142; refine CC.out.mono ?_; rintro e w3 ⟨rfl, h1, h2⟩; have X3 := Lib.hid h1; have K3 := Lib.hid h2; clear h1 h2)
  refine bodyPost_ret (results_none rfl _ _ _) rfl ?_
  exact ⟨rfl, X3.out, KK2.out.trans K3.out⟩

end Go.Proofs.YtjmfjlffcopnnaaGreatDoor
