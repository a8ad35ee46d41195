/-
  The walk of align. Conditions: as each theorem's premises say.
-/
import Derived.Test.YtmeigoeknjoodaaRw6
namespace Go.Proofs.Ytmeigoeknjoodaa
open Go.RowKit

/-- The renewer with some ids, and the boxes of an old node and a new one. -/
structure AB (w0 w wr : World) (rb ig N cN : Nat) (ra na rr nb : Int) (pa pb : Option Addr) (A ca B cb : Nat) (s u : ByteArray) (l : List Int) (xb yb : Nat) (us vs : Array Value) : Prop where
  rs : RS w0 wr rb ig N cN ra na rr nb pa pb A ca B cb s u l
  g : w.grownBy wr (some ig)
  bx : wr.heap[xb]? = some (.cells us 46 (0, 0))
  bxb : wr.heap[yb]? = some (.cells vs 46 (0, 0))
theorem AB.later {w0 w wr W : World} {rb ig N cN : Nat} {ra na rr nb : Int} {pa pb : Option Addr} {A ca B cb : Nat} {s u : ByteArray} {l : List Int} {xb yb : Nat} {us vs : Array Value} (h : AB w0 w wr rb ig N cN ra na rr nb pa pb A ca B cb s u l xb yb us vs) (hb : Bl wr W) : AB w0 w W rb ig N cN ra na rr nb pa pb A ca B cb s u l xb yb us vs :=
  ⟨h.rs.later hb, grown_trans h.g (grown_of_below hb (some ig)) (fun _ e => .inl e), heap_later h.bx hb, heap_later h.bxb hb⟩
theorem AB.wrote {w0 w wr W : World} {rb ig N cN : Nat} {ra na rr nb : Int} {pa pb : Option Addr} {A ca B cb : Nat} {s u : ByteArray} {l l' : List Int} {xb yb : Nat} {us vs : Array Value} (h : AB w0 w wr rb ig N cN ra na rr nb pa pb A ca B cb s u l xb yb us vs) (hg : wr.grownBy W (some ig)) (hr : RS w0 W rb ig N cN ra na rr nb pa pb A ca B cb s u l') : AB w0 w W rb ig N cN ra na rr nb pa pb A ca B cb s u l' xb yb us vs :=
  ⟨hr, grown_trans h.g hg (fun _ e => .inl e), heap_grown h.bx hg h.rs.ids (by decide), heap_grown h.bxb hg h.rs.ids (by decide)⟩

theorem rev_get {α : Type} {os : List α} {i j : Nat} (h : i + j < os.length) : (os.drop i).reverse[j]? = os[os.length - 1 - j]? := by
  rw [List.getElem?_reverse (by rw [List.length_drop]; omega), List.getElem?_drop, List.length_drop]
  congr 1; omega

set_option maxRecDepth 100000 in
set_option maxHeartbeats 16000000 in
theorem align_any (w0 : World) (rb ig N cN : Nat) (ra na rr nb : Int) (pa pb : Option Addr) (A ca B cb : Nat) (s u : ByteArray) (L M : List Nd) (F : RF w0 pa pb A B s u L M) (hN : N ≤ 4096) :
    ∀ (n : Nat) (w : World) (l : List Int) (b c : Nat) (x y : Nt), y.size ≤ n → Sub L s.size b x → Sub M u.size c y → c + y.size ≤ N → (∀ m, m < y.size → l[c + m]? = some (-1)) →
      RS w0 w rb ig N cN ra na rr nb pa pb A ca B cb s u l →
      Calls Try.prog 38 #[.pointer (some ⟨rb, 0, none⟩), .int .i64 b, .int .i64 c] w (WrP w0 w rb ig N cN ra na rr nb pa pb A ca B cb s u l c (segV (alA s.data.toList u.data.toList n b x y))) := by
  intro n
  induction n with
  | zero => intro w l b c x y hn; unfold Nt.size at hn; omega
  | succ n ih =>
    intro w l b c x y hn hx hy hcN hm R
    have bA : b < A := by rw [← F.hA]; exact hx.lt
    have cB : c < B := by rw [← F.hB]; exact hy.lt
    have cN1 : c < N := by have : y.size = 1 + y.ks.size := rfl; omega
    have IH := Lib.hid ih; have FF := Lib.hid F; have RR := Lib.hid R; have SX := Lib.hid hx; have SY := Lib.hid hy; have HN := Lib.hid hn; have HC := Lib.hid hcN; have HM := Lib.hid hm
    obtain ⟨ab, ao, kp1, kc1, rfl, hat, hr⟩ := F.rL b _ hx.get
    obtain ⟨bb, bo, kp2, kc2, rfl, hat2, hr2⟩ := F.rM c _ hy.get
    have R0 := R.bl
    have FC := Lib.hid (fun (W : World) (hW : Bl w W) => (fd_par F.iL (show b < L.length by rw [F.hA]; exact bA)) ▸ find_eq ra na _ L A ca F.hA (b : Int) W (F.rL.below (R0.call hW)) (by have := F.lA; omega))
    have FD := Lib.hid (fun (W : World) (hW : Bl w0 W) (i : Nat) (hi : i < A) => (fd_par F.iL (show i < L.length by rw [F.hA]; exact hi)) ▸ find_any ra na _ L A ca F.hA (i : Int) W (F.rL.below hW) (by have := F.lA; omega))
    unfold trV at *
    have O := Lib.hid R.obj
    have HR := Lib.hid hr; have HR2 := Lib.hid hr2
    have hk1 : (x.ks.ids idI (b + 1)).length = (x.ks.tops (b + 1)).length := ids_len ..
    have hk2 : (y.ks.ids idI (c + 1)).length = y.ks.trees.length := trees_len ..
    have hks1 : (x.ks.tops (b + 1)).length ≤ 4096 := by
      have h1 := tops_len_size x.ks
      have h2 := size_row hx
      rw [F.hA] at h2
      rw [← hk1, trees_len]
      have := F.lA; omega
    have hks : y.ks.trees.length ≤ 4096 := by
      have h1 := tops_len_size y.ks
      have h2 := size_row hy
      rw [F.hB] at h2
      have := F.lB; omega
    have n0 : w.cell? ⟨ab, ao + b * 5, none⟩ = some (.int .i64 b) := R0.cell (hat 0 _ rfl)
    have n1 : w.cell? ⟨ab, ao + b * 5 + 1, none⟩ = some (.int .i64 x.kd) := R0.cell (hat 1 _ rfl)
    have n2 : w.cell? ⟨ab, ao + b * 5 + 2, none⟩ = some (.int .i64 x.fr) := R0.cell (hat 2 _ rfl)
    have n3 : w.cell? ⟨ab, ao + b * 5 + 3, none⟩ = some (.int .i64 x.to) := R0.cell (hat 3 _ rfl)
    have n4 : w.cell? ⟨ab, ao + b * 5 + 4, none⟩ = some (.slice kp1 (x.ks.ids idI (b + 1)).length kc1) := R0.cell (hat 4 _ rfl)
    have m0 : w.cell? ⟨bb, bo + c * 5, none⟩ = some (.int .i64 c) := R0.cell (hat2 0 _ rfl)
    have m1 : w.cell? ⟨bb, bo + c * 5 + 1, none⟩ = some (.int .i64 y.kd) := R0.cell (hat2 1 _ rfl)
    have m2 : w.cell? ⟨bb, bo + c * 5 + 2, none⟩ = some (.int .i64 y.fr) := R0.cell (hat2 2 _ rfl)
    have m3 : w.cell? ⟨bb, bo + c * 5 + 3, none⟩ = some (.int .i64 y.to) := R0.cell (hat2 3 _ rfl)
    have m4 : w.cell? ⟨bb, bo + c * 5 + 4, none⟩ = some (.slice kp2 (y.ks.ids idI (c + 1)).length kc2) := R0.cell (hat2 4 _ rfl)
    rw [hk1] at n4
    rw [hk2] at m4
    generalize hP : (x.ks.tops (b + 1)).length = P at *
    generalize hQ : y.ks.trees.length = Q at *
    have KX := Lib.hid hP; have KY := Lib.hid hQ
    have KY2 : Hid ((y.ks.tops (c + 1)).length = Q) := Lib.hid (by rw [← List.length_map (f := Prod.snd), tops_snd, hQ])
    have qa0 : ∀ W, Bl w W → W.cell? ⟨rb, 0, none⟩ = some (.int .i64 ra) := fun W hW => hW.cell ((obj_cells O.out).1 0 _ rfl)
    have qa1 : ∀ W, Bl w W → W.cell? ⟨rb, 1, none⟩ = some (.int .i64 na) := fun W hW => hW.cell ((obj_cells O.out).1 1 _ rfl)
    have qa2 : ∀ W, Bl w W → W.cell? ⟨rb, 2, none⟩ = some (.slice (some ⟨ab, ao, none⟩) A ca) := fun W hW => hW.cell ((obj_cells O.out).1 2 _ rfl)
    have qa6 : ∀ W, Bl w W → W.cell? ⟨rb, 6, none⟩ = some (.slice (some ⟨bb, bo, none⟩) B cb) := fun W hW => hW.cell ((obj_cells O.out).1 6 _ rfl)
    have qn0 : ∀ W, Bl w W → W.cell? ⟨ab, ao + b * 5, none⟩ = some (.int .i64 b) := fun W hW => hW.cell n0
    have qn1 : ∀ W, Bl w W → W.cell? ⟨ab, ao + b * 5 + 1, none⟩ = some (.int .i64 x.kd) := fun W hW => hW.cell n1
    have qn2 : ∀ W, Bl w W → W.cell? ⟨ab, ao + b * 5 + 2, none⟩ = some (.int .i64 x.fr) := fun W hW => hW.cell n2
    have qn3 : ∀ W, Bl w W → W.cell? ⟨ab, ao + b * 5 + 3, none⟩ = some (.int .i64 x.to) := fun W hW => hW.cell n3
    have qn4 : ∀ W, Bl w W → W.cell? ⟨ab, ao + b * 5 + 4, none⟩ = some (.slice kp1 P kc1) := fun W hW => hW.cell n4
    have qm0 : ∀ W, Bl w W → W.cell? ⟨bb, bo + c * 5, none⟩ = some (.int .i64 c) := fun W hW => hW.cell m0
    have qm1 : ∀ W, Bl w W → W.cell? ⟨bb, bo + c * 5 + 1, none⟩ = some (.int .i64 y.kd) := fun W hW => hW.cell m1
    have qm2 : ∀ W, Bl w W → W.cell? ⟨bb, bo + c * 5 + 2, none⟩ = some (.int .i64 y.fr) := fun W hW => hW.cell m2
    have qm3 : ∀ W, Bl w W → W.cell? ⟨bb, bo + c * 5 + 3, none⟩ = some (.int .i64 y.to) := fun W hW => hW.cell m3
    have qm4 : ∀ W, Bl w W → W.cell? ⟨bb, bo + c * 5 + 4, none⟩ = some (.slice kp2 Q kc2) := fun W hW => hW.cell m4
    have hb0 : (0 : Int) ≤ (b : Int) := by omega
    have hb1 : (b : Int) < (A : Int) := by omega
    have hc0 : (0 : Int) ≤ (c : Int) := by omega
    have hc1 : (c : Int) < (B : Int) := by omega
    have hc2 : (c : Int) < (N : Int) := by omega
    clear ih F R hx hy hat hat2 hr hr2 R0 hn hcN hm n0 n1 n2 n3 n4 m0 m1 m2 m3 m4 hk1 hk2 hP hQ
    go_enter Try.func38, Try.ntmps38
    go_upto_region 0 with fail
    go_cut [6, 7] (fun v1 v2 wx => TwoN w wx v1 v2 [.int .i64 b, .int .i64 x.kd, .int .i64 x.fr, .int .i64 x.to, .slice kp1 P kc1] [.int .i64 c, .int .i64 y.kd, .int .i64 y.fr, .int .i64 y.to, .slice kp2 Q kc2])
    case first =>
      have S00 := Bl.refl w
      have l0 : w.heap.size ≤ w.heap.size := Nat.le_refl _
      go_region_held3 (fun W => Bl w W) (((repeat (first | with_reducible assumption | with_reducible refine Bl.alloc ?_ _ | with_reducible refine Bl.drew ?_ | (with_reducible refine Bl.set ?_ ?h _; case h => omega)))))
        (first | (go_at_call 24; refine (FC.out _ (by assumption)).mono ?_; rintro e w5 ⟨rfl, rfl⟩) | fail)
      all_goals
        go_wp2_with fail
        go_meet
        refine ⟨_, _, rfl, rfl, ?_, ?_, ?_⟩
        · show (World.alloc _ _).heap[_]? = _
          repeat (first | exact heap_new (by simp) _ _ | refine heap_old ?_ _)
        · show (World.alloc _ _).heap[_]? = _
          repeat (first | exact heap_new (by simp) _ _ | refine heap_old ?_ _)
        · exact Bl.drew (Bl.alloc (Bl.alloc (Bl.alloc (Bl.refl _) _) _) _)
    case rest =>
      obtain ⟨xb, yb, rfl, rfl, X, Y, hbx⟩ := hcut
      have R1 := RR.out.later hbx
      obtain ⟨v, hv, hl⟩ := R1.cell cN1
      have hf := R1.ids.frozen c
      have o8 := (obj_cells R1.obj).1 8 _ rfl
      have PU : Hid (Put l (l.set c (b : Int)) c (FAh b (x.ks.tops (b + 1)) y.ks.trees 0)) := Lib.hid (Put.set (l := l) (a := c) (by rw [R1.len]; exact cN1) (b : Int))
      have AA : Hid (AB w0 w (wc.setCell ⟨ig, c, none⟩ (.int .i64 b)) rb ig N cN ra na rr nb (some ⟨ab, ao, none⟩) (some ⟨bb, bo, none⟩) A ca B cb s u (l.set c (b : Int)) xb yb #[.int .i64 b, .int .i64 x.kd, .int .i64 x.fr, .int .i64 x.to, .slice kp1 P kc1] #[.int .i64 c, .int .i64 y.kd, .int .i64 y.fr, .int .i64 y.to, .slice kp2 Q kc2]) := Lib.hid ⟨R1.set cN1 (b : Int), grown_trans (grown_of_below hbx (some ig)) (set_grown _ ig c (.int .i64 b)) (fun _ e => .inl e), heap_grown X (set_grown _ ig c (.int .i64 b)) R1.ids (by decide), heap_grown Y (set_grown _ ig c (.int .i64 b)) R1.ids (by decide)⟩
      clear qa0 qa1 qa2 qa6 qn0 qn1 qn2 qn3 qn4 qm0 qm1 qm2 qm3 qm4 hbx X Y R1 hl FC
      go_upto_region 3 with fail
      generalize (wc.setCell ⟨ig, c, none⟩ (.int .i64 b)) = w3 at AA ⊢
      clear hv hf o8
      have x4 := (obj_cells AA.out.bx).1 4 _ rfl
      have y4 := (obj_cells AA.out.bxb).1 4 _ rfl
      go_quiet (fail)
      clear x4 y4
      have A2 := Lib.hid (AA.out.later (dr_below w3 nq))
      clear AA
      generalize w3.drewN nq = w4 at A2 ⊢
      go_upto_block 0 with fail
      go_cut [8] from 47 to 82 (fun v8 wx => ∃ (i : Nat) (l1 : List Int), v8 = .int .i64 i ∧ i ≤ P ∧ i ≤ Q ∧ Hid (aheadC (likeN s.data.toList u.data.toList) (x.ks.tops (b + 1)) y.ks.trees = i) ∧ Hid (AB w0 w wx rb ig N cN ra na rr nb (some ⟨ab, ao, none⟩) (some ⟨bb, bo, none⟩) A ca B cb s u l1 xb yb #[.int .i64 b, .int .i64 x.kd, .int .i64 x.fr, .int .i64 x.to, .slice kp1 P kc1] #[.int .i64 c, .int .i64 y.kd, .int .i64 y.fr, .int .i64 y.to, .slice kp2 Q kc2]) ∧ Hid (Put l l1 c (FAh b (x.ks.tops (b + 1)) y.ks.trees i)))
      case first =>
        go_wp2_with fail
        go_loopw [8] (fun v8 wr => ∃ (i : Nat) (l1 : List Int), v8 = .int .i64 i ∧ i ≤ P ∧ i ≤ Q ∧ Hid (i + aheadC (likeN s.data.toList u.data.toList) ((x.ks.tops (b + 1)).drop i) (y.ks.trees.drop i) = aheadC (likeN s.data.toList u.data.toList) (x.ks.tops (b + 1)) y.ks.trees) ∧ Hid (AB w0 w wr rb ig N cN ra na rr nb (some ⟨ab, ao, none⟩) (some ⟨bb, bo, none⟩) A ca B cb s u l1 xb yb #[.int .i64 b, .int .i64 x.kd, .int .i64 x.fr, .int .i64 x.to, .slice kp1 P kc1] #[.int .i64 c, .int .i64 y.kd, .int .i64 y.fr, .int .i64 y.to, .slice kp2 Q kc2]) ∧ Hid (Put l l1 c (FAh b (x.ks.tops (b + 1)) y.ks.trees i))) (fun v _ => P - (intOf v).toNat)
        case atStart => exact ⟨0, _, rfl, by omega, by omega, Lib.hid (by rw [List.drop_zero, List.drop_zero, Nat.zero_add]), A2, PU⟩
        case round =>
          clear A2 PU RR
          obtain ⟨i, l1, rfl, hi, hi2, E, AA, PT⟩ := hrel
          by_cases g1 : i < P
          · by_cases g2 : i < Q
            · have d1 : decide ((i : Int) < (P : Int)) = true := decide_eq_true (by omega)
              have d2 : decide ((i : Int) < (Q : Int)) = true := decide_eq_true (by omega)
              obtain ⟨⟨i1, p⟩, h1⟩ : ∃ o, (x.ks.tops (b + 1))[i]? = some o := ⟨_, List.getElem?_eq_getElem (by rw [KX.out]; omega)⟩
              obtain ⟨⟨i2, q⟩, h2⟩ : ∃ o, (y.ks.tops (c + 1))[i]? = some o := ⟨_, List.getElem?_eq_getElem (by rw [KY2.out]; omega)⟩
              obtain ⟨s1, s2, s3⟩ := SX.out.kid h1
              obtain ⟨t1, t2, t3⟩ := SY.out.kid h2
              obtain ⟨v1, v2⟩ := tops_at _ _ _ _ h2
              have hos := offs_succ v2
              have hle := offs_le y.ks.trees (i + 1)
              rw [trees_size] at hle
              have hys : y.size = 1 + y.ks.size := rfl
              have hHN := HN.out
              have hHC := HC.out
              dsimp only at s1 s2 s3 t1 t2 t3 v1 hos
              obtain ⟨kb, ko, rfl, e0⟩ := ints_at HR.out s2
              obtain ⟨kb', ko', rfl, e0'⟩ := ints_at HR2.out t2
              obtain ⟨u1, u2⟩ := tops_at _ _ _ _ h1
              have E2 := E.out
              rw [ahead_step h1 v2] at E2
              dsimp only at E2
              have PS : Hid (∀ l2, Put l1 l2 i2 (rg i1 q.size) → Put l l2 c (FAh b (x.ks.tops (b + 1)) y.ks.trees (i + 1))) := Lib.hid (fun l2 h => by
                rw [FAh_step h1 v2]
                exact PT.out.app h (by rw [FAh_len (by rw [KX.out]; omega) (by rw [KY.out]; omega)]; omega))
              have x4 := (obj_cells AA.out.bx).1 4 _ rfl
              have y4 := (obj_cells AA.out.bxb).1 4 _ rfl
              have z0 : wr.cell? ⟨kb, ko + i, none⟩ = some (.int .i64 i1) := AA.out.rs.bl.cell e0
              have z1 : wr.cell? ⟨kb', ko' + i, none⟩ = some (.int .i64 i2) := AA.out.rs.bl.cell e0'
              have q0 : ∀ X : Ext wr, X.w.cell? ⟨xb, 4, none⟩ = some (.slice (some ⟨kb, ko, none⟩) P kc1) := fun X => X.cell x4
              have q1 : ∀ X : Ext wr, X.w.cell? ⟨yb, 4, none⟩ = some (.slice (some ⟨kb', ko', none⟩) Q kc2) := fun X => X.cell y4
              have q2 : ∀ X : Ext wr, X.w.cell? ⟨kb, ko + i, none⟩ = some (.int .i64 i1) := fun X => X.cell z0
              have q3 : ∀ X : Ext wr, X.w.cell? ⟨kb', ko' + i, none⟩ = some (.int .i64 i2) := fun X => X.cell z1
              have hj0 : (0 : Int) ≤ (i : Int) := by omega
              have hj1 : (i : Int) < (P : Int) := by omega
              have hj2 : (i : Int) < (Q : Int) := by omega
              have SM := Lib.hid (fun (X : Ext wr) => same_any w0 X.w rb ig N cN ra na rr nb (some ⟨ab, ao, none⟩) (some ⟨bb, bo, none⟩) A ca B cb s u l1 L M FF.out (AA.out.rs.later X.below) i1 i2 p q s1 t1)
              have hsz : i2 + q.size ≤ N := by omega
              have WH := Lib.hid (fun (W : World) (hW : Bl wr W) (hz : likeN s.data.toList u.data.toList p q = true) => whole_any w0 rb ig N cN ra na rr nb (some ⟨ab, ao, none⟩) (some ⟨bb, bo, none⟩) A ca B cb s u L M FF.out hN q.size W l1 i1 i2 p q (Nat.le_refl _) hz s1 t1 hsz (AA.out.rs.later hW))
              clear e0 e0' s1 s2 s3 t1 t2 t3 u1 u2 v1 v2 hos hle hys hHN hHC h1 h2
              cases hz : likeN s.data.toList u.data.toList p q with
              | true =>
                rw [hz, if_pos rfl] at E2
                rw [hz] at SM
                have E3 : Hid (i + 1 + aheadC (likeN s.data.toList u.data.toList) ((x.ks.tops (b + 1)).drop (i + 1)) (y.ks.trees.drop (i + 1)) = aheadC (likeN s.data.toList u.data.toList) (x.ks.tops (b + 1)) y.ks.trees) := Lib.hid (by omega)
                have HZ := Lib.hid hz
                clear hz E2
                go_wp2_with fail
                refine wp_region_ext (by kernel_rfl) (by kernel_rfl) ?_
                repeat (go_big_quiet_step (first | (go_at_call 54; exact Ext.calls (SM.out _)) | fail))
                refine wpQuiet_nil ?_
                rintro _ ⟨X, rfl⟩
                clear q0 q1 q2 q3
                have x4 := X.cell x4; have y4 := X.cell y4; have z0 := X.cell z0; have z1 := X.cell z1
                go_wp2_with fail
                go_still_tail 11, (by kernel_rfl)
                clear x4 z0 z1 y4
                have XB : Bl wr X.w.drew := Bl.drew X.below
                have C2 := Lib.hid (WH.out X.w.drew XB HZ.out)
                have A3 := Lib.hid (AA.out.later XB)
                clear XB
                change wpList _ _ _ _ _ X.w.drew
                generalize X.w.drew = w5 at C2 A3 ⊢
                clear WH SM AA
                go_wp2_with (go_at_call 55; refine C2.out.mono ?_; rintro e w6 ⟨rfl, hg6, l2, r6, p6⟩; have A6 := Lib.hid (A3.out.wrote hg6 r6); have P6 := Lib.hid (PS.out _ p6); clear hg6 r6 p6)
                go_roundw
                case rel => exact ⟨i + 1, l2, by go_num, by omega, by omega, E3, A6, P6⟩
                case measure => simp [intOf]; omega
              | false =>
                rw [hz, if_neg (by decide)] at E2
                rw [hz] at SM
                have E3 : Hid (aheadC (likeN s.data.toList u.data.toList) (x.ks.tops (b + 1)) y.ks.trees = i) := Lib.hid (by omega)
                clear hz E2 WH
                go_wp2_with fail
                refine wp_region_ext (by kernel_rfl) (by kernel_rfl) ?_
                repeat (go_big_quiet_step (first | (go_at_call 54; exact Ext.calls (SM.out _)) | fail))
                refine wpQuiet_nil ?_
                rintro _ ⟨X, rfl⟩
                go_wp2_with fail
                go_meet
                exact ⟨i, l1, rfl, hi, hi2, E3, Lib.hid (AA.out.later X.below), PT⟩
            · have d1 : decide ((i : Int) < (P : Int)) = true := decide_eq_true (by omega)
              have d2 : decide ((i : Int) < (Q : Int)) = false := decide_eq_false (by omega)
              have E3 : Hid (aheadC (likeN s.data.toList u.data.toList) (x.ks.tops (b + 1)) y.ks.trees = i) := Lib.hid (by
                have := E.out
                rw [ahead_end (.inr (by rw [KY.out]; omega))] at this; omega)
              go_wp2_with fail
              go_quiet (fail)
              go_wp2_with fail
              go_meet
              exact ⟨i, l1, rfl, hi, hi2, E3, Lib.hid (AA.out.later (dr_below _ _)), PT⟩
          · have d1 : decide ((i : Int) < (P : Int)) = false := decide_eq_false (by omega)
            have E3 : Hid (aheadC (likeN s.data.toList u.data.toList) (x.ks.tops (b + 1)) y.ks.trees = i) := Lib.hid (by
              have := E.out
              rw [ahead_end (.inl (by rw [KX.out]; omega))] at this; omega)
            go_wp2_with fail
            go_quiet (fail)
            go_wp2_with fail
            go_meet
            exact ⟨i, l1, rfl, hi, hi2, E3, Lib.hid (AA.out.later (dr_below _ _)), PT⟩
      case rest =>
        clear A2 PU RR
        obtain ⟨i, l1, rfl, hi, hi2, E1, A1, P1⟩ := hcut
        go_upto_block 2 with fail
        go_cut [9] from 83 to 134 (fun v9 wx => ∃ (j : Nat) (l2 : List Int), v9 = .int .i64 j ∧ i + j ≤ P ∧ i + j ≤ Q ∧ Hid (aheadC (likeN s.data.toList u.data.toList) ((x.ks.tops (b + 1)).drop i).reverse (y.ks.trees.drop i).reverse = j) ∧ Hid (AB w0 w wx rb ig N cN ra na rr nb (some ⟨ab, ao, none⟩) (some ⟨bb, bo, none⟩) A ca B cb s u l2 xb yb #[.int .i64 b, .int .i64 x.kd, .int .i64 x.fr, .int .i64 x.to, .slice kp1 P kc1] #[.int .i64 c, .int .i64 y.kd, .int .i64 y.fr, .int .i64 y.to, .slice kp2 Q kc2]) ∧ Hid (Put l1 l2 (c + 1 + offs y.ks.trees (Q - j)) (TAh (x.ks.tops (b + 1)) y.ks.trees i j)))
        case first =>
          go_wp2_with fail
          go_loopw [9] (fun v9 wr => ∃ (j : Nat) (l2 : List Int), v9 = .int .i64 j ∧ i + j ≤ P ∧ i + j ≤ Q ∧ Hid (j + aheadC (likeN s.data.toList u.data.toList) (((x.ks.tops (b + 1)).drop i).reverse.drop j) ((y.ks.trees.drop i).reverse.drop j) = aheadC (likeN s.data.toList u.data.toList) ((x.ks.tops (b + 1)).drop i).reverse (y.ks.trees.drop i).reverse) ∧ Hid (AB w0 w wr rb ig N cN ra na rr nb (some ⟨ab, ao, none⟩) (some ⟨bb, bo, none⟩) A ca B cb s u l2 xb yb #[.int .i64 b, .int .i64 x.kd, .int .i64 x.fr, .int .i64 x.to, .slice kp1 P kc1] #[.int .i64 c, .int .i64 y.kd, .int .i64 y.fr, .int .i64 y.to, .slice kp2 Q kc2]) ∧ Hid (Put l1 l2 (c + 1 + offs y.ks.trees (Q - j)) (TAh (x.ks.tops (b + 1)) y.ks.trees i j))) (fun v _ => P - (intOf v).toNat)
          case atStart => exact ⟨0, l1, rfl, by omega, by omega, Lib.hid (by rw [List.drop_zero, List.drop_zero, Nat.zero_add]), A1, Lib.hid (by rw [TAh_zero]; exact Put.refl _ _)⟩
          case round =>
            clear A1
            obtain ⟨j, l2, rfl, hj, hj2, E, AA, PT⟩ := hrel
            obtain ⟨AP, hAP⟩ : ∃ a : Nat, a + i = P := ⟨P - i, by omega⟩
            obtain ⟨AQ, hAQ⟩ : ∃ a : Nat, a + i = Q := ⟨Q - i, by omega⟩
            have w1 : IntKind.i64.wrap ((P : Int) - (i : Int)) = (AP : Int) := by rw [IntWalk.i64_in _ (by omega)]; omega
            have w2 : IntKind.i64.wrap ((Q : Int) - (i : Int)) = (AQ : Int) := by rw [IntWalk.i64_in _ (by omega)]; omega
            have HAP := Lib.hid hAP; have HAQ := Lib.hid hAQ
            by_cases g1 : j < AP
            · by_cases g2 : j < AQ
              · have d1 : decide ((j : Int) < (AP : Int)) = true := decide_eq_true (by omega)
                have d2 : decide ((j : Int) < (AQ : Int)) = true := decide_eq_true (by omega)
                obtain ⟨S1, hS1⟩ : ∃ a : Nat, a + 1 = P := ⟨P - 1, by omega⟩
                obtain ⟨T1, hT1⟩ : ∃ a : Nat, a + 1 = Q := ⟨Q - 1, by omega⟩
                obtain ⟨P1, hP1⟩ : ∃ a : Nat, a + j = S1 := ⟨S1 - j, by omega⟩
                obtain ⟨Q1, hQ1⟩ : ∃ a : Nat, a + j = T1 := ⟨T1 - j, by omega⟩
                have w3 : IntKind.i64.wrap ((P : Int) - 1) = (S1 : Int) := by rw [IntWalk.i64_in _ (by omega)]; omega
                have w4 : IntKind.i64.wrap ((S1 : Int) - (j : Int)) = (P1 : Int) := by rw [IntWalk.i64_in _ (by omega)]; omega
                have w5 : IntKind.i64.wrap ((Q : Int) - 1) = (T1 : Int) := by rw [IntWalk.i64_in _ (by omega)]; omega
                have w6 : IntKind.i64.wrap ((T1 : Int) - (j : Int)) = (Q1 : Int) := by rw [IntWalk.i64_in _ (by omega)]; omega
                have hn1 : i + (j + 1) ≤ P := by omega
                have hn2 : i + (j + 1) ≤ Q := by omega
                have hn3 : P - (j + 1) < P - j := by omega
                obtain ⟨⟨i1, p⟩, h1⟩ : ∃ o, (x.ks.tops (b + 1))[P1]? = some o := ⟨_, List.getElem?_eq_getElem (by rw [KX.out]; omega)⟩
                obtain ⟨⟨i2, q⟩, h2⟩ : ∃ o, (y.ks.tops (c + 1))[Q1]? = some o := ⟨_, List.getElem?_eq_getElem (by rw [KY2.out]; omega)⟩
                obtain ⟨s1, s2, s3⟩ := SX.out.kid h1
                obtain ⟨t1, t2, t3⟩ := SY.out.kid h2
                obtain ⟨v1, v2⟩ := tops_at _ _ _ _ h2
                have hos := offs_succ v2
                have hle := offs_le y.ks.trees (Q1 + 1)
                rw [trees_size] at hle
                have hys : y.size = 1 + y.ks.size := rfl
                have hHN := HN.out
                have hHC := HC.out
                dsimp only at s1 s2 s3 t1 t2 t3 v1 hos
                obtain ⟨kb, ko, rfl, e0⟩ := ints_at HR.out s2
                obtain ⟨kb', ko', rfl, e0'⟩ := ints_at HR2.out t2
                have E2 := E.out
                rw [ahead_step (os := ((x.ks.tops (b + 1)).drop i).reverse) (ns := (y.ks.trees.drop i).reverse) (o := (i1, p)) (n := q) (by rw [rev_get (by rw [KX.out]; omega), KX.out, show P - 1 - j = P1 by omega]; exact h1) (by rw [rev_get (by rw [KY.out]; omega), KY.out, show Q - 1 - j = Q1 by omega]; exact v2)] at E2
                dsimp only at E2
                have PS : Hid (∀ l3, Put l2 l3 i2 (rg i1 q.size) → Put l1 l3 (c + 1 + offs y.ks.trees (Q - (j + 1))) (TAh (x.ks.tops (b + 1)) y.ks.trees i (j + 1))) := Lib.hid (fun l3 h => by
                  rw [TAh_step (o := (i1, p)) (q := q) (by rw [KX.out]; omega) (by rw [KY.out]; omega) (by rw [KX.out, show P - 1 - j = P1 by omega]; exact h1) (by rw [KY.out, show Q - 1 - j = Q1 by omega]; exact v2)]
                  rw [show Q - (j + 1) = Q1 by omega, ← v1]
                  exact PT.out.pre h (by rw [rg_len, show Q - j = Q1 + 1 by omega]; omega))
                have x4 := (obj_cells AA.out.bx).1 4 _ rfl
                have y4 := (obj_cells AA.out.bxb).1 4 _ rfl
                have z0 : wr.cell? ⟨kb, ko + P1, none⟩ = some (.int .i64 i1) := AA.out.rs.bl.cell e0
                have z1 : wr.cell? ⟨kb', ko' + Q1, none⟩ = some (.int .i64 i2) := AA.out.rs.bl.cell e0'
                have q0 : ∀ X : Ext wr, X.w.cell? ⟨xb, 4, none⟩ = some (.slice (some ⟨kb, ko, none⟩) P kc1) := fun X => X.cell x4
                have q1 : ∀ X : Ext wr, X.w.cell? ⟨yb, 4, none⟩ = some (.slice (some ⟨kb', ko', none⟩) Q kc2) := fun X => X.cell y4
                have q2 : ∀ X : Ext wr, X.w.cell? ⟨kb, ko + P1, none⟩ = some (.int .i64 i1) := fun X => X.cell z0
                have q3 : ∀ X : Ext wr, X.w.cell? ⟨kb', ko' + Q1, none⟩ = some (.int .i64 i2) := fun X => X.cell z1
                have hj0 : (0 : Int) ≤ (P1 : Int) := by omega
                have hj1 : (P1 : Int) < (P : Int) := by omega
                have hj3 : (0 : Int) ≤ (Q1 : Int) := by omega
                have hj4 : (Q1 : Int) < (Q : Int) := by omega
                have SM := Lib.hid (fun (X : Ext wr) => same_any w0 X.w rb ig N cN ra na rr nb (some ⟨ab, ao, none⟩) (some ⟨bb, bo, none⟩) A ca B cb s u l2 L M FF.out (AA.out.rs.later X.below) i1 i2 p q s1 t1)
                have hsz : i2 + q.size ≤ N := by omega
                have WH := Lib.hid (fun (W : World) (hW : Bl wr W) (hz : likeN s.data.toList u.data.toList p q = true) => whole_any w0 rb ig N cN ra na rr nb (some ⟨ab, ao, none⟩) (some ⟨bb, bo, none⟩) A ca B cb s u L M FF.out hN q.size W l2 i1 i2 p q (Nat.le_refl _) hz s1 t1 hsz (AA.out.rs.later hW))
                clear e0 e0' s1 s2 s3 t1 t2 t3 v1 v2 hos hle hys hHN hHC h1 h2 hAP hAQ hS1 hT1 hP1 hQ1
                cases hz : likeN s.data.toList u.data.toList p q with
                | true =>
                  rw [hz, if_pos rfl] at E2
                  rw [hz] at SM
                  have E3 : Hid (j + 1 + aheadC (likeN s.data.toList u.data.toList) (((x.ks.tops (b + 1)).drop i).reverse.drop (j + 1)) ((y.ks.trees.drop i).reverse.drop (j + 1)) = aheadC (likeN s.data.toList u.data.toList) ((x.ks.tops (b + 1)).drop i).reverse (y.ks.trees.drop i).reverse) := Lib.hid (by omega)
                  have HZ := Lib.hid hz
                  clear hz E2
                  go_wp2_with fail
                  refine wp_region_ext (by kernel_rfl) (by kernel_rfl) ?_
                  repeat (go_big_quiet_step (first | (go_at_call 54; exact Ext.calls (SM.out _)) | fail))
                  refine wpQuiet_nil ?_
                  rintro _ ⟨X, rfl⟩
                  clear q0 q1 q2 q3
                  have x4 := X.cell x4; have y4 := X.cell y4; have z0 := X.cell z0; have z1 := X.cell z1
                  go_wp2_with fail
                  go_still_tail 17, (by kernel_rfl)
                  clear x4 z0 z1 y4
                  have XB : Bl wr X.w.drew := Bl.drew X.below
                  have C2 := Lib.hid (WH.out X.w.drew XB HZ.out)
                  have A3 := Lib.hid (AA.out.later XB)
                  clear XB
                  change wpList _ _ _ _ _ X.w.drew
                  generalize X.w.drew = w5 at C2 A3 ⊢
                  clear WH SM AA
                  go_wp2_with (go_at_call 55; refine C2.out.mono ?_; rintro e w6 ⟨rfl, hg6, l3, r6, p6⟩; have A6 := Lib.hid (A3.out.wrote hg6 r6); have P6 := Lib.hid (PS.out _ p6); clear hg6 r6 p6)
                  go_roundw
                  case rel => exact ⟨j + 1, l3, by go_num, hn1, hn2, E3, A6, P6⟩
                  case measure => simp [intOf]; omega
                | false =>
                  rw [hz, if_neg (by decide)] at E2
                  rw [hz] at SM
                  have E3 : Hid (aheadC (likeN s.data.toList u.data.toList) ((x.ks.tops (b + 1)).drop i).reverse (y.ks.trees.drop i).reverse = j) := Lib.hid (by omega)
                  clear hz E2 WH
                  go_wp2_with fail
                  refine wp_region_ext (by kernel_rfl) (by kernel_rfl) ?_
                  repeat (go_big_quiet_step (first | (go_at_call 54; exact Ext.calls (SM.out _)) | fail))
                  refine wpQuiet_nil ?_
                  rintro _ ⟨X, rfl⟩
                  go_wp2_with fail
                  go_meet
                  exact ⟨j, l2, rfl, hj, hj2, E3, Lib.hid (AA.out.later X.below), PT⟩
              · have d1 : decide ((j : Int) < (AP : Int)) = true := decide_eq_true (by omega)
                have d2 : decide ((j : Int) < (AQ : Int)) = false := decide_eq_false (by omega)
                have E3 : Hid (aheadC (likeN s.data.toList u.data.toList) ((x.ks.tops (b + 1)).drop i).reverse (y.ks.trees.drop i).reverse = j) := Lib.hid (by
                  have := E.out
                  rw [ahead_end (.inr (by rw [List.length_reverse, List.length_drop, KY.out]; omega))] at this; omega)
                clear hAP hAQ
                go_wp2_with fail
                go_quiet (fail)
                go_wp2_with fail
                go_meet
                exact ⟨j, l2, rfl, hj, hj2, E3, Lib.hid (AA.out.later (dr_below _ _)), PT⟩
            · have d1 : decide ((j : Int) < (AP : Int)) = false := decide_eq_false (by omega)
              have E3 : Hid (aheadC (likeN s.data.toList u.data.toList) ((x.ks.tops (b + 1)).drop i).reverse (y.ks.trees.drop i).reverse = j) := Lib.hid (by
                have := E.out
                rw [ahead_end (.inl (by rw [List.length_reverse, List.length_drop, KX.out]; omega))] at this; omega)
              clear hAP hAQ
              go_wp2_with fail
              go_quiet (fail)
              go_wp2_with fail
              go_meet
              exact ⟨j, l2, rfl, hj, hj2, E3, Lib.hid (AA.out.later (dr_below _ _)), PT⟩
        case rest =>
          clear A1
          obtain ⟨j, l2, rfl, hj, hj2, E2, A3, P2⟩ := hcut
          obtain ⟨AP, hAP⟩ : ∃ a : Nat, a + j = P := ⟨P - j, by omega⟩
          obtain ⟨AQ, hAQ⟩ : ∃ a : Nat, a + j = Q := ⟨Q - j, by omega⟩
          have w1 : IntKind.i64.wrap ((P : Int) - (j : Int)) = (AP : Int) := by rw [IntWalk.i64_in _ (by omega)]; omega
          have w2 : IntKind.i64.wrap ((Q : Int) - (j : Int)) = (AQ : Int) := by rw [IntWalk.i64_in _ (by omega)]; omega
          have HAP := Lib.hid hAP; have HAQ := Lib.hid hAQ
          have hiA : i ≤ AP := by omega
          have hiQ : i ≤ AQ := by omega
          clear hAP hAQ hj hj2
          go_wp2_with fail
          go_loopw [12] (fun v12 wr => ∃ (k : Nat) (l3 : List Int), v12 = .int .i64 k ∧ i ≤ k ∧ k ≤ AP ∧ k ≤ AQ ∧ Hid (AB w0 w wr rb ig N cN ra na rr nb (some ⟨ab, ao, none⟩) (some ⟨bb, bo, none⟩) A ca B cb s u l3 xb yb #[.int .i64 b, .int .i64 x.kd, .int .i64 x.fr, .int .i64 x.to, .slice kp1 P kc1] #[.int .i64 c, .int .i64 y.kd, .int .i64 y.fr, .int .i64 y.to, .slice kp2 Q kc2]) ∧ Hid (Put l2 l3 (c + 1 + offs y.ks.trees i) (MAh (alA s.data.toList u.data.toList n) (x.ks.tops (b + 1)) y.ks.trees i j (k - i)))) (fun v _ => AP - (intOf v).toNat)
          case atStart => exact ⟨i, l2, rfl, by omega, hiA, hiQ, A3, Lib.hid (by rw [Nat.sub_self, MAh_zero]; exact Put.refl _ _)⟩
          case round =>
            clear A3
            obtain ⟨k, l3, rfl, hik, hkP, hkQ, AA, PT⟩ := hrel
            have hm := fun (m : Nat) (hm : m < y.size) => HM.out m hm
            by_cases g1 : k < AP
            · by_cases g2 : k < AQ
              · have d1 : decide ((k : Int) < (AP : Int)) = true := decide_eq_true (by omega)
                have d2 : decide ((k : Int) < (AQ : Int)) = true := decide_eq_true (by omega)
                have hAP := HAP.out; have hAQ := HAQ.out
                obtain ⟨⟨i1, p⟩, h1⟩ : ∃ o, (x.ks.tops (b + 1))[k]? = some o := ⟨_, List.getElem?_eq_getElem (by rw [KX.out]; omega)⟩
                obtain ⟨⟨i2, q⟩, h2⟩ : ∃ o, (y.ks.tops (c + 1))[k]? = some o := ⟨_, List.getElem?_eq_getElem (by rw [KY2.out]; omega)⟩
                obtain ⟨s1, s2, s3⟩ := SX.out.kid h1
                obtain ⟨t1, t2, t3⟩ := SY.out.kid h2
                obtain ⟨v1, v2⟩ := tops_at _ _ _ _ h2
                have hos := offs_succ v2
                have hle := offs_le y.ks.trees (k + 1)
                rw [trees_size] at hle
                have hys : y.size = 1 + y.ks.size := rfl
                have hHN := HN.out
                have hHC := HC.out
                dsimp only at s1 s2 s3 t1 t2 t3 v1 hos
                obtain ⟨kb, ko, rfl, e0⟩ := ints_at HR.out s2
                obtain ⟨kb', ko', rfl, e0'⟩ := ints_at HR2.out t2
                obtain ⟨gb, go2, kpp, kcc, ee, hatp, -⟩ := FF.out.rL i1 _ s1.get
                cases ee
                obtain ⟨gb2, go3, kpq, kcq, ee, hatq, -⟩ := FF.out.rM i2 _ t1.get
                cases ee
                have f1 := FAh_len (b := b) (os := x.ks.tops (b + 1)) (ns := y.ks.trees) (i := i) (by rw [KX.out]; omega) (by rw [KY.out]; omega)
                have f2 := TAh_len (os := x.ks.tops (b + 1)) (ns := y.ks.trees) (i := i) (j := j) (by rw [KX.out]; omega) (by rw [KY.out]; omega)
                have f3 := MAh_len (g := alA s.data.toList u.data.toList n) (al_len n) (os := x.ks.tops (b + 1)) (ns := y.ks.trees) (i := i) (j := j) hik (by rw [KY.out]; omega)
                have f4 := offs_mono y.ks.trees hik
                have f5 := offs_mono y.ks.trees (show k + 1 ≤ Q - j by omega)
                have f6 := trees_size y.ks
                rw [KY.out] at f2
                have NEG2 : ∀ m, m < q.size → l2[i2 + m]? = some (-1) := fun m hm2 => by
                  rw [P2.out.out _ (by omega), P1.out.out _ (by omega)]
                  have := hm (i2 - c + m) (by omega)
                  rwa [show c + (i2 - c + m) = i2 + m by omega] at this
                have NEG3 : ∀ m, m < q.size → l3[i2 + m]? = some (-1) := fun m hm2 => by
                  rw [PT.out.out _ (by omega)]; exact NEG2 m hm2
                have MS := MAh_step (g := alA s.data.toList u.data.toList n) (os := x.ks.tops (b + 1)) (ns := y.ks.trees) (i := i) (j := j) (k := k) (o := (i1, p)) (q := q) hik (by rw [KX.out]; omega) (by rw [KY.out]; omega) h1 v2
                dsimp only at MS
                have x4 := (obj_cells AA.out.bx).1 4 _ rfl
                have y4 := (obj_cells AA.out.bxb).1 4 _ rfl
                have z0 : wr.cell? ⟨kb, ko + k, none⟩ = some (.int .i64 i1) := AA.out.rs.bl.cell e0
                have z1 : wr.cell? ⟨kb', ko' + k, none⟩ = some (.int .i64 i2) := AA.out.rs.bl.cell e0'
                have z2 : wr.cell? ⟨ab, ao + i1 * 5 + 1, none⟩ = some (.int .i64 p.kd) := AA.out.rs.bl.cell (hatp 1 _ rfl)
                have z3 : wr.cell? ⟨bb, bo + i2 * 5 + 1, none⟩ = some (.int .i64 q.kd) := AA.out.rs.bl.cell (hatq 1 _ rfl)
                have q0 : ∀ X : Ext wr, X.w.cell? ⟨xb, 4, none⟩ = some (.slice (some ⟨kb, ko, none⟩) P kc1) := fun X => X.cell x4
                have q1 : ∀ X : Ext wr, X.w.cell? ⟨yb, 4, none⟩ = some (.slice (some ⟨kb', ko', none⟩) Q kc2) := fun X => X.cell y4
                have q2 : ∀ X : Ext wr, X.w.cell? ⟨kb, ko + k, none⟩ = some (.int .i64 i1) := fun X => X.cell z0
                have q3 : ∀ X : Ext wr, X.w.cell? ⟨kb', ko' + k, none⟩ = some (.int .i64 i2) := fun X => X.cell z1
                have q4 : ∀ X : Ext wr, X.w.cell? ⟨ab, ao + i1 * 5 + 1, none⟩ = some (.int .i64 p.kd) := fun X => X.cell z2
                have q5 : ∀ X : Ext wr, X.w.cell? ⟨bb, bo + i2 * 5 + 1, none⟩ = some (.int .i64 q.kd) := fun X => X.cell z3
                have q6 : ∀ X : Ext wr, X.w.cell? ⟨rb, 0, none⟩ = some (.int .i64 ra) := fun X => X.cell ((obj_cells AA.out.rs.obj).1 0 _ rfl)
                have q7 : ∀ X : Ext wr, X.w.cell? ⟨rb, 1, none⟩ = some (.int .i64 na) := fun X => X.cell ((obj_cells AA.out.rs.obj).1 1 _ rfl)
                have q8 : ∀ X : Ext wr, X.w.cell? ⟨rb, 2, none⟩ = some (.slice (some ⟨ab, ao, none⟩) A ca) := fun X => X.cell ((obj_cells AA.out.rs.obj).1 2 _ rfl)
                have q9 : ∀ X : Ext wr, X.w.cell? ⟨rb, 6, none⟩ = some (.slice (some ⟨bb, bo, none⟩) B cb) := fun X => X.cell ((obj_cells AA.out.rs.obj).1 6 _ rfl)
                have i1A : i1 < A := by have := s1.lt; rwa [FF.out.hA] at this
                have i2B : i2 < B := by have := t1.lt; rwa [FF.out.hB] at this
                have FX := Lib.hid (fun (X : Ext wr) => FD.out X.w (AA.out.rs.bl.call X.below) i1 i1A)
                have hj0 : (0 : Int) ≤ (k : Int) := by omega
                have hj1 : (k : Int) < (P : Int) := by omega
                have hj2 : (k : Int) < (Q : Int) := by omega
                have hj3 : (0 : Int) ≤ (i1 : Int) := by omega
                have hj4 : (i1 : Int) < (A : Int) := by omega
                have hj5 : (0 : Int) ≤ (i2 : Int) := by omega
                have hj6 : (i2 : Int) < (B : Int) := by omega
                have AL := Lib.hid (fun (W : World) (hW : Bl wr W) => IH.out W l3 i1 i2 p q (by omega) s1 t1 (by omega) NEG3 (AA.out.rs.later hW))
                by_cases hkd : p.kd = q.kd
                · have qk : ((p.kd : Int) == (q.kd : Int)) = true := by simp [hkd]
                  rw [if_pos hkd] at MS
                  have PS : Hid (∀ l4, Put l3 l4 i2 (segV (alA s.data.toList u.data.toList n i1 p q)) → Put l2 l4 (c + 1 + offs y.ks.trees i) (MAh (alA s.data.toList u.data.toList n) (x.ks.tops (b + 1)) y.ks.trees i j (k + 1 - i))) := Lib.hid (fun l4 h => by
                    rw [MS]
                    exact PT.out.app h (by omega))
                  clear e0 e0' s1 s2 s3 t1 t2 t3 v1 v2 hos hle hys hHN hHC h1 h2 hatp hatq f1 f2 f3 f4 f5 f6 NEG2 NEG3 MS hkd hAP hAQ hm
                  go_wp2_with fail
                  refine wp_region_ext (by kernel_rfl) (by kernel_rfl) ?_
                  repeat (go_big_quiet_step (first | (go_at_call 24; exact Ext.calls (FX.out _)) | fail))
                  refine wpQuiet_nil ?_
                  rintro _ ⟨X, rfl⟩
                  clear q0 q1 q2 q3 q4 q5 q6 q7 q8 q9 qk z2 z3
                  have x4 := X.cell x4; have y4 := X.cell y4; have z0 := X.cell z0; have z1 := X.cell z1
                  go_wp2_with fail
                  go_still_tail 11, (by kernel_rfl)
                  clear x4 z0 z1 y4
                  have XB : Bl wr X.w.drew := Bl.drew X.below
                  have C2 := Lib.hid (AL.out X.w.drew XB)
                  have A4 := Lib.hid (AA.out.later XB)
                  clear XB
                  change wpList _ _ _ _ _ X.w.drew
                  generalize X.w.drew = w5 at C2 A4 ⊢
                  clear AL AA FX
                  go_wp2_with (go_at_call 38; refine C2.out.mono ?_; rintro e w6 ⟨rfl, hg6, l4, r6, p6⟩; have A6 := Lib.hid (A4.out.wrote hg6 r6); have P6 := Lib.hid (PS.out _ p6); clear hg6 r6 p6)
                  go_roundw
                  case rel => exact ⟨k + 1, l4, by go_num, by omega, by omega, by omega, A6, P6⟩
                  case measure => simp [intOf]; omega
                · have qk : ((p.kd : Int) == (q.kd : Int)) = false := by simp; omega
                  rw [if_neg hkd] at MS
                  have P6 : Hid (Put l2 l3 (c + 1 + offs y.ks.trees i) (MAh (alA s.data.toList u.data.toList n) (x.ks.tops (b + 1)) y.ks.trees i j (k + 1 - i))) := Lib.hid (by
                    rw [MS]
                    exact PT.out.gap _ (fun m hm2 => by
                      have := NEG2 m hm2
                      rw [← this]; congr 1; omega))
                  clear e0 e0' s1 s2 s3 t1 t2 t3 v1 v2 hos hle hys hHN hHC h1 h2 hatp hatq f1 f2 f3 f4 f5 f6 NEG2 NEG3 MS hkd hAP hAQ hm AL
                  go_wp2_with fail
                  refine wp_region_ext (by kernel_rfl) (by kernel_rfl) ?_
                  repeat (go_big_quiet_step (first | (go_at_call 24; exact Ext.calls (FX.out _)) | fail))
                  refine wpQuiet_nil ?_
                  rintro _ ⟨X, rfl⟩
                  clear q0 q1 q2 q3 q4 q5 q6 q7 q8 q9 qk z2 z3 x4 y4 z0 z1
                  have A6 := Lib.hid (AA.out.later X.below)
                  go_wp2_with fail
                  go_roundw
                  case rel => exact ⟨k + 1, l3, by go_num, by omega, by omega, by omega, A6, P6⟩
                  case measure => simp [intOf]; omega
              · have d1 : decide ((k : Int) < (AP : Int)) = true := decide_eq_true (by omega)
                have d2 : decide ((k : Int) < (AQ : Int)) = false := decide_eq_false (by omega)
                have FN : Hid (Put l l3 c (segV (alA s.data.toList u.data.toList (n + 1) b x y))) := Lib.hid (by
                  have hAP := HAP.out; have hAQ := HAQ.out
                  exact al_put E1.out E2.out P1.out (by rw [KY.out]; exact P2.out) PT.out hik (by rw [KX.out]; omega) (by rw [KY.out]; omega) (.inr (by rw [KY.out]; omega)) HM.out)
                clear hm
                go_wp2_with fail
                (try simp only [Exit.inBlock, Exit.then])
                refine bodyPost_ret (results_none rfl _ _ _) rfl ?_
                exact ⟨rfl, AA.out.g, l3, AA.out.rs, FN.out⟩
            · have d1 : decide ((k : Int) < (AP : Int)) = false := decide_eq_false (by omega)
              have FN : Hid (Put l l3 c (segV (alA s.data.toList u.data.toList (n + 1) b x y))) := Lib.hid (by
                have hAP := HAP.out; have hAQ := HAQ.out
                exact al_put E1.out E2.out P1.out (by rw [KY.out]; exact P2.out) PT.out hik (by rw [KX.out]; omega) (by rw [KY.out]; omega) (.inl (by rw [KX.out]; omega)) HM.out)
              clear hm
              go_wp2_with fail
              (try simp only [Exit.inBlock, Exit.then])
              refine bodyPost_ret (results_none rfl _ _ _) rfl ?_
              exact ⟨rfl, AA.out.g, l3, AA.out.rs, FN.out⟩

end Go.Proofs.Ytmeigoeknjoodaa
