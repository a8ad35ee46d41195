/-
  The walk of whole. Conditions: as each theorem's premises say.
-/
import Derived.Test.YtmeigoeknjoodaaRw4
namespace Go.Proofs.Ytmeigoeknjoodaa
open Go.RowKit

theorem offs_le (ns : List Nt) (k : Nat) : offs ns k ≤ (ns.map Nt.size).sum := by
  unfold offs
  conv => rhs; rw [← List.take_append_drop k ns, List.map_append, List.sum_append]
  omega

set_option maxRecDepth 100000 in
set_option maxHeartbeats 8000000 in
theorem whole_any (w0 : World) (rb ig N cN : Nat) (ra na rr nb : Int) (pa pb : Option Addr) (A ca B cb : Nat) (s u : ByteArray) (L M : List Nd) (F : RF w0 pa pb A B s u L M) (hN : N ≤ 4096) :
    ∀ (n : Nat) (w : World) (l : List Int) (b c : Nat) (x y : Nt), y.size ≤ n → likeN s.data.toList u.data.toList x y = true → Sub L s.size b x → Sub M u.size c y → c + y.size ≤ N →
      RS w0 w rb ig N cN ra na rr nb pa pb A ca B cb s u l →
      Calls Try.prog 55 #[.pointer (some ⟨rb, 0, none⟩), .int .i64 b, .int .i64 c] w (WrP w0 w rb ig N cN ra na rr nb pa pb A ca B cb s u l c (rg b y.size)) := by
  intro n
  induction n with
  | zero => intro w l b c x y hn; unfold Nt.size at hn; omega
  | succ n ih =>
    intro w l b c x y hn hlk hx hy hcN R
    have bA : b < A := by rw [← F.hA]; exact hx.lt
    have cB : c < B := by rw [← F.hB]; exact hy.lt
    have cN1 : c < N := by have : y.size = 1 + y.ks.size := rfl; omega
    have IH := Lib.hid ih; have FF := Lib.hid F; have RR := Lib.hid R; have SX := Lib.hid hx; have SY := Lib.hid hy; have LK := Lib.hid (like_kids hlk); have HN := Lib.hid hn; have HC := Lib.hid hcN
    obtain ⟨ab, ao, kp1, kc1, rfl, hat, hr⟩ := F.rL b _ hx.get
    obtain ⟨bb, bo, kp2, kc2, rfl, hat2, hr2⟩ := F.rM c _ hy.get
    have R0 := R.bl
    have FC := Lib.hid (fun (W : World) (hW : Bl w W) => (fd_par F.iL (show b < L.length by rw [F.hA]; exact bA)) ▸ find_eq ra na _ L A ca F.hA (b : Int) W (F.rL.below (R0.call hW)) (by have := F.lA; omega))
    unfold trV at *
    have O := Lib.hid R.obj
    have HR := Lib.hid hr; have HR2 := Lib.hid hr2
    have hk1 : (x.ks.ids idI (b + 1)).length = x.ks.trees.length := trees_len ..
    have hk2 : (y.ks.ids idI (c + 1)).length = y.ks.trees.length := trees_len ..
    have hkk := (like_pairs LK.out).1
    have hks : y.ks.trees.length ≤ 4096 := by
      have h1 := tops_len_size y.ks
      have h2 := size_row hy
      rw [F.hB] at h2
      have := F.lB; omega
    have n0 : w.cell? ⟨ab, ao + b * 5, none⟩ = some (.int .i64 b) := R0.cell (hat 0 _ rfl)
    have n1 : w.cell? ⟨ab, ao + b * 5 + 1, none⟩ = some (.int .i64 x.kd) := R0.cell (hat 1 _ rfl)
    have n2 : w.cell? ⟨ab, ao + b * 5 + 2, none⟩ = some (.int .i64 x.fr) := R0.cell (hat 2 _ rfl)
    have n3 : w.cell? ⟨ab, ao + b * 5 + 3, none⟩ = some (.int .i64 x.to) := R0.cell (hat 3 _ rfl)
    have n4 : w.cell? ⟨ab, ao + b * 5 + 4, none⟩ = some (.slice kp1 (x.ks.ids idI (b + 1)).length kc1) := R0.cell (hat 4 _ rfl)
    have m0 : w.cell? ⟨bb, bo + c * 5, none⟩ = some (.int .i64 c) := R0.cell (hat2 0 _ rfl)
    have m1 : w.cell? ⟨bb, bo + c * 5 + 1, none⟩ = some (.int .i64 y.kd) := R0.cell (hat2 1 _ rfl)
    have m2 : w.cell? ⟨bb, bo + c * 5 + 2, none⟩ = some (.int .i64 y.fr) := R0.cell (hat2 2 _ rfl)
    have m3 : w.cell? ⟨bb, bo + c * 5 + 3, none⟩ = some (.int .i64 y.to) := R0.cell (hat2 3 _ rfl)
    have m4 : w.cell? ⟨bb, bo + c * 5 + 4, none⟩ = some (.slice kp2 (y.ks.ids idI (c + 1)).length kc2) := R0.cell (hat2 4 _ rfl)
    rw [hk1, hkk] at n4
    rw [hk2] at m4
    generalize hK : y.ks.trees.length = K at *
    have KX := Lib.hid hkk; have KY := Lib.hid hK
    have qa0 : ∀ W, Bl w W → W.cell? ⟨rb, 0, none⟩ = some (.int .i64 ra) := fun W hW => hW.cell ((obj_cells O.out).1 0 _ rfl)
    have qa1 : ∀ W, Bl w W → W.cell? ⟨rb, 1, none⟩ = some (.int .i64 na) := fun W hW => hW.cell ((obj_cells O.out).1 1 _ rfl)
    have qa2 : ∀ W, Bl w W → W.cell? ⟨rb, 2, none⟩ = some (.slice (some ⟨ab, ao, none⟩) A ca) := fun W hW => hW.cell ((obj_cells O.out).1 2 _ rfl)
    have qa6 : ∀ W, Bl w W → W.cell? ⟨rb, 6, none⟩ = some (.slice (some ⟨bb, bo, none⟩) B cb) := fun W hW => hW.cell ((obj_cells O.out).1 6 _ rfl)
    have qn0 : ∀ W, Bl w W → W.cell? ⟨ab, ao + b * 5, none⟩ = some (.int .i64 b) := fun W hW => hW.cell n0
    have qn1 : ∀ W, Bl w W → W.cell? ⟨ab, ao + b * 5 + 1, none⟩ = some (.int .i64 x.kd) := fun W hW => hW.cell n1
    have qn2 : ∀ W, Bl w W → W.cell? ⟨ab, ao + b * 5 + 2, none⟩ = some (.int .i64 x.fr) := fun W hW => hW.cell n2
    have qn3 : ∀ W, Bl w W → W.cell? ⟨ab, ao + b * 5 + 3, none⟩ = some (.int .i64 x.to) := fun W hW => hW.cell n3
    have qn4 : ∀ W, Bl w W → W.cell? ⟨ab, ao + b * 5 + 4, none⟩ = some (.slice kp1 K kc1) := fun W hW => hW.cell n4
    have qm0 : ∀ W, Bl w W → W.cell? ⟨bb, bo + c * 5, none⟩ = some (.int .i64 c) := fun W hW => hW.cell m0
    have qm1 : ∀ W, Bl w W → W.cell? ⟨bb, bo + c * 5 + 1, none⟩ = some (.int .i64 y.kd) := fun W hW => hW.cell m1
    have qm2 : ∀ W, Bl w W → W.cell? ⟨bb, bo + c * 5 + 2, none⟩ = some (.int .i64 y.fr) := fun W hW => hW.cell m2
    have qm3 : ∀ W, Bl w W → W.cell? ⟨bb, bo + c * 5 + 3, none⟩ = some (.int .i64 y.to) := fun W hW => hW.cell m3
    have qm4 : ∀ W, Bl w W → W.cell? ⟨bb, bo + c * 5 + 4, none⟩ = some (.slice kp2 K kc2) := fun W hW => hW.cell m4
    have hb0 : (0 : Int) ≤ (b : Int) := by omega
    have hb1 : (b : Int) < (A : Int) := by omega
    have hc0 : (0 : Int) ≤ (c : Int) := by omega
    have hc1 : (c : Int) < (B : Int) := by omega
    have hc2 : (c : Int) < (N : Int) := by omega
    clear ih F R hx hy hat hat2 hr hr2 R0 hlk hn hcN n0 n1 n2 n3 n4 m0 m1 m2 m3 m4 hk1 hk2 hkk hK
    go_enter Try.func55, Try.ntmps55
    go_upto_region 0 with fail
    go_cut [6, 7] (fun v1 v2 wx => TwoN w wx v1 v2 [.int .i64 b, .int .i64 x.kd, .int .i64 x.fr, .int .i64 x.to, .slice kp1 K kc1] [.int .i64 c, .int .i64 y.kd, .int .i64 y.fr, .int .i64 y.to, .slice kp2 K kc2])
    case first =>
      have S00 := Bl.refl w
      have l0 : w.heap.size ≤ w.heap.size := Nat.le_refl _
      go_region_held3 (fun W => Bl w W) ((repeat (first | with_reducible assumption | with_reducible refine Bl.alloc ?_ _ | with_reducible refine Bl.drew ?_ | (with_reducible refine Bl.set ?_ ?h _; case h => omega))))
        (first | (go_at_call 24; refine (FC.out _ (by assumption)).mono ?_; rintro e w5 ⟨rfl, rfl⟩) | fail)
      all_goals
        go_wp2_with fail
        go_meet
        refine ⟨_, _, rfl, rfl, ?_, ?_, ?_⟩
        · show (World.alloc _ _).heap[_]? = _
          repeat (first | exact heap_new (by simp) _ _ | refine heap_old ?_ _)
        · show (World.alloc _ _).heap[_]? = _
          repeat (first | exact heap_new (by simp) _ _ | refine heap_old ?_ _)
        · exact Bl.drew (Bl.alloc (Bl.alloc (Bl.alloc (Bl.refl _) _) _) _)
    case rest =>
      obtain ⟨xb, yb, rfl, rfl, X, Y, hbx⟩ := hcut
      have R1 := RR.out.later hbx
      obtain ⟨v, hv, hl⟩ := R1.cell cN1
      have hf := R1.ids.frozen c
      have o8 := (obj_cells R1.obj).1 8 _ rfl
      have R2 := Lib.hid (R1.set cN1 (b : Int))
      have PU := Lib.hid (Put.set (l := l) (a := c) (by rw [R1.len]; exact cN1) (b : Int))
      have G2 := Lib.hid (grown_trans (grown_of_below hbx (some ig)) (set_grown _ ig c (.int .i64 b)) (fun g e => .inl e))
      have X2 := Lib.hid (heap_grown X (set_grown _ ig c (.int .i64 b)) R1.ids (by decide))
      have Y2 := Lib.hid (heap_grown Y (set_grown _ ig c (.int .i64 b)) R1.ids (by decide))
      clear qa0 qa1 qa2 qa6 qn0 qn1 qn2 qn3 qn4 qm0 qm1 qm2 qm3 qm4 hbx X Y R1 hl FC
      go_upto_region 3 with fail
      generalize (wc.setCell ⟨ig, c, none⟩ (.int .i64 b)) = w3 at R2 G2 X2 Y2 ⊢
      clear hv hf o8
      go_loopw [8] (fun v wr => ∃ (j : Nat) (l' : List Int), j ≤ K ∧ v = .int .i64 j ∧ Hid (RS w0 wr rb ig N cN ra na rr nb (some ⟨ab, ao, none⟩) (some ⟨bb, bo, none⟩) A ca B cb s u l') ∧ Hid (Put l l' c (rg b (1 + offs y.ks.trees j))) ∧ Hid (w.grownBy wr (some ig)) ∧
        Hid (wr.heap[xb]? = some (.cells #[.int .i64 b, .int .i64 x.kd, .int .i64 x.fr, .int .i64 x.to, .slice kp1 K kc1] 46 (0, 0))) ∧ Hid (wr.heap[yb]? = some (.cells #[.int .i64 c, .int .i64 y.kd, .int .i64 y.fr, .int .i64 y.to, .slice kp2 K kc2] 46 (0, 0)))) (fun v _ => K - (intOf v).toNat)
      case atStart => exact ⟨0, _, by omega, rfl, R2, PU, G2, X2, Y2⟩
      case round =>
        clear R2 PU G2 X2 Y2 RR
        obtain ⟨j, l', hj, rfl, R, P, G, X, Y⟩ := hrel
        have y4 := (obj_cells Y.out).1 4 _ rfl
        by_cases hlt : j < K
        · obtain ⟨⟨i1, p⟩, h1⟩ : ∃ o, (x.ks.tops (b + 1))[j]? = some o := ⟨_, List.getElem?_eq_getElem (by rw [← List.length_map (f := Prod.snd), tops_snd, KX.out]; exact hlt)⟩
          obtain ⟨⟨i2, q⟩, h2⟩ : ∃ o, (y.ks.tops (c + 1))[j]? = some o := ⟨_, List.getElem?_eq_getElem (by rw [← List.length_map (f := Prod.snd), tops_snd, KY.out]; exact hlt)⟩
          obtain ⟨s1, s2, s3⟩ := SX.out.kid h1
          obtain ⟨t1, t2, t3⟩ := SY.out.kid h2
          obtain ⟨u1, u2⟩ := tops_at _ _ _ _ h1
          obtain ⟨v1, v2⟩ := tops_at _ _ _ _ h2
          have hpq := (like_pairs LK.out).2 j p q u2 v2
          have hof := like_offs LK.out j
          have hos := offs_succ v2
          have hle := offs_le y.ks.trees (j + 1)
          rw [trees_size] at hle
          have hys : y.size = 1 + y.ks.size := rfl
          have hHN := HN.out
          have hHC := HC.out
          dsimp only at s1 s2 s3 t1 t2 t3 u1 v1 hos
          have CALL := Lib.hid (fun (W : World) (hW : Bl wr W) => IH.out W l' i1 i2 p q (by omega) hpq s1 t1 (by omega) (R.out.later hW))
          have CC : Hid (∀ l'', Put l' l'' i2 (rg i1 q.size) → Put l l'' c (rg b (1 + offs y.ks.trees (j + 1)))) := Lib.hid (fun l'' h => by
            have := P.out.app h (by rw [rg_len]; omega)
            rw [show i1 = b + (1 + offs y.ks.trees j) by omega, ← rg_app] at this
            rw [hos, ← Nat.add_assoc]; exact this)
          obtain ⟨kb, ko, rfl, e0⟩ := ints_at HR.out s2
          obtain ⟨kb', ko', rfl, e0'⟩ := ints_at HR2.out t2
          have x4 := (obj_cells X.out).1 4 _ rfl
          have z0 : wr.cell? ⟨kb, ko + j, none⟩ = some (.int .i64 i1) := R.out.bl.cell e0
          have z1 : wr.cell? ⟨kb', ko' + j, none⟩ = some (.int .i64 i2) := R.out.bl.cell e0'
          have hj0 : (0 : Int) ≤ (j : Int) := by omega
          have hj1 : (j : Int) < (K : Int) := by omega
          clear e0 e0' s1 s2 s3 t1 t2 t3 u1 u2 v1 v2 hpq hof hos hle hys hHN hHC h1 h2
          go_wp2_with fail
          go_still_tail 11, (by kernel_rfl)
          clear x4 z0 z1 y4
          have C2 := Lib.hid (CALL.out wr.drew (Bl.drew (Bl.refl _)))
          have G2 := Lib.hid (grown_trans G.out (grown_of_below (Bl.drew (Bl.refl wr)) (some ig)) (fun g e => .inl e))
          have X2 := Lib.hid (heap_later X.out (Bl.drew (Bl.refl wr)))
          have Y2 := Lib.hid (heap_later Y.out (Bl.drew (Bl.refl wr)))
          have I2 := Lib.hid (R.out.later (Bl.drew (Bl.refl wr))).ids
          change wpList _ _ _ _ _ wr.drew
          generalize wr.drew = w5 at C2 G2 X2 Y2 I2 ⊢
          clear CALL G X Y R
          go_wp2_with (go_at_call 55; refine C2.out.mono ?_; rintro e w6 ⟨rfl, hg6, l'', r6, p6⟩; have R6 := Lib.hid r6; have P6 := Lib.hid (CC.out _ p6); have G6 := Lib.hid (grown_trans G2.out hg6 (fun g e => .inl e)); have X6 := Lib.hid (heap_grown X2.out hg6 I2.out (by decide)); have Y6 := Lib.hid (heap_grown Y2.out hg6 I2.out (by decide)); clear hg6 r6 p6)
          go_roundw
          case rel => exact ⟨j + 1, l'', by omega, by go_num, R6, P6, G6, X6, Y6⟩
          case measure => simp [intOf]; omega
        · have FN : Hid (Put l l' c (rg b y.size)) := Lib.hid (by
            have := P.out
            rwa [offs_all _ (by rw [KY.out]; omega), trees_size] at this)
          go_wp2_with fail
          (try simp only [Exit.inBlock, Exit.then])
          refine bodyPost_ret (results_none rfl _ _ _) rfl ?_
          exact ⟨rfl, G.out, l', R.out, FN.out⟩

end Go.Proofs.Ytmeigoeknjoodaa
