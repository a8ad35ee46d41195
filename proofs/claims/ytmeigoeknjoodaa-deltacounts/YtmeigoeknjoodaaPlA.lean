/-
  Pl1, Pl2, in one text. Conditions: as each theorem's premises say.
-/
import Derived.Test.YtmeigoeknjoodaaSp1
namespace Go.Proofs.Ytmeigoeknjoodaa
open Go.RowKit

/-- Where a node is put: behind the last one whose id is not above its own. -/
def atP (id : Int) : List Nd → Nat
  | [] => 0
  | y :: r => if (y :: r).all (fun z => decide (id < z.id)) then 0 else atP id r + 1
theorem at_le (id : Int) : ∀ ns : List Nd, atP id ns ≤ ns.length
  | [] => Nat.le_refl _
  | y :: r => by
    unfold atP
    split
    · exact Nat.zero_le _
    · rw [List.length_cons]; exact Nat.succ_le_succ (at_le id r)
theorem at_is {id : Int} : ∀ {ns : List Nd} {k : Nat}, k ≤ ns.length → (∀ z ∈ ns.drop k, id < z.id) → (k = 0 ∨ ∃ y, ns[k - 1]? = some y ∧ ¬ id < y.id) → atP id ns = k
  | [], k, hk, _, _ => by simp at hk; subst hk; rfl
  | y :: r, 0, _, h, _ => by
    unfold atP
    rw [if_pos (by rw [List.all_eq_true]; intro z hz; exact decide_eq_true (h z hz))]
  | y :: r, k + 1, hk, h, h2 => by
    unfold atP
    have hne : ¬ ((y :: r).all (fun z => decide (id < z.id)) = true) := by
      intro e
      rw [List.all_eq_true] at e
      rcases h2 with h2 | ⟨z, hz, hz2⟩
      · omega
      · exact hz2 (of_decide_eq_true (e z (List.mem_of_getElem? hz)))
    rw [if_neg hne]
    congr 1
    refine at_is (by simpa using hk) (by simpa using h) ?_
    cases k with
    | zero => exact .inl rfl
    | succ k =>
      rcases h2 with h2 | ⟨z, hz, hz2⟩
      · omega
      · exact .inr ⟨z, by simpa using hz, hz2⟩
def plcN (x : Nd) (ns : List Nd) : List Nd := ns.take (atP x.id ns) ++ [x] ++ ns.drop (atP x.id ns)
/-- Where ids rise and the new one is none of them, that is where it belongs. -/
theorem plc_ins (x : Nd) : ∀ {ns : List Nd}, risesB ns = true → (∀ y ∈ ns, y.id ≠ x.id) → plcN x ns = insN x ns
  | [], _, _ => rfl
  | y :: r, h, hn => by
    obtain ⟨h1, h2⟩ := rises_cons.1 h
    have ih := plc_ins x h2 (fun z hz => hn z (List.mem_cons_of_mem _ hz))
    unfold plcN at ih ⊢
    unfold atP insN
    by_cases e : x.id < y.id
    · rw [if_pos (by
        rw [List.all_eq_true]
        intro z hz
        rcases List.mem_cons.1 hz with rfl | hz
        · exact decide_eq_true e
        · exact decide_eq_true (Int.lt_trans e (h1 z hz))), if_pos e]
      rfl
    · have hy := hn y (List.mem_cons_self ..)
      rw [if_neg (by
        rw [List.all_eq_true]
        intro hh
        exact e (of_decide_eq_true (hh y (List.mem_cons_self ..)))), if_neg e, ← ih]
      rfl

def PlPost (base : Nat) (x : Nd) (ns : List Nd) (w : World) (e : Ending) (w' : World) : Prop := ∃ p cap vs, e = .returned (.slice p (ns.length + 1) cap) ∧ OwnT w' base (.slice p (ns.length + 1) cap) vs (plcN x ns) ∧ Below w.heap.size w w'

theorem ins_get {α : Type} (l : List α) (a : α) (k : Nat) (hk : k ≤ l.length) (i : Nat) (y : α) (h : (l.take k ++ [a] ++ l.drop k)[i]? = some y) : (i < k ∧ l[i]? = some y) ∨ (i = k ∧ y = a) ∨ (k < i ∧ l[i - 1]? = some y) := by
  have hl : (l.take k).length = k := by rw [List.length_take]; omega
  rw [List.append_assoc] at h
  by_cases h1 : i < k
  · rw [List.getElem?_append_left (by omega), List.getElem?_take_of_lt h1] at h
    exact .inl ⟨h1, h⟩
  · rw [List.getElem?_append_right (by omega), hl] at h
    by_cases h2 : i = k
    · subst h2
      rw [Nat.sub_self] at h
      exact .inr (.inl ⟨rfl, by simpa using h.symm⟩)
    · obtain ⟨j, hj⟩ : ∃ j, i - k = j + 1 := ⟨i - k - 1, by omega⟩
      rw [hj, List.singleton_append, List.getElem?_cons_succ, List.getElem?_drop] at h
      exact .inr (.inr ⟨by omega, by rw [show i - 1 = k + j by omega]; exact h⟩)
/-- A node put among nodes: all in one row. -/
theorem OwnT.place {w w' : World} {base k : Nat} {v v' : Value} {vs : List Nv} {ns : List Nd} {xv : Nv} {x : Nd} (h : OwnT w base v vs ns) (hx : Fits w base xv x) (hap : ∀ (i : Nat) y q, vs[i]? = some y → y.kv.ownBlock = some q → xv.kv.ownBlock ≠ some q) (hb : Below w.heap.size w w') (hk : k ≤ vs.length) (ho : lyN.Own w' base v' (vs.take k ++ [xv] ++ vs.drop k)) : OwnT w' base v' (vs.take k ++ [xv] ++ vs.drop k) (ns.take k ++ [x] ++ ns.drop k) := by
  have hl := h.len
  have keep : ∀ (y : Nv) (m : Nd), Fits w base y m → Fits w' base y m := fun y m hf => by
    obtain ⟨a, b, c, d, e⟩ := hf
    exact ⟨a, b, c, d, e.below hb⟩
  refine ⟨ho, by simp [hl], fun i y m hy hm => ?_, fun i j y z g hy hz hij hg => ?_⟩
  · rcases ins_get vs xv k hk i y hy with ⟨i1, h1⟩ | ⟨i1, h1⟩ | ⟨i1, h1⟩ <;> rcases ins_get ns x k (by omega) i m hm with ⟨i2, h2⟩ | ⟨i2, h2⟩ | ⟨i2, h2⟩
    · exact keep y m (h.fit i y m h1 h2)
    · omega
    · omega
    · omega
    · rw [h1, h2]; exact keep _ _ hx
    · omega
    · omega
    · omega
    · exact keep y m (h.fit (i - 1) y m h1 h2)
  · rcases ins_get vs xv k hk i y hy with ⟨i1, h1⟩ | ⟨i1, h1⟩ | ⟨i1, h1⟩ <;> rcases ins_get vs xv k hk j z hz with ⟨i2, h2⟩ | ⟨i2, h2⟩ | ⟨i2, h2⟩
    · exact h.apart i j y z g h1 h2 hij hg
    · rw [h2]; exact hap i y g h1 hg
    · exact h.apart i (j - 1) y z g h1 h2 (by omega) hg
    · rw [h1] at hg; exact fun e => hap j z g h2 e hg
    · omega
    · rw [h1] at hg; exact fun e => hap (j - 1) z g h2 e hg
    · exact h.apart (i - 1) j y z g h1 h2 (by omega) hg
    · rw [h2]; exact hap (i - 1) y g h1 hg
    · exact h.apart (i - 1) (j - 1) y z g h1 h2 (by omega) hg

set_option maxRecDepth 100000 in
set_option maxHeartbeats 4000000 in
theorem placed_some (base g n cap : Nat) (vs : List Nv) (ns : List Nd) (xv : Nv) (x : Nd) (w : World) (h : OwnT w base (.slice (some ⟨g, 0, none⟩) n cap) vs ns) (hx : Fits w base xv x) (hap : ∀ (i : Nat) y q, vs[i]? = some y → y.kv.ownBlock = some q → xv.kv.ownBlock ≠ some q) (hn : n ≤ 100000) (hb : base ≤ w.heap.size) (hc : n ≤ cap) : Calls Try.prog 39 #[.slice (some ⟨g, 0, none⟩) n cap, .agg #[.int .i64 xv.id, .int .i64 xv.kd, .int .i64 xv.fr, .int .i64 xv.tt, xv.kv]] w (PlPost base x ns w) := by
  obtain ⟨i6, hi6, hz06, hz16, hz26⟩ := info_parts info63
  obtain ⟨xid, xkd, xfr, xtt, kp, kn, kc⟩ := xv
  have EID : Hid (xid = x.id) := Lib.hid hx.1
  have H := Lib.hid h; have HX := Lib.hid hx; have HA := Lib.hid hap; have HB := Lib.hid hb
  have LV : Hid (vs.length = n) := Lib.hid (by
    obtain ⟨p, c, e⟩ := h.row.form
    cases e; rfl)
  have LN : Hid (ns.length = n) := Lib.hid (by rw [← h.len]; exact LV.out)
  clear h hx hap hb
  unfold Nv.kv
  dsimp only
  have XB : Hid ((w.alloc (.cells #[.int .i64 xid, .int .i64 xkd, .int .i64 xfr, .int .i64 xtt, .slice kp kn kc] 46)).heap[w.heap.size]? = some (.cells #[.int .i64 xid, .int .i64 xkd, .int .i64 xfr, .int .i64 xtt, .slice kp kn kc] 46 (0, 0))) := Lib.hid (heap_alloc_new w _)
  have BW : Hid (Below w.heap.size w (w.alloc (.cells #[.int .i64 xid, .int .i64 xkd, .int .i64 xfr, .int .i64 xtt, .slice kp kn kc] 46))) := Lib.hid (below1 (Below.refl _ _) (Nat.le_refl _) _)
  go_enter Try.func39, Try.ntmps39
  go_upto_region 1 with fail
  generalize w.alloc (.cells #[.int .i64 xid, .int .i64 xkd, .int .i64 xfr, .int .i64 xtt, .slice kp kn kc] 46) = w1 at XB BW ⊢
  go_upto_block 0 with fail
  go_cut [5] (fun v wx => v = .int .i64 (atP x.id ns : Nat) ∧ Hid (Below w1.heap.size w1 wx))
  case first =>
    go_wp2_with fail
    go_loopw [5] (fun v wr => ∃ k : Nat, k ≤ n ∧ v = .int .i64 k ∧ Hid (∀ z ∈ ns.drop k, xid < z.id) ∧ Hid (Below w1.heap.size w1 wr)) (fun v _ => (intOf v).toNat)
    case atStart => exact ⟨n, by omega, rfl, Lib.hid (fun z hz => by rw [List.drop_eq_nil_of_le (by rw [LN.out]; exact Nat.le_refl _)] at hz; simp at hz), Lib.hid (Below.refl _ _)⟩
    case round =>
      obtain ⟨k, hk, rfl, AB, B⟩ := hrel
      have XR := Lib.hid ((B.out.block _ (Array.getElem?_eq_some_iff.1 XB.out).1).trans XB.out)
      have BR := Lib.hid (BW.out.trans (B.out.mono BW.out.size))
      have x0 := (obj_cells XR.out).1 0 _ rfl
      cases k with
      | zero =>
        have AT : Hid (atP x.id ns = 0) := Lib.hid (at_is (Nat.zero_le _) (by rw [← EID.out]; exact AB.out) (.inl rfl))
        go_wp2_with fail
        refine wp_region_quiet_lit (by kernel_rfl) (by kernel_rfl) ?_
        repeat (go_big_quiet_step (fail))
        refine wpQuiet_nil ?_
        rintro _ ⟨nq, rfl⟩
        go_wp2_with fail
        go_meet
        exact ⟨by rw [AT.out], Lib.hid (B.out.trans ((dr_below _ nq).mono B.out.size))⟩
      | succ j =>
        obtain ⟨y, hy⟩ : ∃ y, ns[j]? = some y := ⟨_, List.getElem?_eq_getElem (by rw [LN.out]; omega)⟩
        obtain ⟨b, o, kp2, kc2, e, hat, -⟩ := H.out.read j y hy
        cases e
        have c0 := cell_later BR.out (show w.cell? ⟨g, 0 + j * 5, none⟩ = some (.int .i64 y.id) from hat 0 _ rfl)
        rw [Nat.zero_add] at c0
        have wj : IntKind.i64.wrap (((j + 1 : Nat) : Int) - 1) = (j : Int) := by rw [IntWalk.i64_in _ (by omega)]; omega
        have hk0 : (0 : Int) < ((j + 1 : Nat) : Int) := by omega
        have hj0 : (0 : Int) ≤ (j : Int) := by omega
        have hj1 : (j : Int) < (n : Int) := by omega
        have HY := Lib.hid hy
        clear hat hy
        by_cases he : xid < y.id
        · have AB2 : Hid (∀ z ∈ ns.drop j, xid < z.id) := Lib.hid (fun z hz => by
            rw [drop_at HY.out] at hz
            rcases List.mem_cons.1 hz with rfl | hz
            · exact he
            · exact AB.out z hz)
          go_wp2_with fail
          refine wp_region_quiet_lit (by kernel_rfl) (by kernel_rfl) ?_
          repeat (go_big_quiet_step (fail))
          refine wpQuiet_nil ?_
          rintro _ ⟨nq, rfl⟩
          go_wp2_with fail
          go_roundw
          case rel => exact ⟨j, by omega, by go_num, AB2, Lib.hid (B.out.trans ((dr_below _ nq).mono B.out.size))⟩
          case measure => simp [intOf]
        · have AT : Hid (atP x.id ns = j + 1) := Lib.hid (at_is (by rw [LN.out]; exact hk) (by rw [← EID.out]; exact AB.out) (.inr ⟨y, by simpa using HY.out, by rw [← EID.out]; exact he⟩))
          go_wp2_with fail
          refine wp_region_quiet_lit (by kernel_rfl) (by kernel_rfl) ?_
          repeat (go_big_quiet_step (fail))
          refine wpQuiet_nil ?_
          rintro _ ⟨nq, rfl⟩
          go_wp2_with fail
          go_meet
          exact ⟨by rw [AT.out]; go_num, Lib.hid (B.out.trans ((dr_below _ nq).mono B.out.size))⟩
  case rest =>
    obtain ⟨rfl, B⟩ := hcut
    have hk : atP x.id ns ≤ n := by rw [← LN.out]; exact at_le _ _
    have PN : Hid (plcN x ns = ns.take (atP x.id ns) ++ [x] ++ ns.drop (atP x.id ns)) := Lib.hid rfl
    generalize atP x.id ns = k at hk PN ⊢
    have XR := Lib.hid ((B.out.block _ (Array.getElem?_eq_some_iff.1 XB.out).1).trans XB.out)
    have BR := Lib.hid (BW.out.trans (B.out.mono BW.out.size))
    clear XB BW B
    go_upto_region 4 with fail
    have B0 : Hid (Below wc.heap.size wc (wc.alloc (.cells #[] 46))) := Lib.hid (below1 (Below.refl _ _) (Nat.le_refl _) _)
    have OW0 : Hid ((wc.alloc (.cells #[] 46)).ownsRow wc.heap.size 46 5 (.slice (some ⟨wc.heap.size, 0, none⟩) 0 0) 0 []) := Lib.hid (World.ownsRow_lit wc #[] 0 (Nat.le_refl _) (by decide) rfl)
    have RW : Hid (∀ W, Below w.heap.size w W → ∀ j u, (lyN.all vs)[j]? = some u → W.cell? ⟨g, j, none⟩ = some u) := Lib.hid (fun W hW j u hu => by
      have := World.ownsRow.cells (Ly.Own.below H.out.row hW) (g := g) rfl _ _ hu
      rwa [add_plain, Nat.zero_add] at this)
    have SP : Hid (lyN.all vs = lyN.all (vs.take k) ++ lyN.all (vs.drop k)) := Lib.hid (by rw [← all_app, List.take_append_drop])
    have L1 : Hid ((lyN.all (vs.take k)).length = k * 5) := Lib.hid (by rw [all_len, List.length_take, LV.out, Nat.min_eq_left hk]; rfl)
    have L2 : Hid ((lyN.all (vs.drop k)).length = (n - k) * 5) := Lib.hid (by rw [all_len, List.length_drop, LV.out]; rfl)
    have N1 : Hid (∀ W, Below wc.heap.size wc W → ∀ ad, some (⟨g, 0, none⟩ : Addr) = some ad → ∀ j u, (lyN.all (vs.take k))[j]? = some u → W.cell? (ad.add j) = some u) := Lib.hid (fun W hW ad e j u hu => by
      cases e
      rw [add_plain, Nat.zero_add]
      refine RW.out W (BR.out.trans (hW.mono BR.out.size)) j u ?_
      rw [SP.out, List.getElem?_append_left (List.getElem?_eq_some_iff.1 hu).1]; exact hu)
    have hk0 : (0 : Int) ≤ (k : Int) := by omega
    have hk1 : (k : Int) ≤ (cap : Int) := by omega
    have hk2 : (k : Int) ≤ (n : Int) := by omega
    go_upto_region 5 with (at_builtin; refine wpList_append_all _ rfl _ _ 22 rfl wc.heap.size 46 i6 _ 5 56 Try.underlying22 hi6 hz06 hz16 hz26 rfl (by decide) (.slice (some ⟨wc.heap.size, 0, none⟩) 0 0) 0 [] rfl OW0.out (some ⟨g, 0, none⟩) k cap (lyN.all (vs.take k)) rfl L1.out (fun e => by cases e) (N1.out _ B0.out) (all_ones _) (by unfold maxLen; omega) (by omega) (by simp) k (by omega) ?_; intro pA cA w5 hown hgrow hblk; have O5 := Lib.hid hown; have B5 : Hid (Below wc.heap.size wc w5) := Lib.hid (B0.out.trans (below_grownN hgrow (fun q hq => by cases hq; exact Nat.le_refl _) B0.out.size)); clear hown hgrow hblk)
    have X5 := Lib.hid ((B5.out.block _ (Array.getElem?_eq_some_iff.1 XR.out).1).trans XR.out)
    have x0 := (obj_cells X5.out).1 0 _ rfl
    have x1 := (obj_cells X5.out).1 1 _ rfl
    have x2 := (obj_cells X5.out).1 2 _ rfl
    have x3 := (obj_cells X5.out).1 3 _ rfl
    have x4 := (obj_cells X5.out).1 4 _ rfl
    have OW5 : Hid ((w5.alloc (.cells #[.int .i64 xid, .int .i64 xkd, .int .i64 xfr, .int .i64 xtt, .slice kp kn kc] 46)).ownsRow wc.heap.size 46 5 (.slice pA k cA) k ([] ++ lyN.all (vs.take k))) := Lib.hid (World.ownsRow.alloc O5.out _)
    have B6a : Hid (Below wc.heap.size wc (w5.alloc (.cells #[.int .i64 xid, .int .i64 xkd, .int .i64 xfr, .int .i64 xtt, .slice kp kn kc] 46))) := Lib.hid (below1 B5.out B5.out.size _)
    go_upto_region 6 with (at_builtin; refine wpList_append_all _ rfl _ _ 22 rfl wc.heap.size 46 i6 _ 5 56 Try.underlying22 hi6 hz06 hz16 hz26 rfl (by decide) (.slice pA k cA) k ([] ++ lyN.all (vs.take k)) rfl OW5.out (some ⟨w5.heap.size, 0, none⟩) 1 1 (Nv.cells ⟨xid, xkd, xfr, xtt, kp, kn, kc⟩) rfl rfl (fun e => by cases e) (fun ad hp => by cases hp; exact five_new rfl ⟨xid, xkd, xfr, xtt, kp, kn, kc⟩) (lyN.one ⟨xid, xkd, xfr, xtt, kp, kn, kc⟩) (by unfold maxLen; omega) (by omega) B6a.out.size (k + 1) rfl ?_; intro pB cB w6 hown hgrow hblk; have O6 := Lib.hid hown; have B6 : Hid (Below wc.heap.size wc w6) := Lib.hid (B6a.out.trans (below_grownN hgrow (fun q hq => (World.ownsRow.lt OW5.out q hq).1) B6a.out.size)); clear hown hgrow hblk)
    clear x0 x1 x2 x3 x4
    by_cases hcap : cap = k
    · have DN : Hid (vs.drop k = []) := Lib.hid (List.drop_eq_nil_of_le (by rw [LV.out]; omega))
      go_upto_region 7 with (at_builtin; refine wpList_append_all _ rfl _ _ 22 rfl wc.heap.size 46 i6 _ 5 56 Try.underlying22 hi6 hz06 hz16 hz26 rfl (by decide) (.slice pB (k + 1) cB) (k + 1) ([] ++ lyN.all (vs.take k) ++ Nv.cells ⟨xid, xkd, xfr, xtt, kp, kn, kc⟩) rfl O6.out (some ⟨g, 0, none⟩) (n - k) 0 (lyN.all (vs.drop k)) rfl L2.out (fun e => by cases e) (fun ad e j u hu => by rw [DN.out] at hu; simp [Ly.all] at hu) (all_ones _) (by unfold maxLen; omega) (by omega) B6.out.size (n + 1) (by omega) ?_; intro pC cC w7 hown hgrow hblk; have O7 := Lib.hid hown; have B7 : Hid (Below wc.heap.size wc w7) := Lib.hid (B6.out.trans (below_grownN hgrow (fun q hq => (World.ownsRow.lt O6.out q hq).1) B6.out.size)); clear hown hgrow hblk)
      go_wp2_with fail
      go_ret
      have BE := BR.out.trans (B7.out.mono BR.out.size)
      refine ⟨pC, cC, vs.take k ++ [⟨xid, xkd, xfr, xtt, kp, kn, kc⟩] ++ vs.drop k, by rw [LN.out]; rfl, ?_, BE⟩
      rw [PN.out, LN.out]
      refine H.out.place HX.out HA.out BE (by rw [LV.out]; exact hk) ?_
      refine Ly.Own.mono (base := wc.heap.size) ?_ (Nat.le_trans HB.out BR.out.size)
      unfold Ly.Own
      rw [List.length_append, List.length_append, List.length_take, List.length_drop, LV.out, Nat.min_eq_left hk, List.length_singleton, show k + 1 + (n - k) = n + 1 by omega, all_app, all_app, all_one]
      have := O7.out
      rw [List.nil_append] at this
      exact this
    · have hcap2 : (k : Int) < (cap : Int) := by omega
      have N2 : Hid (∀ W, Below wc.heap.size wc W → ∀ ad, some (⟨g, k * 5, none⟩ : Addr) = some ad → ∀ j u, (lyN.all (vs.drop k))[j]? = some u → W.cell? (ad.add j) = some u) := Lib.hid (fun W hW ad e j u hu => by
        cases e
        rw [add_plain]
        refine RW.out W (BR.out.trans (hW.mono BR.out.size)) (k * 5 + j) u ?_
        rw [SP.out, List.getElem?_append_right (by rw [L1.out]; omega), L1.out, Nat.add_sub_cancel_left]; exact hu)
      go_upto_region 7 with (at_builtin; refine wpList_append_all _ rfl _ _ 22 rfl wc.heap.size 46 i6 _ 5 56 Try.underlying22 hi6 hz06 hz16 hz26 rfl (by decide) (.slice pB (k + 1) cB) (k + 1) ([] ++ lyN.all (vs.take k) ++ Nv.cells ⟨xid, xkd, xfr, xtt, kp, kn, kc⟩) rfl O6.out (some ⟨g, k * 5, none⟩) (n - k) (cap - k) (lyN.all (vs.drop k)) rfl L2.out (fun e => by cases e) (N2.out _ B6.out) (all_ones _) (by unfold maxLen; omega) (by omega) B6.out.size (n + 1) (by omega) ?_; intro pC cC w7 hown hgrow hblk; have O7 := Lib.hid hown; have B7 : Hid (Below wc.heap.size wc w7) := Lib.hid (B6.out.trans (below_grownN hgrow (fun q hq => (World.ownsRow.lt O6.out q hq).1) B6.out.size)); clear hown hgrow hblk)
      go_wp2_with fail
      go_ret
      have BE := BR.out.trans (B7.out.mono BR.out.size)
      refine ⟨pC, cC, vs.take k ++ [⟨xid, xkd, xfr, xtt, kp, kn, kc⟩] ++ vs.drop k, by rw [LN.out]; rfl, ?_, BE⟩
      rw [PN.out, LN.out]
      refine H.out.place HX.out HA.out BE (by rw [LV.out]; exact hk) ?_
      refine Ly.Own.mono (base := wc.heap.size) ?_ (Nat.le_trans HB.out BR.out.size)
      unfold Ly.Own
      rw [List.length_append, List.length_append, List.length_take, List.length_drop, LV.out, Nat.min_eq_left hk, List.length_singleton, show k + 1 + (n - k) = n + 1 by omega, all_app, all_app, all_one]
      have := O7.out
      rw [List.nil_append] at this
      exact this

set_option maxRecDepth 100000 in
set_option maxHeartbeats 2000000 in
theorem placed_none (base : Nat) (xv : Nv) (x : Nd) (w : World) (hx : Fits w base xv x) (hb : base ≤ w.heap.size) : Calls Try.prog 39 #[.slice none 0 0, .agg #[.int .i64 xv.id, .int .i64 xv.kd, .int .i64 xv.fr, .int .i64 xv.tt, xv.kv]] w (PlPost base x [] w) := by
  obtain ⟨i6, hi6, hz06, hz16, hz26⟩ := info_parts info63
  obtain ⟨xid, xkd, xfr, xtt, kp, kn, kc⟩ := xv
  have HX := Lib.hid hx; have HB := Lib.hid hb
  clear hx hb
  unfold Nv.kv
  dsimp only
  have XB : Hid ((w.alloc (.cells #[.int .i64 xid, .int .i64 xkd, .int .i64 xfr, .int .i64 xtt, .slice kp kn kc] 46)).heap[w.heap.size]? = some (.cells #[.int .i64 xid, .int .i64 xkd, .int .i64 xfr, .int .i64 xtt, .slice kp kn kc] 46 (0, 0))) := Lib.hid (heap_alloc_new w _)
  have BW : Hid (Below w.heap.size w (w.alloc (.cells #[.int .i64 xid, .int .i64 xkd, .int .i64 xfr, .int .i64 xtt, .slice kp kn kc] 46))) := Lib.hid (below1 (Below.refl _ _) (Nat.le_refl _) _)
  go_enter Try.func39, Try.ntmps39
  go_upto_region 1 with fail
  generalize w.alloc (.cells #[.int .i64 xid, .int .i64 xkd, .int .i64 xfr, .int .i64 xtt, .slice kp kn kc] 46) = w1 at XB BW ⊢
  go_upto_block 0 with fail
  go_cut [5] (fun v wx => v = .int .i64 0 ∧ Hid (Below w1.heap.size w1 wx))
  case first =>
    go_wp2_with fail
    go_loopw [5] (fun v wr => v = .int .i64 0 ∧ Hid (Below w1.heap.size w1 wr)) (fun v _ => (intOf v).toNat)
    case atStart => exact ⟨rfl, Lib.hid (Below.refl _ _)⟩
    case round =>
      obtain ⟨rfl, B⟩ := hrel
      go_wp2_with fail
      refine wp_region_quiet_lit (by kernel_rfl) (by kernel_rfl) ?_
      repeat (go_big_quiet_step (fail))
      refine wpQuiet_nil ?_
      rintro _ ⟨nq, rfl⟩
      go_wp2_with fail
      go_meet
      exact ⟨rfl, Lib.hid (B.out.trans ((dr_below _ nq).mono B.out.size))⟩
  case rest =>
    obtain ⟨rfl, B⟩ := hcut
    have XR := Lib.hid ((B.out.block _ (Array.getElem?_eq_some_iff.1 XB.out).1).trans XB.out)
    have BR := Lib.hid (BW.out.trans (B.out.mono BW.out.size))
    clear XB BW B
    go_upto_region 4 with fail
    have B0 : Hid (Below wc.heap.size wc (wc.alloc (.cells #[] 46))) := Lib.hid (below1 (Below.refl _ _) (Nat.le_refl _) _)
    have OW0 : Hid ((wc.alloc (.cells #[] 46)).ownsRow wc.heap.size 46 5 (.slice (some ⟨wc.heap.size, 0, none⟩) 0 0) 0 []) := Lib.hid (World.ownsRow_lit wc #[] 0 (Nat.le_refl _) (by decide) rfl)
    go_upto_region 5 with (at_builtin; refine wpList_append_all _ rfl _ _ 22 rfl wc.heap.size 46 i6 _ 5 56 Try.underlying22 hi6 hz06 hz16 hz26 rfl (by decide) (.slice (some ⟨wc.heap.size, 0, none⟩) 0 0) 0 [] rfl OW0.out none 0 0 [] rfl rfl (fun _ => rfl) (fun ad e => by cases e) (fun u hu => by simp at hu) (by decide) (by decide) (by simp) 0 rfl ?_; intro pA cA w5 hown hgrow hblk; have O5 := Lib.hid hown; have B5 : Hid (Below wc.heap.size wc w5) := Lib.hid (B0.out.trans (below_grownN hgrow (fun q hq => by cases hq; exact Nat.le_refl _) B0.out.size)); clear hown hgrow hblk)
    have X5 := Lib.hid ((B5.out.block _ (Array.getElem?_eq_some_iff.1 XR.out).1).trans XR.out)
    have x0 := (obj_cells X5.out).1 0 _ rfl
    have x1 := (obj_cells X5.out).1 1 _ rfl
    have x2 := (obj_cells X5.out).1 2 _ rfl
    have x3 := (obj_cells X5.out).1 3 _ rfl
    have x4 := (obj_cells X5.out).1 4 _ rfl
    have OW5 : Hid ((w5.alloc (.cells #[.int .i64 xid, .int .i64 xkd, .int .i64 xfr, .int .i64 xtt, .slice kp kn kc] 46)).ownsRow wc.heap.size 46 5 (.slice pA 0 cA) 0 ([] ++ [])) := Lib.hid (World.ownsRow.alloc O5.out _)
    have B6a : Hid (Below wc.heap.size wc (w5.alloc (.cells #[.int .i64 xid, .int .i64 xkd, .int .i64 xfr, .int .i64 xtt, .slice kp kn kc] 46))) := Lib.hid (below1 B5.out B5.out.size _)
    go_upto_region 6 with (at_builtin; refine wpList_append_all _ rfl _ _ 22 rfl wc.heap.size 46 i6 _ 5 56 Try.underlying22 hi6 hz06 hz16 hz26 rfl (by decide) (.slice pA 0 cA) 0 ([] ++ []) rfl OW5.out (some ⟨w5.heap.size, 0, none⟩) 1 1 (Nv.cells ⟨xid, xkd, xfr, xtt, kp, kn, kc⟩) rfl rfl (fun e => by cases e) (fun ad hp => by cases hp; exact five_new rfl ⟨xid, xkd, xfr, xtt, kp, kn, kc⟩) (lyN.one ⟨xid, xkd, xfr, xtt, kp, kn, kc⟩) (by decide) (by decide) B6a.out.size 1 rfl ?_; intro pB cB w6 hown hgrow hblk; have O6 := Lib.hid hown; have B6 : Hid (Below wc.heap.size wc w6) := Lib.hid (B6a.out.trans (below_grownN hgrow (fun q hq => (World.ownsRow.lt OW5.out q hq).1) B6a.out.size)); clear hown hgrow hblk)
    clear x0 x1 x2 x3 x4
    go_upto_region 7 with (at_builtin; refine wpList_append_all _ rfl _ _ 22 rfl wc.heap.size 46 i6 _ 5 56 Try.underlying22 hi6 hz06 hz16 hz26 rfl (by decide) (.slice pB 1 cB) 1 ([] ++ [] ++ Nv.cells ⟨xid, xkd, xfr, xtt, kp, kn, kc⟩) rfl O6.out none 0 0 [] rfl rfl (fun _ => rfl) (fun ad e => by cases e) (fun u hu => by simp at hu) (by decide) (by decide) B6.out.size 1 rfl ?_; intro pC cC w7 hown hgrow hblk; have O7 := Lib.hid hown; have B7 : Hid (Below wc.heap.size wc w7) := Lib.hid (B6.out.trans (below_grownN hgrow (fun q hq => (World.ownsRow.lt O6.out q hq).1) B6.out.size)); clear hown hgrow hblk)
    go_wp2_with fail
    go_ret
    have BE := BR.out.trans (B7.out.mono BR.out.size)
    refine ⟨pC, cC, [⟨xid, xkd, xfr, xtt, kp, kn, kc⟩], rfl, ?_, BE⟩
    have hp := (ownT_none w base).place (k := 0) (v' := .slice pC 1 cC) HX.out (fun i y q hy => by simp at hy) BE (Nat.zero_le _) (by
      refine Ly.Own.mono (base := wc.heap.size) ?_ (Nat.le_trans HB.out BR.out.size)
      have := O7.out
      rw [List.append_nil] at this
      exact this)
    exact hp
theorem placed_any (base n cap : Nat) (p : Option Addr) (vs : List Nv) (ns : List Nd) (xv : Nv) (x : Nd) (w : World) (h : OwnT w base (.slice p n cap) vs ns) (hx : Fits w base xv x) (hap : ∀ (i : Nat) y q, vs[i]? = some y → y.kv.ownBlock = some q → xv.kv.ownBlock ≠ some q) (hn : n ≤ 100000) (hb : base ≤ w.heap.size) : Calls Try.prog 39 #[.slice p n cap, .agg #[.int .i64 xv.id, .int .i64 xv.kd, .int .i64 xv.fr, .int .i64 xv.tt, xv.kv]] w (PlPost base x ns w) := by
  rcases h.row.2 with ⟨hv, h0⟩ | ⟨g, cap', cur, hv, _, _, hnc, _⟩
  · cases hv
    have e : ns = [] := List.eq_nil_of_length_eq_zero (by rw [← h.len]; exact h0)
    subst e
    exact placed_none base xv x w hx hb
  · have hl : vs.length = n := by
      obtain ⟨p', c', e⟩ := h.row.form
      cases e; rfl
    cases hv
    exact placed_some base g _ _ vs ns xv x w h hx hap hn hb hnc

end Go.Proofs.Ytmeigoeknjoodaa
