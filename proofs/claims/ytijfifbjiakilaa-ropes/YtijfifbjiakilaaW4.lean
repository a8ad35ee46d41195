/-
  The walk of split. Conditions: as the theorem's premises say.
-/
import Derived.Test.YtijfifbjiakilaaW2
import Derived.BigQuiet
import Derived.BigRegion
import Derived.Deep.RegionLaw
import Derived.Deep.RegionLawGrows
import Derived.IntWalk
namespace Go.Proofs.Ytijfifbjiakilaa
open Go.RowKit

theorem step_append_own {P : Program} (w : World) {ops : Array Oper} {o : Oper} {a : Act} {K : Act → World → Prop} {Q : Exit → Act → World → Prop} {E : Prop} (hgd : o.guard = none) (s x : Operand) (t : TypeId)
    (ho : o.op = .call { callee := .builtin .append, args := #[s, x], argTypes := #[t, t] })
    (base : Nat) (e : TypeId) (i : TypeInfo) (z : Value) (size bytes : Nat) (ht : P.underlying t = some (.slice e)) (hi : P.info? e = some i) (hz : i.zero = some z)
    (hsize : i.size = size) (hby : i.bytes = bytes) (hzs : z.cells.size = size) (hsz : 0 < size)
    (v : Value) (n : Nat) (xs : List Value) (hs : a.eval s = v) (hown : w.ownsRow base e size v n xs)
    (ad : Addr) (m c : Nat) (news : List Value) (hx : a.eval x = .slice (some ad) m c) (hl : news.length = m * size) (hnews : ∀ j u, news[j]? = some u → w.cell? (ad.add j) = some u) (h1 : ∀ u ∈ news, u.oneCell' = true)
    (h63 : n + m ≤ maxLen) (hbytes : (n + m) * bytes ≤ 140737488355328) (hbase : base ≤ w.heap.size)
    (h : ∀ v' w', w'.ownsRow base e size v' (n + m) (xs ++ news) → w.grownBy w' v.ownBlock → (v' = .slice none 0 0 ↔ v = .slice none 0 0 ∧ m = 0) → K (a.put o.dst v') w') :
    if Region.wanted o (yielded ops a.tmps) = true then Oper.wp P o a w K Q else E := by
  have hw : Region.wanted o (yielded ops a.tmps) = true := by simp [Region.wanted, hgd]
  rw [if_pos hw]
  exact wp_append_own w s x t ho base e i z size bytes ht hi hz hsize hby hzs hsz v n xs hs hown ad m c news hx hl hnews h1 h63 hbytes hbase h

theorem own_lit (w : World) (e : TypeId) (u : Value) : (w.alloc (.cells #[u] e)).drew.ownsRow w.heap.size e 1 (.slice (some ⟨w.heap.size, 0, none⟩) 1 1) 1 [u] :=
  ⟨rfl, .inr ⟨w.heap.size, 1, #[u], rfl, Nat.le_refl _, heap_alloc_new w _, Nat.le_refl _, by decide, rfl, rfl⟩⟩

theorem owns_below {w w' : World} {base : Nat} {e : TypeId} {size n : Nat} {v : Value} {xs : List Value} (h : w.ownsRow base e size v n xs) (hb : Below w.heap.size w w') : w'.ownsRow base e size v n xs :=
  h.kept (row := none) ⟨hb.os, hb.tape, hb.output, hb.size, fun k hk _ => hb.block k hk⟩ (by cases v.ownBlock <;> simp)

def SplitPost (ok : Nat → Prop) (ls : List (List UInt8)) (n : Nat) (w : World) (e : Ending) (w' : World) : Prop :=
  ∃ v1 v2 p q, e = .returned (.tuple #[v1, v2]) ∧ RowAt ok w' v1 p ∧ RowAt ok w' v2 q ∧ Small p ∧ Small q ∧ p.flatten = ls.flatten.take n ∧ q.flatten = ls.flatten.drop n ∧ Below w.heap.size w w'

set_option maxHeartbeats 1000000 in
theorem split_nil (m : Nat) (w : World) (_hm : m ≤ 4096) :
    Calls Try.prog 23 #[.slice none 0 0, .int .i64 m] w fun e w' => e = .returned (.tuple #[.slice none 0 0, .slice none 0 0]) ∧ w = w' := by
  go_enter Try.func23, Try.ntmps23
  go_wp2
  go_loop [12] (fun i => i = .int .i64 0) (fun _ => 0)
  case atStart => rfl
  case round =>
    obtain rfl := hrel
    go_wp2
    go_ret2
    exact ⟨rfl, rfl⟩

set_option maxHeartbeats 1000000 in
theorem split_some (ok : Nat → Prop) (b o cap : Nat) (xs : List Value) (ls : List (List UInt8)) (n : Nat) (w : World) (hb : ok b) (hc : ls.length ≤ cap) (hx : ∀ (i : Nat) u, xs[i]? = some u → w.cell? ⟨b, o + i, none⟩ = some u) (hk : Chunks ok w xs ls)
    (hl : ls.flatten.length ≤ 4096) (hsm : Small ls) (hn : n ≤ 4096) (hok : ∀ b, w.heap.size ≤ b → ok b) :
    Calls Try.prog 23 #[.slice (some ⟨b, o, none⟩) ls.length cap, .int .i64 n] w (SplitPost ok ls n w) := by
  obtain ⟨i0, hi, hz0, hz1, hz2⟩ := info_parts info65
  have hll := hsm.length
  have X := Lib.hid hx; have K := Lib.hid hk; have O := Lib.hid hok
  clear hx hk hok
  go_enter Try.func23, Try.ntmps23
  go_wp2
  go_loop [1, 12] (fun t i => ∃ k m : Nat, k ≤ ls.length ∧ i = .int .i64 k ∧ t = .int .i64 m ∧ Hid ((ls.take k).flatten.length + m = n) ∧ m ≤ 4096) (fun _ i => ls.length - (intOf i).toNat)
  case atStart => exact ⟨0, n, Nat.zero_le _, rfl, rfl, Lib.hid (by simp), hn⟩
  case round =>
    obtain ⟨k, m, hk, rfl, rfl, hm, hm4⟩ := hrel
    by_cases hlt : k < ls.length
    · have hxl : k < xs.length := by rw [K.out.1]; exact hlt
      obtain ⟨b1, o1, c1, hu, hb1, hl0, hlc, hcell⟩ := K.out.2 k xs[k] ls[k] (List.getElem?_eq_getElem hxl) (List.getElem?_eq_getElem hlt)
      have hcx := X.out k xs[k] (List.getElem?_eq_getElem hxl)
      rw [hu] at hcx
      have HC := Lib.hid hcell; clear hcell hu
      have hl16 := hsm ls[k] (List.getElem_mem hlt)
      generalize hlk : ls[k] = l at *
      have LK := Lib.hid hlk; clear hlk
      by_cases hm0 : m = 0
      · subst hm0
        go_wp2
        go_quiet (fail)
        go_wp2
        go_ret2
        have hsp := split_at (ls := ls) (k := k) (n := n) hm.out
        have hB : Below w.heap.size w (w.drewN nq) := ⟨rfl, rfl, rfl, Nat.le_refl _, fun _ _ => rfl⟩
        refine ⟨_, _, ls.take k, ls.drop k, rfl, (RowAt.kept (.inr ⟨b, o, k, xs.take k, ?_, hb, ?_, fun i u hu => ?_, (K.out).take k⟩) (Keeps.of_below hB)), (RowAt.kept (.inr ⟨b, o + k, cap - k, xs.drop k, ?_, hb, ?_, fun i u hu => ?_, (K.out).drop k⟩) (Keeps.of_below hB)), hsm.take k, hsm.drop k, hsp.1, hsp.2, hB⟩
        · rw [List.length_take, Nat.min_eq_left hk]; rfl
        · rw [List.length_take]; omega
        · rw [List.getElem?_take] at hu
          split at hu
          · exact X.out i u hu
          · cases hu
        · rw [List.length_drop]; rfl
        · rw [List.length_drop]; omega
        · rw [List.getElem?_drop] at hu
          rw [show o + k + i = o + (k + i) by omega]
          exact X.out _ u hu
      · by_cases hml : m < l.length
        · have hm0' : ((m : Int) == 0) = false := beq_eq_false_iff_ne.2 (by omega)
          have hlm : (l.take m).length = m := by rw [List.length_take]; omega
          have CT : Hid (∀ W : World, (∀ a : Addr, a.block < w.heap.size → W.cell? a = w.cell? a) → Chunk ok W (.slice (some ⟨b1, o1, none⟩) m c1) (l.take m)) := Lib.hid (fun W hW => by
            refine ⟨b1, o1, c1, by rw [hlm], hb1, by omega, by omega, fun i x hx => ?_⟩
            rw [List.getElem?_take] at hx
            split at hx
            · have h1 := HC.out i x hx
              rw [hW _ (World.block_lt_of_cell? w _ h1)]; exact h1
            · cases hx)
          have OL : Hid (∀ j u, (xs.take k)[j]? = some u → w.cell? ((⟨b, o, none⟩ : Addr).add j) = some u) := Lib.hid (fun j u hu => by
            rw [add_plain]
            rw [List.getElem?_take] at hu
            split at hu
            · exact X.out j u hu
            · cases hu)
          have hxk : (xs.take k).length = k * 1 := by rw [List.length_take]; omega
          have XK := Lib.hid hxk; clear hxk hlm
          have hkc : k ≤ cap := by omega
          have hmc : m ≤ c1 := by omega
          go_wp2
          go_region_law (refine step_append_grows rfl (.tmp 33) (.tmp 37) 52 rfl 65 i0 (.slice none 0 0) 1 24 Try.underlying52 hi hz0 hz1 hz2 rfl (by decide) (some ⟨b, o, none⟩) k k (xs.take k) rfl (fun h => by cases h) XK.out ?ho ⟨w.heap.size, 0, none⟩ 1 1 [.slice (some ⟨b1, o1, none⟩) m c1] rfl rfl ?hn (fun x hx => by simp at hx; subst hx; rfl) (by omega) (by unfold maxLen; omega) (by omega) ?_; (case ho => intro a ha j u hu; cases ha; simpa using cell_later ((Below.refl _ _).alloc (Nat.le_refl _) _) (OL.out j u hu)); (case hn => exact cell_one_new _ _ _); intro v1 w1 hown hgr)
          have OWN1 := Lib.hid hown; have GR1 := Lib.hid hgr
          clear hown hgr
          have hB1 : Below w.heap.size w w1 := ((Below.refl _ _).alloc (Nat.le_refl _) _).drew.grown GR1.out (by simp) (fun k h => by cases h)
          obtain ⟨ad, hsrc, AD⟩ : ∃ ad, (if cap = k + 1 then some (⟨b, o, none⟩ : Addr) else some ⟨b, o + (k + 1), none⟩) = some ad ∧ Hid (∀ j u, (xs.drop (k + 1))[j]? = some u → w.cell? (ad.add j) = some u) := by
            by_cases hkc1 : cap = k + 1
            · rw [if_pos hkc1]
              refine ⟨_, rfl, Lib.hid fun j u hu => ?_⟩
              rw [List.drop_of_length_le (by rw [K.out.1]; omega)] at hu
              simp at hu
            · rw [if_neg hkc1]
              refine ⟨_, rfl, Lib.hid fun j u hu => ?_⟩
              rw [List.getElem?_drop] at hu
              rw [add_plain, show o + (k + 1) + j = o + (k + 1 + j) by omega]
              exact X.out _ u hu
          have DL : Hid ((xs.drop (k + 1)).length = (ls.length - (k + 1)) * 1) := Lib.hid (by rw [List.length_drop, K.out.1, Nat.mul_one])
          have D1 : Hid (∀ u ∈ xs.drop (k + 1), u.oneCell' = true) := Lib.hid (fun u hu => by
            obtain ⟨j, hj⟩ := List.mem_iff_getElem?.1 hu
            rw [List.getElem?_drop] at hj
            have hjl : k + 1 + j < ls.length := by rw [← K.out.1]; exact (List.getElem?_eq_some_iff.1 hj).1
            obtain ⟨_, _, _, rfl, _⟩ := K.out.2 _ u _ hj (List.getElem?_eq_getElem hjl)
            rfl)
          go_wp2
          have hcm : ¬ c1 = m := by omega
          have hml' : m ≤ l.length := by omega
          have hwr : IntKind.i64.wrap ((k : Int) + 1) = (k : Int) + 1 := IntWalk.i64_in _ (by omega)
          have hge : (0 : Int) ≤ (k : Int) + 1 := by omega
          have hle : (k : Int) + 1 ≤ (ls.length : Int) := by omega
          have htn : ((k : Int) + 1).toNat = k + 1 := by omega
          go_region_law (refine step_append_own _ rfl (.tmp 42) (.tmp 46) 52 rfl w1.heap.size 65 i0 (.slice none 0 0) 1 24 Try.underlying52 hi hz0 hz1 hz2 rfl (by decide) (.slice (some ⟨w1.heap.size, 0, none⟩) 1 1) 1 [_] rfl (own_lit _ _ _) ad (ls.length - (k + 1)) (cap - (k + 1)) (xs.drop (k + 1)) rfl DL.out ?hn D1.out (by unfold maxLen; omega) (by omega) (by simp) ?_; (case hn => exact fun j u hu => cell_later (((hB1.alloc hB1.size _)).drew) (AD.out j u hu)); intro v2 w2 hown2 hgr2 _)
          have OWN2 := Lib.hid hown2; have GR2 := Lib.hid hgr2
          clear hown2 hgr2 hwr hge hle htn hsrc
          go_wp2
          go_ret2
          have hB2 : Below w.heap.size w w2 := ((hB1.alloc hB1.size _).drew).grown GR2.out (by simp; have := hB1.size; omega) (fun q hq => by cases hq; exact hB1.size)
          have hsp := split_mid hlt LK.out hm.out (by omega : m ≤ l.length)
          have hB12 : Below w1.heap.size w1 w2 := (((Below.refl _ _).alloc (Nat.le_refl _) _).drew).grown GR2.out (by simp) (fun q hq => by cases hq; exact Nat.le_refl _)
          have r1 : RowAt ok w2 v1 (ls.take k ++ [l.take m]) := by
            have ho := owns_below OWN1.out hB12
            refine RowAt.of_owns (base := w.heap.size + 1) (e := 65) ?_ ((((K.out).take k).kept (Keeps.of_below hB2)).append (.single (CT.out w2 fun a ha => hB2.cell ha))) (fun g hg _ => O.out g (by omega))
            have hlen : (ls.take k ++ [l.take m]).length = k + 1 := by simp; omega
            rw [hlen]
            simpa using ho
          have r2 : RowAt ok w2 v2 (l.drop m :: ls.drop (k + 1)) := by
            have ho := OWN2.out
            have hch : Chunk ok w2 (.slice (some ⟨b1, o1 + m, none⟩) (l.length - m) (c1 - m)) (l.drop m) := by
              refine ⟨b1, o1 + m, c1 - m, by rw [List.length_drop], hb1, by rw [List.length_drop]; omega, by rw [List.length_drop]; omega, fun i x hx => ?_⟩
              rw [List.getElem?_drop] at hx
              have h1 := HC.out _ x hx
              rw [show o1 + m + i = o1 + (m + i) by omega, hB2.cell (p := ⟨b1, o1 + (m + i), none⟩) (World.block_lt_of_cell? w _ h1)]
              exact h1
            have hcs := Chunks.append (.single hch) (((K.out).drop (k + 1)).kept (Keeps.of_below hB2))
            refine RowAt.of_owns (base := w1.heap.size) (e := 65) ?_ hcs (fun g hg _ => O.out g (by have := hB1.size; omega))
            have hlen : (l.drop m :: ls.drop (k + 1)).length = 1 + (ls.length - (k + 1)) := by simp; omega
            rw [hlen]
            exact ho
          exact ⟨v1, v2, _, _, rfl, r1, r2, (hsm.take k).append (.single (by rw [List.length_take]; omega) (by rw [List.length_take]; omega)), Small.mk (by rw [List.length_drop]; omega) (by rw [List.length_drop]; omega) (hsm.drop _), hsp.1, hsp.2, hB2⟩
        · have hm0' : ((m : Int) == 0) = false := beq_eq_false_iff_ne.2 (by omega)
          go_wp2
          go_round
          case rel =>
            have hst := take_step hlt LK.out
            have hmo := hm.out
            exact ⟨k + 1, m - l.length, by omega, by go_num, by congr 1; omega, Lib.hid (by omega), by omega⟩
          case measure => simp [intOf]; omega
    · go_wp2
      go_ret2
      have hall : ls.take k = ls := List.take_of_length_le (by omega)
      have hmo := hm.out
      rw [hall] at hmo
      exact ⟨_, _, ls, [], rfl, .inr ⟨b, o, cap, xs, rfl, hb, hc, X.out, K.out⟩, .inl ⟨rfl, rfl⟩, hsm, small_nil, (List.take_of_length_le (by omega)).symm, (List.drop_of_length_le (by omega)).symm, Below.refl _ _⟩

theorem split_any (ok : Nat → Prop) (v : Value) (ls : List (List UInt8)) (n : Nat) (w : World) (hr : RowAt ok w v ls) (hl : ls.flatten.length ≤ 4096) (hsm : Small ls) (hn : n ≤ 4096) (hok : ∀ b, w.heap.size ≤ b → ok b) :
    Calls Try.prog 23 #[v, .int .i64 n] w (SplitPost ok ls n w) := by
  rcases hr with ⟨rfl, rfl⟩ | ⟨b, o, cap, xs, rfl, hb, hc, hx, hk⟩
  · refine (split_nil n w hn).mono ?_
    rintro e w' ⟨rfl, rfl⟩
    exact ⟨_, _, [], [], rfl, .inl ⟨rfl, rfl⟩, .inl ⟨rfl, rfl⟩, small_nil, small_nil, by simp, by simp, Below.refl _ _⟩
  · exact split_some ok b o cap xs ls n w hb hc hx hk hl hsm hn hok

end Go.Proofs.Ytijfifbjiakilaa
