/-
  PkB, PgN, PkC, PkD, Ta1, Ta2, Ta3, Ta4, Ta5, Ta6, in one text. Conditions: as each theorem's premises say.
-/
import Derived.Test.YtjmfjlffcopnnaaDoorM20
import Derived.Test.YtjmfjlffcopnnaaDoorPgM
namespace Go.Proofs.YtjmfjlffcopnnaaDoor
open Go.RowKit
open Go.Proofs.YtjmfjlffcopnnaaDoor.K (C RowC PieceAt MayP)

/-- What PutMsg answers. -/
def PutP (m : Ms) (w : World) (e : Ending) (w' : World) : Prop := Below w.heap.size w w' ∧
  ((MsMay m ∧ (msgC m []).length ≤ 1000000 ∧ ∃ z : ByteArray, e = .returned (.tuple #[.string z, .int .i64 0]) ∧ bytesOf z = msgC m [])
  ∨ (¬ (MsMay m ∧ (msgC m []).length ≤ 1000000) ∧ e = .returned (.tuple #[.string ⟨#[]⟩, .int .i64 1700])))
theorem ltr_0 : bytesOf ((⟨#[80, 67, 83]⟩ : ByteArray).extract 0 1) = [80] := by decide +kernel
theorem ltr_1 : bytesOf ((⟨#[80, 67, 83]⟩ : ByteArray).extract 1 2) = [67] := by decide +kernel
theorem ltr_2 : bytesOf ((⟨#[80, 67, 83]⟩ : ByteArray).extract 2 3) = [83] := by decide +kernel
theorem msg_poll {m : Ms} (hk : m.kd = 0) : msgC m [] = [80] ++ (numC m.cl [] ++ (numC m.rv [] ++ (numC m.sq [] ++ listC compC m.ed []))) := by
  unfold msgC
  rw [if_pos hk, num_app.nil m.cl, num_app.nil m.rv, num_app.nil m.sq]
  rfl
theorem msg_changes {m : Ms} (hk : m.kd = 1) : msgC m [] = [67] ++ (numC m.cl [] ++ (numC m.rv [] ++ (numC (m.es.length : Int) [] ++ rowC entC m.es []))) := by
  unfold msgC
  rw [if_neg (by rw [hk]; decide), if_pos hk, num_app.nil m.cl, num_app.nil m.rv, list_split]
  rfl
theorem msg_snap {m : Ms} (hk : m.kd = 2) : msgC m [] = [83] ++ (numC m.cl [] ++ (numC m.rv [] ++ (numC m.sq [] ++ (numC m.fr [] ++ (numC m.ls [] ++ (numC (if m.rf then 1 else 0) [] ++ (strC (bytesOf m.tx) [] ++ treeC m.ro m.nx m.ns []))))))) := by
  unfold msgC
  rw [if_neg (by rw [hk]; decide), if_neg (by rw [hk]; decide), num_app.nil m.cl, num_app.nil m.rv, num_app.nil m.sq, num_app.nil m.fr, num_app.nil m.ls, num_app.nil (if m.rf then 1 else 0), str_app.nil]
  rfl

end Go.Proofs.YtjmfjlffcopnnaaDoor

namespace Go.Proofs.YtjmfjlffcopnnaaDoor
open Go.Proofs.YtjmfjlffcopnnaaDoor.K (C MayP)

theorem sm_small {x : Int} (h0 : 0 ≤ x) (h1 : x ≤ 16777216) : Sm x := ⟨h0, by omega⟩
theorem may_nodesS {ns : List Nd} {root next size : Int} (h : mayB ns root next size = true) : ns.length ≤ 2048 ∧ Sm root ∧ Sm next ∧ ∀ x ∈ ns, NdS x ∧ x.kids.length ≤ 2048 := by
  have Cm := mayC_is.1 h
  have hid : ∀ x ∈ ns, Sm x.id := fun x hx => by
    have hn := nodeOk_is.1 (Cm.node x hx)
    have := Cm.next1
    exact sm_small hn.1.1 (by omega)
  obtain ⟨y, hy, _, hyr, _⟩ := root_node Cm
  refine ⟨Cm.few, by rw [← hyr]; exact hid y hy, sm_small Cm.next0 Cm.next1, fun x hx => ?_⟩
  have hn := nodeOk_is.1 (Cm.node x hx)
  have hs := Cm.size1
  have hk : ∀ c ∈ x.kids, (allKids ns).count c = 1 ∧ Sm c := fun c hc => by
    obtain ⟨h1, _, z, hz, hzc⟩ := kids_once Cm hx hc
    exact ⟨h1, by rw [← hzc]; exact hid z hz⟩
  have hnd : x.kids.Nodup := List.nodup_iff_count.2 fun c => by
    by_cases hc : c ∈ x.kids
    · rw [← (hk c hc).1]
      exact count_kids hx c
    · rw [List.count_eq_zero_of_not_mem hc]
      omega
  have hkl : x.kids.length ≤ 2048 := by
    have := pigeon x.kids (ns.map Nd.id) hnd fun c hc => by
      obtain ⟨_, _, z, hz, hzc⟩ := kids_once Cm hx hc
      exact List.mem_map.2 ⟨z, hz, hzc⟩
    rw [List.length_map] at this
    exact Nat.le_trans this Cm.few
  exact ⟨⟨hid x hx, sm_small hn.2.1 (by omega), sm_small hn.2.2.2.1 (by omega), sm_small (by omega) (by omega), fun c hc => (hk c hc).2, by omega⟩, hkl⟩
theorem idB_sm {i : Int} (h : idB i = true) : Sm i := by
  unfold idB at h
  simp only [Bool.and_eq_true, decide_eq_true_eq] at h
  exact sm_small h.1 (by omega)
theorem stpS {kd id nd fr tt : Int} {ks : List Int} (a : Sm kd) (b : Sm id) (c : Sm nd) (d : Sm fr) (e : Sm tt) (f : ∀ k ∈ ks, Sm k) (g : ks.length ≤ 2048) : StS ⟨kd, id, nd, fr, tt, ks⟩ ∧ ks.length ≤ 2048 := ⟨⟨a, b, c, d, e, f, Nat.lt_of_le_of_lt g (by decide)⟩, g⟩
theorem may_stepS {s : St} (h : stepMay s = true) : StS s ∧ s.kids.length ≤ 2048 := by
  unfold stepMay at h
  simp only [Bool.and_eq_true, Bool.or_eq_true, beq_iff_eq, decide_eq_true_eq, List.isEmpty_iff, List.all_eq_true] at h
  obtain ⟨hi, h⟩ := h
  have z : Sm 0 := sm_small (Int.le_refl _) (by decide)
  have hid := idB_sm hi
  obtain ⟨kd, id, nd, fr, tt, ks⟩ := s
  dsimp only at *
  rcases h with ((⟨⟨⟨⟨rfl, rfl⟩, rfl⟩, rfl⟩, rfl⟩ | ⟨⟨⟨⟨⟨rfl, h1⟩, h2⟩, rfl⟩, rfl⟩, rfl⟩) | ⟨⟨⟨⟨⟨rfl, rfl⟩, rfl⟩, rfl⟩, h5⟩, h6⟩) | ⟨⟨⟨⟨⟨rfl, rfl⟩, h3⟩, h4⟩, h5⟩, rfl⟩
  · exact stpS z hid z z z no_kids (by simp)
  · exact stpS (sm_small (by decide) (by decide)) hid (sm_small h1 (by omega)) z z no_kids (by simp)
  · exact stpS (sm_small (by decide) (by decide)) hid z z z (fun k hk => idB_sm (h5 k hk)) h6
  · exact stpS (sm_small (by decide) (by decide)) hid z (sm_small h3 (by omega)) (sm_small (by omega) (by omega)) no_kids (by simp)
theorem may_compsS {cs : List C} (h : MayP cs) : (∀ c ∈ cs, CpS c) ∧ cs.length < 1000000000 := by
  obtain ⟨h1, h2, _⟩ := K.okB_iff.1 h.1
  refine ⟨fun c hc => ?_, by omega⟩
  rcases h2 c hc with ⟨hk, h0, hn, ht⟩ | ⟨hk, hn, ht⟩
  · refine .inr ⟨hk, ⟨h0, by omega⟩, ?_⟩
    apply ByteArray.ext
    exact Array.eq_empty_of_size_eq_zero ht
  · exact .inl ⟨hk, hn, by rw [bytes_len]; omega⟩
theorem may_entryS {e : En} (h : EnMay e) : EnS e := by
  obtain ⟨a1, a2, a3, a4, a5, a6, a7⟩ := h
  exact ⟨sm_small a1 (by omega), sm_small (by omega) (by omega), may_compsS a5, fun s hs => (may_stepS (a7 s hs)).1, by omega⟩
/-- The first letter of a message's text. -/
def msgK (m : Ms) : UInt8 := if m.kd = 0 then 80 else if m.kd = 1 then 67 else 83
theorem msg_rt {m : Ms} (h : MsMay m) : msgC m [] = msgK m :: (msgC m []).tail ∧ pMsg (msgK m) ((msgC m []).tail, false) = (m, [], false) := by
  obtain ⟨⟨a1, a2, a3, a4, a5, a6⟩, h⟩ := h
  obtain ⟨kd, cl, rv, sq, fr, ls, rf, tx, ro, nx, ns, ed, es⟩ := m
  dsimp only at a1 a2 a3 a4 a5 a6
  have n1 := num_rt cl
  have n2 := num_rt rv
  have s1 : Sm cl := sm_small a1 (by omega)
  have s2 : Sm rv := sm_small a3 (by omega)
  have s3 : Sm sq := sm_small a5 (by omega)
  unfold msgC msgK pMsg MsBare at *
  dsimp only at *
  rcases h with ⟨rfl, ⟨rfl, rfl, rfl, rfl, rfl, rfl, b7⟩, b1, b2, b3⟩ | ⟨rfl, ⟨rfl, rfl, rfl, rfl, rfl, rfl, b7⟩, b1, rfl, b3, b4⟩ | ⟨rfl, b1, b2, b3, b4, b5, b6, b8, b9⟩
  · obtain rfl := List.eq_nil_of_length_eq_zero b7
    obtain rfl := List.eq_nil_of_length_eq_zero b1
    have c1 := comps_rt ed [] (may_compsS b2)
    simp [num_rt cl _ s1, num_rt rv _ s2, num_rt sq _ s3, c1]
  · obtain rfl := List.eq_nil_of_length_eq_zero b7
    obtain rfl := List.eq_nil_of_length_eq_zero b1
    have c1 := list_rt ent_rt ent_gt es [] ⟨fun e he => may_entryS (b4 e he), by omega⟩
    simp [num_rt cl _ s1, num_rt rv _ s2, c1]
  · obtain rfl := List.eq_nil_of_length_eq_zero b1
    obtain rfl := List.eq_nil_of_length_eq_zero b2
    obtain ⟨c1, c2, c3, c4⟩ := may_nodesS b9
    have t1 := list_rt node_rt node_gt ns [] ⟨fun x hx => (c4 x hx).1, by omega⟩
    have t3 : pTree (treeC ro nx ns [], false) = ((ro, nx, ns), [], false) := by
      unfold pTree treeC
      simp only [num_rt ro _ c2, num_rt nx _ c3, t1]
    have t4 := str_rt (bytesOf tx) (treeC ro nx ns []) (by show (bytesOf tx).length < 1000000000; rw [bytes_len]; omega)
    have e : (⟨(bytesOf tx).toArray⟩ : ByteArray) = tx := by simp [bytesOf]
    cases rf
    · simp [num_rt cl _ s1, num_rt rv _ s2, num_rt sq _ s3, num_rt fr _ (sm_small b3 (by omega)), num_rt ls _ (sm_small b5 (by omega)), num_rt 0 _ (sm_small (Int.le_refl _) (by decide)), t4, t3, e]
    · simp [num_rt cl _ s1, num_rt rv _ s2, num_rt sq _ s3, num_rt fr _ (sm_small b3 (by omega)), num_rt ls _ (sm_small b5 (by omega)), num_rt 1 _ (sm_small (by decide) (by decide)), t4, t3, e]

end Go.Proofs.YtjmfjlffcopnnaaDoor

namespace Go.Proofs.YtjmfjlffcopnnaaDoor
open Go.RowKit
open Go.Proofs.YtjmfjlffcopnnaaDoor.K (C RowC PieceAt MayP)

end Go.Proofs.YtjmfjlffcopnnaaDoor

namespace Go.Proofs.YtjmfjlffcopnnaaDoor
open Go.RowKit
open Go.Proofs.YtjmfjlffcopnnaaDoor.K (C RowC PieceAt MayP)

end Go.Proofs.YtjmfjlffcopnnaaDoor

namespace Go.Proofs.YtjmfjlffcopnnaaDoor
open Go.RowKit

def cellI (w : World) (tb : Nat) : Nat := match w.cell? ⟨tb, 1, none⟩ with
  | some (.int _ z) => z.toNat
  | _ => 0
theorem dgs_is {l : List UInt8} {k : Nat} (hk : k ≤ 9) (hl : k ≤ l.length) (h : ∀ j c, j < k → l[j]? = some c → isDg c = true) (he : k = 9 ∨ l.length = k ∨ ∃ c, l[k]? = some c ∧ isDg c = false) : dgs l = l.take k := by
  have key : ∀ (m k : Nat) (l : List UInt8), k ≤ m → k ≤ l.length → (∀ j c, j < k → l[j]? = some c → isDg c = true) → (k = m ∨ l.length = k ∨ ∃ c, l[k]? = some c ∧ isDg c = false) → (l.take m).takeWhile isDg = l.take k := by
    intro m
    induction m with
    | zero =>
      intro k l hk _ _ _
      have h0 : k = 0 := by omega
      rw [h0]
      simp
    | succ m ih =>
      intro k l hk hl h he
      cases l with
      | nil => simp
      | cons a r =>
        cases k with
        | zero =>
          rcases he with he | he | ⟨c, hc, hd⟩
          · omega
          · simp at he
          · simp at hc
            subst hc
            simp [hd]
        | succ k =>
          have ha : isDg a = true := h 0 a (by omega) rfl
          have := ih k r (by omega) (by simpa using hl) (fun j c hj hc => h (j + 1) c (by omega) (by simpa using hc)) (by
            rcases he with he | he | ⟨c, hc, hd⟩
            · exact .inl (by omega)
            · exact .inr (.inl (by simpa using he))
            · exact .inr (.inr ⟨c, by simpa using hc, hd⟩))
          rw [List.take_succ_cons, List.takeWhile_cons, if_pos ha, this, List.take_succ_cons]
  exact key 9 k l hk hl h he

theorem pDig_fail {l : List UInt8} {k : Nat} {e : UInt8} {b : Bool} (hd : dgs l = l.take k) (hk : k ≤ l.length) (h : k = 0 ∨ l.length = k ∨ ∃ c, l[k]? = some c ∧ c ≠ e) : pDig e (l, b) = (0, l.drop k, true) := by
  unfold pDig
  dsimp only
  rw [hd, List.length_take, Nat.min_eq_left hk]
  cases ht : l.take k with
  | nil => rfl
  | cons a r =>
    have h0 : k ≠ 0 := by rintro rfl; simp at ht
    cases hr : l.drop k with
    | nil => rfl
    | cons c r2 =>
      dsimp only
      have hc : l[k]? = some c := by
        have := congrArg (fun x => x[0]?) hr
        simpa [List.getElem?_drop] using this
      rw [if_neg]
      intro e1
      rcases h with h | h | ⟨c', h1, h2⟩
      · exact h0 h
      · rw [List.drop_eq_nil_of_le (by omega)] at hr; cases hr
      · rw [hc] at h1; cases h1; exact h2 e1
theorem pDig_good {l : List UInt8} {k : Nat} {e : UInt8} {b : Bool} (hd : dgs l = l.take k) (h0 : 0 < k) (hc : l[k]? = some e) : pDig e (l, b) = (((valD 0 (l.take k) : Nat) : Int), l.drop (k + 1), b) := by
  have hk : k < l.length := (List.getElem?_eq_some_iff.1 hc).1
  unfold pDig
  dsimp only
  rw [hd, List.length_take, Nat.min_eq_left (by omega)]
  cases ht : l.take k with
  | nil => rw [List.take_eq_nil_iff] at ht; rcases ht with h | h; · omega
           · rw [h] at hk; simp at hk
  | cons a r =>
    have hr : l.drop k = e :: l.drop (k + 1) := by
      rw [List.drop_eq_getElem_cons hk]
      have := (List.getElem?_eq_some_iff.1 hc).2
      rw [this]
    rw [hr]
    dsimp only
    rw [if_pos rfl]
theorem valD_lt : ∀ (l : List UInt8) (x : Nat), (∀ c ∈ l, isDg c = true) → valD x l < (x + 1) * 10 ^ l.length
  | [], x, _ => by simp [valD]
  | c :: l, x, h => by
    have ih := valD_lt l (10 * x + (c.toNat - 48)) (fun y hy => h y (List.mem_cons_of_mem _ hy))
    have hc := h c (List.mem_cons_self ..)
    unfold isDg at hc
    simp only [Bool.and_eq_true, decide_eq_true_eq] at hc
    have h1 : valD x (c :: l) = valD (10 * x + (c.toNat - 48)) l := rfl
    rw [h1, List.length_cons, Nat.pow_succ]
    refine Nat.lt_of_lt_of_le ih ?_
    have h2 : 10 * x + (c.toNat - 48) + 1 ≤ (x + 1) * 10 := by omega
    calc (10 * x + (c.toNat - 48) + 1) * 10 ^ l.length ≤ ((x + 1) * 10) * 10 ^ l.length := Nat.mul_le_mul_right _ h2
      _ = (x + 1) * (10 ^ l.length * 10) := by rw [Nat.mul_assoc, Nat.mul_comm 10]
theorem valD_snoc {l : List UInt8} {k : Nat} {c : UInt8} (h : l[k]? = some c) : valD 0 (l.take (k + 1)) = 10 * valD 0 (l.take k) + (c.toNat - 48) := by
  rw [List.take_add_one, h]
  unfold valD
  rw [List.foldl_append]
  rfl
theorem from_at {s : ByteArray} {p m : Nat} {c : UInt8} (hp : p ≤ m) (hm : m < s.size) (h : s[m] = c) : (fromL s p)[m - p]? = some c := by
  unfold fromL
  rw [List.getElem?_drop, show p + (m - p) = m from by omega, List.getElem?_eq_getElem (by simpa using hm), ← h]
  rfl

end Go.Proofs.YtjmfjlffcopnnaaDoor

namespace Go.Proofs.YtjmfjlffcopnnaaDoor
open Go.RowKit

end Go.Proofs.YtjmfjlffcopnnaaDoor

namespace Go.Proofs.YtjmfjlffcopnnaaDoor
open Go.RowKit

theorem pDig_nonneg (e : UInt8) (t : Ts) : 0 ≤ (pDig e t).1 := by
  unfold pDig
  split
  · exact Int.le_refl _
  · exact Int.le_refl _
  · split
    · exact Int.natCast_nonneg _
    · exact Int.le_refl _
theorem bytes_extract (s : ByteArray) (i k : Nat) : bytesOf (s.extract i k) = (fromL s i).take (k - i) := by
  unfold bytesOf fromL
  rw [ByteArray.data_extract, Array.toList_extract]
end Go.Proofs.YtjmfjlffcopnnaaDoor

namespace Go.Proofs.YtjmfjlffcopnnaaDoor
open Go.RowKit

theorem pDig_len (e : UInt8) (t : Ts) : (pDig e t).2.1.length ≤ t.1.length := by
  unfold pDig
  split
  · simp
  · simp
  · rename_i h
    have := congrArg List.length h
    simp at this
    split <;> simp <;> omega
theorem count_le (t : Ts) : 0 ≤ (pCount t).1 ∧ (pCount t).1.toNat ≤ t.1.length := by
  have h1 := pDig_nonneg 44 t
  have h2 := pDig_len 44 t
  unfold pCount
  split
  · exact ⟨Int.le_refl _, by simp⟩
  · unfold pNum at *
    exact ⟨h1, by omega⟩
end Go.Proofs.YtjmfjlffcopnnaaDoor

namespace Go.Proofs.YtjmfjlffcopnnaaDoor
open Go.RowKit
open Go.Proofs.YtjmfjlffcopnnaaDoor.K (C)

def lyC : Ly C where
  ty := 42
  sz := 3
  cells c := [.int .i64 c.k, .int .i64 c.n, .string c.t]
  len _ := rfl
  one t u hu := by
    simp at hu
    rcases hu with rfl | rfl | rfl <;> rfl
  pos := by decide
theorem info48 : (Tryd.prog.info? 42).map (fun i => (i.zero, i.size, i.bytes)) = some (some (.agg #[.int .i64 0, .int .i64 0, .string ⟨#[]⟩]), 3, 32) := by kernel_rfl
theorem grown_quiet {w w1 : World} {tb : Nat} (h : w.grownBy w1 (some tb)) (n : Nat) : w.grownBy (w1.drewN n) (some tb) := grown_trans h (grown_of_below (dr_below _ n) (some tb)) (fun _ hg => .inl hg)

end Go.Proofs.YtjmfjlffcopnnaaDoor

namespace Go.Proofs.YtjmfjlffcopnnaaDoor
open Go.RowKit
open Go.Proofs.YtjmfjlffcopnnaaDoor.K (C)

theorem node_eq {t t1 t2 t3 t4 t5 : Ts} {x1 x2 x3 x4 : Int} {l : List Int} (h1 : pNum t = (x1, t1)) (h2 : pNum t1 = (x2, t2)) (h3 : pNum t2 = (x3, t3)) (h4 : pNum t3 = (x4, t4)) (h5 : pList pNum t4 = (l, t5)) : pNode t = (⟨x1, x2, x3, x4, l⟩, t5) := by
  unfold pNode
  simp only [h1, h2, h3, h4, h5]
theorem step_eq {t t1 t2 t3 t4 t5 t6 : Ts} {x1 x2 x3 x4 x5 : Int} {l : List Int} (h1 : pNum t = (x1, t1)) (h2 : pNum t1 = (x2, t2)) (h3 : pNum t2 = (x3, t3)) (h4 : pNum t3 = (x4, t4)) (h5 : pNum t4 = (x5, t5)) (h6 : pList pNum t5 = (l, t6)) : pStep t = (⟨x1, x2, x3, x4, x5, l⟩, t6) := by
  unfold pStep
  simp only [h1, h2, h3, h4, h5, h6]

theorem box_kept {w w' : World} {g k : Nat} {o : Obj} (h : w.heap[k]? = some o) (hg : w.grownBy w' (some g)) (hne : k ≠ g) : w'.heap[k]? = some o :=
  (hg.block k (Array.getElem?_eq_some_iff.1 h).1 (fun e => hne (Option.some.inj e))).trans h

theorem row_done {α : Type} {f : Ts → α × Ts} {k : Nat} {acc : List α} {t : Ts} (h : k = 0 ∨ t.2 = true) : pRow f k acc t = (acc, t) := by
  cases k with
  | zero => rfl
  | succ k =>
    unfold pRow
    rw [if_pos (h.resolve_left (by omega))]
theorem row_next {α : Type} {f : Ts → α × Ts} {k j : Nat} {acc : List α} {l : List UInt8} (hk : k = j + 1) {x : α} {t : Ts} (hf : f (l, false) = (x, t)) : pRow f k acc (l, false) = pRow f j (acc ++ [x]) t := by
  subst hk
  have e : pRow f (j + 1) acc (l, false) = if (l, false).2 = true then (acc, (l, false)) else pRow f j (acc ++ [(f (l, false)).1]) (f (l, false)).2 := rfl
  rw [e, if_neg (by simp), hf]
theorem tree_eq {t t1 t2 t3 t4 : Ts} {x1 x2 : Int} {K : Nat} {ns : List Nd} (h1 : pNum t = (x1, t1)) (h2 : pNum t1 = (x2, t2)) (h3 : pCount t2 = ((K : Int), t3)) (h4 : pRow pNode K [] t3 = (ns, t4)) : pTree t = ((x1, x2, ns), t4) := by
  unfold pTree pList
  simp only [h1, h2, h3, Int.toNat_natCast, h4]

end Go.Proofs.YtjmfjlffcopnnaaDoor
