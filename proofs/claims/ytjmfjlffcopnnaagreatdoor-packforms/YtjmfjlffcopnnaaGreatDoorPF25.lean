/-
  Lw6, Lw7, in one text. Conditions: as each theorem's premises say.
-/
import Derived.Test.YtjmfjlffcopnnaaGreatDoorPF24
import Derived.Test.YtjmfjlffcopnnaaGreatDoorPF19
import Derived.Deep.RegionHeld3
import Derived.OwnWalk
import Derived.Laws.MakeOwn
namespace Go.Proofs.YtjmfjlffcopnnaaGreatDoor
open Go.RowKit
open Go.Proofs.YtjmfjlffcopnnaaGreatDoor.K (C RowC MayP)

theorem and1023 (x : Int) : ∃ n : Nat, n ≤ 1023 ∧ bits BinOp.and IntKind.i64 x 1023 = (n : Int) := by
  have hv : (BitVec.ofInt 64 x &&& BitVec.ofInt 64 1023).toNat ≤ 1023 := by
    rw [BitVec.toNat_and]
    exact Nat.le_trans Nat.and_le_right (by decide)
  refine ⟨_, hv, ?_⟩
  show IntKind.i64.wrap (((BitVec.ofInt 64 x &&& BitVec.ofInt 64 1023).toNat : Nat) : Int) = _
  exact IntWalk.i64_in _ (by omega)
def c1 : C := ⟨0, 1, ⟨#[]⟩⟩
theorem c1_may : MayP [c1] := mayP_of (by decide +kernel) (normR_one (by decide))
theorem c2_not : ¬ MayP [c1, c1] := by
  rintro ⟨_, h⟩
  exact ((h 1 c1 rfl).2 c1 (by simp) rfl).1 rfl
def nodes3 : List Nd := parN [91, 49, 93]
theorem nodes3_may : mayB nodes3 0 3 3 = true := by decide +kernel
theorem nodes3_len : nodes3.length = 3 := by decide +kernel
theorem nodes3_four : mayB nodes3 0 3 4 = false := by decide +kernel
theorem nodes3_next : mayB nodes3 0 0 3 = false := by decide +kernel
theorem nodes3_kids : ∀ x ∈ nodes3, x.kids.length ≤ 140737488355328 := by decide +kernel
def mPoll : Ms := ⟨0, 1, 2, 3, 0, 0, false, ⟨#[]⟩, 0, 0, [], [c1], []⟩
def eOne : En := ⟨1, 2, [c1], [⟨0, 3, 0, 0, 0, []⟩]⟩
def mEs : Ms := ⟨1, 1, 2, 0, 0, 0, false, ⟨#[]⟩, 0, 0, [], [], [eOne]⟩
def mSnap : Ms := ⟨2, 1, 2, 0, 1, 4, true, ⟨#[91, 49, 93]⟩, 0, 3, nodes3, [], []⟩
theorem eOne_may : EnMay eOne := ⟨by decide, by decide, by decide, by decide, c1_may, by decide, fun s hs => by
  obtain rfl : s = _ := List.mem_singleton.1 hs
  decide +kernel⟩
theorem mPoll_may : MsMay mPoll := ⟨⟨by decide, by decide, by decide, by decide, by decide, by decide⟩, .inl ⟨rfl, ⟨rfl, rfl, rfl, rfl, rfl, rfl, rfl⟩, rfl, c1_may, .inl (by decide)⟩⟩
theorem mEs_may : MsMay mEs := ⟨⟨by decide, by decide, by decide, by decide, by decide, by decide⟩, .inr (.inl ⟨rfl, ⟨rfl, rfl, rfl, rfl, rfl, rfl, rfl⟩, rfl, rfl, by decide, fun e he => by
  obtain rfl : e = _ := List.mem_singleton.1 he
  exact eOne_may⟩)⟩
theorem mSnap_may : MsMay mSnap := ⟨⟨by decide, by decide, by decide, by decide, by decide, by decide⟩, .inr (.inr ⟨rfl, rfl, rfl, by decide, by decide, by decide, by decide, by decide, nodes3_may⟩)⟩
theorem small_z {m : Ms} (h1 : m.ed.length ≤ 2) (h2 : m.es = [] ∨ (m.es.length ≤ 2000 ∧ ∀ e ∈ m.es, e.ed.length ≤ 1 ∧ e.dl.length ≤ 1 ∧ ∀ s ∈ e.dl, s.kids = [])) (h3 : m.ns = [] ∨ m.ns = nodes3) (h4 : m.tx.size ≤ 10) : MsZ m := by
  refine ⟨by omega, ?_, ?_, by omega, ?_, ?_⟩
  · rcases h2 with h | h
    · rw [h]; exact Nat.zero_le _
    · omega
  · rcases h3 with h | h
    · rw [h]; exact Nat.zero_le _
    · rw [h, nodes3_len]; decide
  · rcases h3 with h | h
    · rw [h]; exact fun x hx => (by cases hx)
    · rw [h]; exact nodes3_kids
  · rcases h2 with h | h
    · rw [h]; exact fun x hx => (by cases hx)
    · intro e he
      obtain ⟨a, b, c⟩ := h.2 e he
      exact ⟨by omega, by omega, fun s hs => by rw [c s hs]; exact Nat.zero_le _⟩
theorem mPoll_z : MsZ mPoll := small_z (by decide) (.inl rfl) (.inl rfl) (by decide)
theorem mEs_z : MsZ mEs := small_z (by decide) (.inr ⟨by decide, fun e he => by
  obtain rfl : e = _ := List.mem_singleton.1 he
  exact ⟨by decide, by decide, fun s hs => by
    obtain rfl : s = _ := List.mem_singleton.1 hs
    rfl⟩⟩) (.inl rfl) (by decide)
theorem mSnap_z : MsZ mSnap := small_z (by decide) (.inl rfl) (.inr rfl) (by decide)

/-- The poll with one thing turned. -/
def pollT (d : Nat) : Nat → Ms
  | 0 => ⟨0, 2 + d, 2, 3, 0, 0, false, ⟨#[]⟩, 0, 0, [], [c1], []⟩
  | 1 => ⟨0, -d, 2, 3, 0, 0, false, ⟨#[]⟩, 0, 0, [], [c1], []⟩
  | 2 => ⟨0, 1, -d, 3, 0, 0, false, ⟨#[]⟩, 0, 0, [], [c1], []⟩
  | 3 => ⟨0, 1, 4096 + d, 3, 0, 0, false, ⟨#[]⟩, 0, 0, [], [c1], []⟩
  | 4 => ⟨0, 1, 2, 0, 0, 0, false, ⟨#[]⟩, 0, 0, [], [c1], []⟩
  | 5 => ⟨0, 1, 2, 4096 + d, 0, 0, false, ⟨#[]⟩, 0, 0, [], [c1], []⟩
  | 6 => ⟨0, 1, 2, 3, d, 0, false, ⟨#[]⟩, 0, 0, [], [c1], []⟩
  | 7 => ⟨0, 1, 2, 3, 0, d, false, ⟨#[]⟩, 0, 0, [], [c1], []⟩
  | 8 => ⟨0, 1, 2, 3, 0, 0, true, ⟨#[]⟩, 0, 0, [], [c1], []⟩
  | 9 => ⟨0, 1, 2, 3, 0, 0, false, ⟨#[97]⟩, 0, 0, [], [c1], []⟩
  | 10 => ⟨0, 1, 2, 3, 0, 0, false, ⟨#[]⟩, 0, d, [], [c1], []⟩
  | 11 => ⟨0, 1, 2, 3, 0, 0, false, ⟨#[]⟩, 0, 0, [], [c1, c1], []⟩
  | _ => ⟨2 + d, 1, 2, 3, 0, 0, false, ⟨#[]⟩, 0, 0, [], [c1], []⟩
theorem no_poll {m : Ms} (hk : m.kd = 0) (h : ¬ (MsHead m ∧ MsBare m ∧ MayP m.ed ∧ (0 < m.sq ∨ m.ed.length = 0))) : ¬ MsMay m := by
  rintro ⟨h1, ⟨_, h2, _, h3, h4⟩ | ⟨h0, _⟩ | ⟨h0, _⟩⟩
  · exact h ⟨h1, h2, h3, h4⟩
  · rw [hk] at h0; cases h0
  · rw [hk] at h0; cases h0
theorem pollT_not (d : Nat) (h0 : 1 ≤ d) : ∀ k, k ≤ 12 → ¬ MsMay (pollT d k)
  | 0, _ => no_poll rfl (fun h => by have this : (2 : Int) + d < 3 := h.1.2.1; omega)
  | 1, _ => no_poll rfl (fun h => by have this : (0 : Int) ≤ -d := h.1.1; omega)
  | 2, _ => no_poll rfl (fun h => by have this : (0 : Int) ≤ -d := h.1.2.2.1; omega)
  | 3, _ => no_poll rfl (fun h => by have this : (4096 : Int) + d ≤ 4096 := h.1.2.2.2.1; omega)
  | 4, _ => no_poll rfl (fun h => by rcases h.2.2.2 with h | h; exact absurd (show (0 : Int) < 0 from h) (by decide); exact absurd (show 1 = 0 from h) (by decide))
  | 5, _ => no_poll rfl (fun h => by have this : (4096 : Int) + d ≤ 4096 := h.1.2.2.2.2.2; omega)
  | 6, _ => no_poll rfl (fun h => by have this : (d : Int) = 0 := h.2.1.1; omega)
  | 7, _ => no_poll rfl (fun h => by have this : (d : Int) = 0 := h.2.1.2.1; omega)
  | 8, _ => no_poll rfl (fun h => by have this : true = false := h.2.1.2.2.1; cases this)
  | 9, _ => no_poll rfl (fun h => by have this : 1 = 0 := congrArg ByteArray.size h.2.1.2.2.2.1; cases this)
  | 10, _ => no_poll rfl (fun h => by have this : (d : Int) = 0 := h.2.1.2.2.2.2.2.1; omega)
  | 11, _ => no_poll rfl (fun h => c2_not h.2.2.1)
  | 12, _ => by
    rintro ⟨_, ⟨h, _⟩ | ⟨h, _⟩ | ⟨h, _⟩⟩
    · have this : (2 : Int) + d = 0 := h; omega
    · have this : (2 : Int) + d = 1 := h; omega
    · have this : (2 : Int) + d = 2 := h; omega
  | k + 13, h => absurd h (by omega)
theorem pollT_z (d : Nat) : ∀ k, k ≤ 12 → MsZ (pollT d k)
  | 0, _ | 1, _ | 2, _ | 3, _ | 4, _ | 5, _ | 6, _ | 7, _ | 8, _ | 9, _ | 10, _ | 11, _ | 12, _ => small_z (Nat.le_of_ble_eq_true rfl) (.inl rfl) (.inl rfl) (Nat.le_of_ble_eq_true rfl)
  | k + 13, h => absurd h (by omega)
/-- Changes and a snapshot with one thing turned. -/
def zEn : En := ⟨0, 0, [], []⟩
def turnT (d : Nat) : Nat → Ms
  | 13 => ⟨1, 1, 2, d, 0, 0, false, ⟨#[]⟩, 0, 0, [], [], [eOne]⟩
  | 14 => ⟨1, 1, 2, 0, 0, 0, false, ⟨#[]⟩, 0, 0, [], [c1], [eOne]⟩
  | 15 => ⟨1, 1, 2, 0, 0, 0, false, ⟨#[]⟩, 0, 0, [], [], List.replicate (3 + d) zEn⟩
  | 16 => ⟨1, 1, 2, 0, 0, 0, false, ⟨#[]⟩, 0, 0, [], [], [⟨1, 0, [c1], [⟨0, 3, 0, 0, 0, []⟩]⟩]⟩
  | 17 => ⟨1, 1, 2, 0, 0, 0, false, ⟨#[]⟩, 0, 0, [], [], [⟨-d, 2, [c1], [⟨0, 3, 0, 0, 0, []⟩]⟩]⟩
  | 18 => ⟨1, 1, 2, 0, 0, 0, false, ⟨#[]⟩, 0, 0, [], [], [⟨1, 2, [c1], [⟨0, -d, 0, 0, 0, []⟩]⟩]⟩
  | 19 => ⟨2, 1, 2, 0, 1, 4, true, ⟨#[91, 49, 93, 120]⟩, 0, 3, nodes3, [], []⟩
  | 20 => ⟨2, 1, 2, 0, 1, 4096 + d, true, ⟨#[91, 49, 93]⟩, 0, 3, nodes3, [], []⟩
  | 21 => ⟨2, 1, 2, 0, -d, 4, true, ⟨#[91, 49, 93]⟩, 0, 3, nodes3, [], []⟩
  | 22 => ⟨2, 1, 2, 0, 1, 4, true, ⟨#[91, 49, 93]⟩, 0, 0, nodes3, [], []⟩
  | _ => ⟨2, 1, 2, 0, 1, 4, true, ⟨#[91, 49, 93]⟩, 0, 3, nodes3, [c1], []⟩
theorem no_changes {m : Ms} (hk : m.kd = 1) (h : ¬ (m.ed.length = 0 ∧ m.sq = 0 ∧ m.es.length ≤ 3 ∧ ∀ e ∈ m.es, EnMay e)) : ¬ MsMay m := by
  rintro ⟨_, ⟨h0, _⟩ | ⟨_, _, h1, h2, h3, h4⟩ | ⟨h0, _⟩⟩
  · rw [hk] at h0; cases h0
  · exact h ⟨h1, h2, h3, h4⟩
  · rw [hk] at h0; cases h0
theorem no_snap {m : Ms} (hk : m.kd = 2) (h : ¬ (m.ed.length = 0 ∧ 0 ≤ m.fr ∧ m.ls ≤ 4096 ∧ mayB m.ns m.ro m.nx m.tx.size = true)) : ¬ MsMay m := by
  rintro ⟨_, ⟨h0, _⟩ | ⟨h0, _⟩ | ⟨_, _, h1, h2, _, _, h3, _, h4⟩⟩
  · rw [hk] at h0; cases h0
  · rw [hk] at h0; cases h0
  · exact h ⟨h1, h2, h3, h4⟩
theorem step_no (d : Nat) (h0 : 1 ≤ d) : stepMay ⟨0, -d, 0, 0, 0, []⟩ = false := by
  have : idB (-(d : Int)) = false := by
    unfold idB
    simp only [Bool.and_eq_false_iff, decide_eq_false_iff_not]
    omega
  unfold stepMay
  rw [this, Bool.false_and]
theorem turnT_not (d : Nat) (h0 : 1 ≤ d) : ∀ k, 13 ≤ k → k ≤ 23 → ¬ MsMay (turnT d k)
  | 13, _, _ => no_changes rfl (fun h => by have this : (d : Int) = 0 := h.2.1; omega)
  | 14, _, _ => no_changes rfl (fun h => by have this : 1 = 0 := h.1; cases this)
  | 15, _, _ => no_changes rfl (fun h => by have this : (List.replicate (3 + d) zEn).length ≤ 3 := h.2.2.1; rw [List.length_replicate] at this; omega)
  | 16, _, _ => no_changes rfl (fun h => by have this : (1 : Int) ≤ 0 := (h.2.2.2 ⟨1, 0, [c1], [⟨0, 3, 0, 0, 0, []⟩]⟩ (List.mem_singleton.2 rfl)).2.2.1; revert this; decide)
  | 17, _, _ => no_changes rfl (fun h => by have this : (0 : Int) ≤ -d := (h.2.2.2 ⟨-d, 2, [c1], [⟨0, 3, 0, 0, 0, []⟩]⟩ (List.mem_singleton.2 rfl)).1; omega)
  | 18, _, _ => no_changes rfl (fun h => by have this : stepMay ⟨0, -d, 0, 0, 0, []⟩ = true := (h.2.2.2 ⟨1, 2, [c1], [⟨0, -d, 0, 0, 0, []⟩]⟩ (List.mem_singleton.2 rfl)).2.2.2.2.2.2 _ (List.mem_singleton.2 rfl); rw [step_no d h0] at this; cases this)
  | 19, _, _ => no_snap rfl (fun h => by have this : mayB nodes3 0 3 4 = true := h.2.2.2; rw [nodes3_four] at this; cases this)
  | 20, _, _ => no_snap rfl (fun h => by have this : (4096 : Int) + d ≤ 4096 := h.2.2.1; omega)
  | 21, _, _ => no_snap rfl (fun h => by have this : (0 : Int) ≤ -d := h.2.1; omega)
  | 22, _, _ => no_snap rfl (fun h => by have this : mayB nodes3 0 0 3 = true := h.2.2.2; rw [nodes3_next] at this; cases this)
  | 23, _, _ => no_snap rfl (fun h => by have this : 1 = 0 := h.1; cases this)
  | k + 24, _, h => absurd h (by omega)
theorem one_z {k cl sq id : Int} {m : Ms} (h1 : m.ed.length ≤ 2) (h2 : m.es = [⟨cl, sq, [c1], [⟨0, id, 0, 0, 0, []⟩]⟩]) (h3 : m.ns = []) (h4 : m.tx.size ≤ 10) (_ : k = k) : MsZ m := small_z h1 (.inr ⟨by rw [h2]; exact Nat.le_of_ble_eq_true rfl, fun e he => by
  rw [h2] at he
  obtain rfl : e = _ := List.mem_singleton.1 he
  exact ⟨Nat.le_refl _, Nat.le_refl _, fun s hs => by
    obtain rfl : s = _ := List.mem_singleton.1 hs
    rfl⟩⟩) (.inl h3) h4
theorem turnT_z (d : Nat) (h1 : d ≤ 1024) : ∀ k, 13 ≤ k → k ≤ 23 → MsZ (turnT d k)
  | 13, _, _ => one_z (k := 0) (Nat.le_of_ble_eq_true rfl) rfl rfl (Nat.le_of_ble_eq_true rfl) rfl
  | 14, _, _ => one_z (k := 0) (Nat.le_of_ble_eq_true rfl) rfl rfl (Nat.le_of_ble_eq_true rfl) rfl
  | 15, _, _ => small_z (Nat.le_of_ble_eq_true rfl) (.inr ⟨by show (List.replicate (3 + d) zEn).length ≤ 2000; rw [List.length_replicate]; omega, fun e he => by
      have he2 : e ∈ List.replicate (3 + d) zEn := he
      rw [(List.mem_replicate.1 he2).2]
      exact ⟨by decide, by decide, fun s hs => (by cases hs)⟩⟩) (.inl rfl) (Nat.le_of_ble_eq_true rfl)
  | 16, _, _ => one_z (k := 0) (Nat.le_of_ble_eq_true rfl) rfl rfl (Nat.le_of_ble_eq_true rfl) rfl
  | 17, _, _ => one_z (k := 0) (Nat.le_of_ble_eq_true rfl) rfl rfl (Nat.le_of_ble_eq_true rfl) rfl
  | 18, _, _ => one_z (k := 0) (Nat.le_of_ble_eq_true rfl) rfl rfl (Nat.le_of_ble_eq_true rfl) rfl
  | 19, _, _ | 20, _, _ | 21, _, _ | 22, _, _ | 23, _, _ => small_z (Nat.le_of_ble_eq_true rfl) (.inl rfl) (.inr rfl) (Nat.le_of_ble_eq_true rfl)
  | k + 24, _, h => absurd h (by omega)

end Go.Proofs.YtjmfjlffcopnnaaGreatDoor

namespace Go.Proofs.YtjmfjlffcopnnaaGreatDoor
open Go.RowKit
open Go.Proofs.YtjmfjlffcopnnaaGreatDoor.K (C RowC MayP)

theorem setAll_obj : ∀ (us : List Value) (W : World) (b o : Nat) (pre c : List Value) (ty : TypeId), W.heap[b]? = some (.cells (pre ++ c).toArray ty (0, 0)) → us.length = c.length → pre.length = o → (setAll W b o us).heap[b]? = some (.cells (pre ++ us).toArray ty (0, 0))
  | [], W, b, o, pre, c, ty, h, hl, _ => by
    have : c = [] := List.eq_nil_of_length_eq_zero hl.symm
    subst this
    exact h
  | u :: us, W, b, o, pre, [], ty, h, hl, _ => by simp at hl
  | u :: us, W, b, o, pre, x :: c, ty, h, hl, hp => by
    have h2 := setAll_obj us (W.setCell ⟨b, o, none⟩ u) b (o + 1) (pre ++ [u]) c ty (by
      rw [heap_setCell_at h]
      have : ((pre ++ x :: c).toArray.setIfInBounds o u) = ((pre ++ [u]) ++ c).toArray := by
        apply Array.toList_inj.1
        rw [Array.toList_setIfInBounds]
        simp only [List.append_assoc, List.singleton_append]
        rw [List.set_append_right _ _ (by omega), hp, Nat.sub_self]
        rfl
      rw [this]) (by simpa using hl) (by simp [hp])
    rw [List.append_assoc] at h2
    exact h2
theorem setAll_box {us : List Value} {W : World} {b : Nat} {c : List Value} {ty : TypeId} (h : W.heap[b]? = some (.cells c.toArray ty (0, 0))) (hl : us.length = c.length) : (setAll W b 0 us).heap[b]? = some (.cells us.toArray ty (0, 0)) := setAll_obj us W b 0 [] c ty h hl rfl
theorem made_ents {W : World} {base b n : Nat} (h : W.ownsRow base 54 4 (.slice (some ⟨b, 0, none⟩) n n) n (madeCells (Value.agg #[.int .i64 0, .int .i64 0, .slice none 0 0, .slice none 0 0]).cells (n * 4)).toList) : EntsR W (some ⟨b, 0, none⟩) (List.replicate n zEn) := by
  rcases h.2 with ⟨hv, _⟩ | ⟨g, cap, cur, hv, _, hg, _, _, _, hct⟩
  · cases hv
  · cases hv
    intro i e hi
    obtain rfl : e = zEn := (List.mem_replicate.1 (List.mem_of_getElem? hi)).2
    have hin : i < n := by have := (List.getElem?_eq_some_iff.1 hi).1; simpa using this
    refine ⟨b, 0, none, 0, none, 0, rfl, fun j u hu => ?_, fun k c hk => by simp [zEn] at hk, fun k c hk => by simp [zEn] at hk⟩
    have hj : j < 4 := by have := (List.getElem?_eq_some_iff.1 hu).1; simpa [lyE, Ev.cells] using this
    have hk : i * 4 + j < n * 4 := by omega
    have e1 : cur.toList[i * 4 + j]? = some u := by
      have : (cur.toList.take (n * 4))[i * 4 + j]? = cur.toList[i * 4 + j]? := List.getElem?_take_of_lt hk
      rw [← this, hct]
      unfold madeCells
      have hm : (i * 4 + j) % 4 = j := by omega
      rw [Array.toList_map, Array.toList_range, List.getElem?_map, List.getElem?_range hk]
      show some ((#[.int .i64 0, .int .i64 0, .slice none 0 0, .slice none 0 0] : Array Value)[(i * 4 + j) % 4]!) = some u
      rw [hm]
      match j, hj, hu with
      | 0, _, hu => exact hu
      | 1, _, hu => exact hu
      | 2, _, hu => exact hu
      | 3, _, hu => exact hu
    rw [Nat.zero_add]
    refine (obj_cells hg).1 _ u ?_
    rwa [← Array.getElem?_toList]
/-- What turned answers: a message that may not be; boxes of messages stay. -/
def TurnP (lo bm : Nat) (w : World) (e : Ending) (w' : World) : Prop := ∃ m q, e = .returned (msV m q) ∧ (∀ W, w'.grownBy W (some bm) → MsR W m q) ∧ MsZ m ∧ ¬ MsMay m ∧ (∀ (b : Nat) (cs : Array Value), w.heap[b]? = some (.cells cs 28 (0, 0)) → w'.heap[b]? = some (.cells cs 28 (0, 0))) ∧ Below lo w w'
theorem Touch.new {B : Nat → Prop} {w W W' : World} {g : Nat} (h : Touch B w W) (hg : W.grownBy W' (some g)) (hs : w.heap.size ≤ g) : Touch B w W' :=
  ⟨hg.os.trans h.os, hg.tape.trans h.tape, hg.output.trans h.output, Nat.le_trans h.size hg.size, fun k hk hb => (hg.block k (Nat.lt_of_lt_of_le hk h.size) (fun e => by cases e; omega)).trans (h.block k hk hb)⟩
theorem Touch.bl {w W : World} (h : Touch (fun _ => False) w W) : Bl w W := h.below (fun _ e => e.elim) (Nat.le_refl _)
theorem turn_keep {w W : World} {x lo : Nat} {c : Array Value} {ty : TypeId} (h : Touch (fun k => k = x) w W) (hx : w.heap[x]? = some (.cells c ty (0, 0))) (ht : ty ≠ 28) (hl : lo ≤ x) : (∀ (b : Nat) (cs : Array Value), w.heap[b]? = some (.cells cs 28 (0, 0)) → W.heap[b]? = some (.cells cs 28 (0, 0))) ∧ Below lo w W :=
  ⟨fun b cs hb => h.obj hb (fun e => by subst e; rw [hb] at hx; cases hx; exact ht rfl), h.below (fun k e => by omega) (Nat.le_trans hl (Nat.le_of_lt (Array.getElem?_eq_some_iff.1 hx).1))⟩
theorem turn_keep0 {w W : World} {lo : Nat} (h : Touch (fun _ => False) w W) (hl : lo ≤ w.heap.size) : (∀ (b : Nat) (cs : Array Value), w.heap[b]? = some (.cells cs 28 (0, 0)) → W.heap[b]? = some (.cells cs 28 (0, 0))) ∧ Below lo w W :=
  ⟨fun _ _ hb => h.obj hb id, h.bl.mono hl⟩

end Go.Proofs.YtjmfjlffcopnnaaGreatDoor
