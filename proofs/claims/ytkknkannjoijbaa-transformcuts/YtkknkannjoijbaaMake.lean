/-
  The walk of the reference's Make. Conditions: as the theorem's premises say.
-/
import Derived.Test.YtkknkannjoijbaaBet
import Derived.Test.YtkknkannjoijbaaCutM
namespace Go.Proofs.Ytkknkannjoijbaa
open Go.RowKit

def MakeYes (s put : ByteArray) (at_ cut : Nat) (w : World) (e : Ending) (w' : World) : Prop :=
  ∃ (p : Option Addr) (cap : Nat) (c : List C), e = .returned (.tuple #[.slice p c.length cap, .int .i64 0]) ∧ Own w' w.heap.size (.slice p c.length cap) c ∧ Made s.size at_ cut put c ∧ Below w.heap.size w w'
theorem mk_mem {m at_ cut : Nat} {put : ByteArray} (n : Nat) (hn : n < 4) {x : C} (hx : x ∈ (mkL m at_ cut put).take n ++ [(mkL m at_ cut put)[n]'(by simp [mkL]; omega)]) : x ∈ mkL m at_ cut put := by
  rcases List.mem_append.1 hx with h | h
  · exact List.mem_of_mem_take h
  · simp only [List.mem_singleton] at h
    rw [h]; exact List.getElem_mem _

set_option maxHeartbeats 2000000 in
theorem make_ok (s put : ByteArray) (at_ cut : Nat) (w : World) (h : at_ + cut ≤ s.size) (hs : s.size ≤ 300) (hp : put.size ≤ 300) (hsp : s.size + put.size ≤ 300 + cut) :
    Calls Try.prog 21 #[.string s, .int .i64 at_, .int .i64 cut, .string put] w (MakeYes s put at_ cut w) := by
  have RAW : Hid (∀ c ∈ mkL s.size at_ cut put, c.Raw) := Lib.hid (mk_raw h (by omega) (by omega))
  have MD := Lib.hid (mk_made (put := put) h (by omega) (by omega))
  have B0 := Lib.hid (Below.refl w.heap.size w)
  go_enter Try.func21, Try.ntmps21
  go_wp2_with fail
  refine (radd_step w.heap.size ((mkL s.size at_ cut put).take 0) ⟨0, at_, ⟨#[]⟩⟩ (fun x hx => RAW.out x (mk_mem 0 (by omega) hx)) (by simp [mkL]) _ _ (Own.nil _ _) B0.out.size).mono ?_
  intro e w1 h1
  have B1 := Lib.hid (h1.below (cs := normOf ((mkL s.size at_ cut put).take 0)) (Own.nil _ _) B0.out (Nat.le_refl _) B0.out.size)
  obtain ⟨v1, rfl, ho1, -, -⟩ := h1
  have O1 : Hid (Own w1 w.heap.size v1 (normOf ((mkL s.size at_ cut put).take 1))) := Lib.hid ho1
  clear ho1
  go_wp2_with fail
  refine (radd_step w.heap.size ((mkL s.size at_ cut put).take 1) ⟨1, 0, put⟩ (fun x hx => RAW.out x (mk_mem 1 (by omega) hx)) (by simp [mkL]) _ _ O1.out B1.out.size).mono ?_
  intro e w2 h2
  have B2 := Lib.hid (h2.below (cs := normOf ((mkL s.size at_ cut put).take 1)) O1.out B1.out (Nat.le_refl _) B1.out.size)
  obtain ⟨v2, rfl, ho2, -, -⟩ := h2
  have O2 : Hid (Own w2 w.heap.size v2 (normOf ((mkL s.size at_ cut put).take 2))) := Lib.hid ho2
  clear ho2
  go_wp2_with fail
  refine (radd_step w.heap.size ((mkL s.size at_ cut put).take 2) ⟨2, cut, ⟨#[]⟩⟩ (fun x hx => RAW.out x (mk_mem 2 (by omega) hx)) (by simp [mkL]) _ _ O2.out B2.out.size).mono ?_
  intro e w3 h3
  have B3 := Lib.hid (h3.below (cs := normOf ((mkL s.size at_ cut put).take 2)) O2.out B2.out (Nat.le_refl _) B2.out.size)
  obtain ⟨v3, rfl, ho3, -, -⟩ := h3
  have O3 : Hid (Own w3 w.heap.size v3 (normOf ((mkL s.size at_ cut put).take 3))) := Lib.hid ho3
  clear ho3
  go_wp2_with fail
  refine (radd_step w.heap.size ((mkL s.size at_ cut put).take 3) ⟨0, (s.size : Int) - at_ - cut, ⟨#[]⟩⟩ (fun x hx => RAW.out x (mk_mem 3 (by omega) hx)) (by simp [mkL]) _ _ O3.out B3.out.size).mono ?_
  intro e w4 h4
  have B4 := Lib.hid (h4.below (cs := normOf ((mkL s.size at_ cut put).take 3)) O3.out B3.out (Nat.le_refl _) B3.out.size)
  obtain ⟨v4, rfl, ho4, -, -⟩ := h4
  have O4 : Hid (Own w4 w.heap.size v4 (normOf ((mkL s.size at_ cut put).take 4))) := Lib.hid ho4
  clear ho4
  go_wp2_with fail
  go_ret2
  obtain ⟨p4, c4, hv4⟩ := O4.out.form
  subst hv4
  exact ⟨p4, c4, _, rfl, O4.out, MD.out, B4.out⟩

end Go.Proofs.Ytkknkannjoijbaa
