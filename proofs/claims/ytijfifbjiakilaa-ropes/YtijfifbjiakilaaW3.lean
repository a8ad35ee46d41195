/-
  Walks of text and of Text: the chunks' bytes as one string. Conditions: as each theorem's premises say.
-/
import Derived.Test.YtijfifbjiakilaaW2
import Derived.Test.YtijfifbjiakilaaShelf
namespace Go.Proofs.Ytijfifbjiakilaa
open Go.RowKit

theorem joinTail_nil (r : List (List UInt8)) : Lib.joinTail [] r = r.flatten := by simp [Lib.joinTail]
theorem join_nil (ls : List (List UInt8)) : Lib.join ls [] = ls.flatten := by
  cases ls with
  | nil => rfl
  | cons l r => rw [Lib.join_cons, joinTail_nil]; rfl
theorem lens_flat (ls : List (List UInt8)) : Lib.lens ls = ls.flatten.length := by
  induction ls with
  | nil => rfl
  | cons l r ih => rw [Lib.lens_cons, ih]; simp

theorem fresh_string {B : Nat} {w : World} {v : Value} {l : List UInt8} (h : Lib.FreshBytes B w v l) : (convert 65 9 v).run Try.prog w = .ok (.string ⟨l.toArray⟩) w := by
  obtain ⟨g, cap, zs, rfl, _, hlc, _, hz, _, hb, hc, _⟩ := h
  have := run_convert_bytes_arg (P := Try.prog) w 65 5 Try.underlying65 Try.underlying5 g 0 l.length cap (zs.take l.length) (by rw [List.length_take]; omega) (fun i hi => by
    rw [Nat.zero_add, hc i (by omega)]
    simp [List.getD, hi]) 9 Try.underlying9
  rw [this]
  have e : strOfNums (zs.take l.length) = ⟨l.toArray⟩ := by
    conv => rhs; rw [← hb]
    rfl
  rw [e]

theorem bytesJoin_row (ok : Nat → Prop) (v : Value) (ls : List (List UInt8)) (w : World) (hr : RowAt ok w v ls) (hl : ls.flatten.length ≤ 4096) (hsm : Small ls) :
    Calls Try.prog 30 #[v, .slice none 0 0] w fun e w' => ∃ v', e = .returned v' ∧ (convert 65 9 v').run Try.prog w' = .ok (.string ⟨ls.flatten.toArray⟩) w' ∧ Below w.heap.size w w' := by
  have hll := hsm.length
  by_cases h0 : ls.length = 0
  · obtain ⟨p, cap, rfl⟩ := hr.form
    obtain rfl := List.eq_nil_of_length_eq_zero h0
    refine (Try.bytes_Join_none p cap _ w).mono ?_
    rintro e w' ⟨rfl, rfl⟩
    refine ⟨_, rfl, ?_, (Below.refl _ _).alloc (Nat.le_refl _) _⟩
    exact run_convert_bytes_arg (P := Try.prog) _ 65 5 Try.underlying65 Try.underlying5 w.heap.size 0 0 0 [] rfl (fun i hi => by omega) 9 Try.underlying9
  · rcases hr with ⟨rfl, rfl⟩ | ⟨b, o, cap, xs, rfl, hb, hc, hx, hk⟩
    · simp at h0
    · by_cases h1 : ls.length = 1
      · obtain ⟨l, rfl⟩ := List.length_eq_one_iff.1 h1
        obtain ⟨u, rfl⟩ := List.length_eq_one_iff.1 (hk.1.trans h1)
        obtain ⟨b1, o1, c1, rfl, _, hl0, _, hcell⟩ := hk.2 0 u l rfl rfl
        have hu := hx 0 _ rfl
        simp at hl
        refine (Try.bytes_Join_one b o cap ⟨b1, o1, none⟩ c1 l _ w hu (fun i x hi => by rw [add_plain]; exact hcell i x hi) hl0 (by omega)).mono ?_
        rintro e w' ⟨v', rfl, hf, hbl⟩
        exact ⟨v', rfl, by simpa using fresh_string hf, hbl⟩
      · refine (Try.bytes_Join_many b o ls.length cap xs ls _ [] w rfl (by omega) ⟨hk.1, fun i u hu => by rw [add_plain]; exact hx i u hu, fun i u l hu hl' => ?_⟩ hc ⟨none, 0, rfl, fun _ => rfl, fun a ha => by cases ha⟩ (by omega) (by rw [lens_flat, List.length_nil, Nat.zero_mul]; omega)).mono ?_
        · obtain ⟨b1, o1, c1, rfl, _, hl0, _, hcell⟩ := hk.2 i u l hu hl'
          exact ⟨_, c1, rfl, (fun h => by cases h), (fun a ha j x hx => by cases ha; rw [add_plain]; exact hcell j x hx)⟩
        · rintro e w' ⟨v', rfl, hf, hbl⟩
          rw [join_nil] at hf
          exact ⟨v', rfl, fresh_string hf, hbl⟩

set_option maxHeartbeats 400000 in
theorem text_any (ok : Nat → Prop) (v : Value) (ls : List (List UInt8)) (w : World) (hr : RowAt ok w v ls) (hl : ls.flatten.length ≤ 4096) (hsm : Small ls) :
    Calls Try.prog 25 #[v] w fun e w' => e = .returned (.string ⟨ls.flatten.toArray⟩) ∧ Below w.heap.size w w' := by
  have HR := Lib.hid hr
  obtain ⟨p, cap, rfl⟩ := hr.form
  clear hr
  go_enter Try.func25, Try.ntmps25
  go_wp2_with (go_at_call 30; refine (bytesJoin_row ok _ ls _ HR.out hl hsm).mono ?_; rintro e w' ⟨v', rfl, hconv, hb⟩)
  go_ret
  exact ⟨rfl, hb⟩

set_option maxHeartbeats 400000 in
theorem Text_any (r : Nat) (t : List UInt8) (w : World) (h : Rope w r t) :
    Calls Try.prog 18 #[.pointer (some ⟨r, 0, none⟩)] w fun e w' => e = .returned (.string ⟨t.toArray⟩) ∧ Below w.heap.size w w' := by
  obtain ⟨hl, ls, ⟨v, h0, h1, f0, f1, hr⟩, hsm, hti, rfl⟩ := h
  have HR := Lib.hid hr
  clear hr h1 f0 f1 hti
  go_enter Try.func18, Try.ntmps18
  go_wp2_with (go_at_call 25; refine (text_any _ _ ls _ HR.out hl hsm).mono ?_; rintro e w' ⟨rfl, hb⟩)
  go_ret
  exact ⟨rfl, hb⟩

end Go.Proofs.Ytijfifbjiakilaa
