/-
  Walks of grow, cut, New. Conditions: as each theorem's premises say.
-/
import Derived.Test.YtijfifbjiakilaaW1
import Derived.Test.YtijfifbjiakilaaMath
import Derived.Deep.AppendLies
namespace Go.Proofs.Ytijfifbjiakilaa
open Go.RowKit

theorem info5 : (Try.prog.info? 5).map (fun i => (i.zero, i.size, i.bytes)) = some (some (.int .u8 0), 1, 1) := by kernel_rfl
theorem info65 : (Try.prog.info? 65).map (fun i => (i.zero, i.size, i.bytes)) = some (some (.slice none 0 0), 1, 24) := by kernel_rfl

/-- The cells of bytes. -/
def cellsB (l : List UInt8) : List Value := l.map fun x => Value.int .u8 (x.toNat : Int)
theorem cellsB_length (l : List UInt8) : (cellsB l).length = l.length := by simp [cellsB]
theorem cellsB_get {l : List UInt8} {i : Nat} {x : UInt8} (h : l[i]? = some x) : (cellsB l)[i]? = some (.int .u8 (x.toNat : Int)) := by simp [cellsB, h]
theorem cellsB_inv {l : List UInt8} {i : Nat} {u : Value} (h : (cellsB l)[i]? = some u) : ∃ x, l[i]? = some x ∧ u = .int .u8 (x.toNat : Int) := by
  simp only [cellsB, List.getElem?_map] at h
  obtain ⟨x, hx, rfl⟩ := Option.map_eq_some_iff.1 h
  exact ⟨x, hx, rfl⟩
theorem cellsB_one (l : List UInt8) : ∀ u ∈ cellsB l, u.oneCell' = true := by
  intro u hu
  obtain ⟨x, _, rfl⟩ := List.mem_map.1 hu
  rfl
theorem add_plain (b o i : Nat) : (⟨b, o, none⟩ : Addr).add i = ⟨b, o + i, none⟩ := by unfold Addr.add; split <;> simp_all

theorem grown_below {w w' : World} (h : w.grownBy w' none) : Below w.heap.size w w' := ⟨h.os, h.tape, h.output, h.size, fun k hk => h.block k hk (by simp)⟩

/-- What is owned, byte by byte, is a chunk. -/
theorem Chunk.of_owns {w : World} {base : Nat} {v : Value} {l : List UInt8} (h : w.ownsRow base 5 1 v l.length (cellsB l)) (h0 : 0 < l.length) : Chunk (fun b => base ≤ b) w v l := by
  rcases h.2 with ⟨_, hn⟩ | ⟨g, cap, cur, rfl, hb, _, hnc, _, _, _⟩
  · omega
  · refine ⟨g, 0, cap, rfl, hb, h0, hnc, fun i x hx => ?_⟩
    have := h.cells (g := g) rfl i _ (cellsB_get hx)
    rwa [add_plain] at this

set_option maxHeartbeats 400000 in
theorem grow_any (ok : Nat → Prop) (w : World) (va vb : Value) (la lb : List UInt8) (ha : Chunk ok w va la) (hb : Chunk ok w vb lb) (hl : la.length + lb.length ≤ 4096) :
    Calls Try.prog 29 #[va, vb] w fun e w' => ∃ v', e = .returned v' ∧ Chunk (fun b => w.heap.size ≤ b) w' v' (la ++ lb) ∧ w.grownBy w' none := by
  obtain ⟨b, o, cap, rfl, _, h0, hc, hx⟩ := ha
  obtain ⟨b2, o2, cap2, rfl, _, h02, hc2, hx2⟩ := hb
  obtain ⟨i0, hi, hz0, hz1, hz2⟩ := info_parts info5
  have X1 := Lib.hid hx; have X2 := Lib.hid hx2
  clear hx hx2
  go_enter Try.func29, Try.ntmps29
  go_wp2_with (at_builtin; refine wpList_append_grows _ rfl _ _ 65 rfl 5 i0 (.int .u8 0) 1 1 Try.underlying65 hi hz0 hz1 hz2 rfl (by decide) (some ⟨b, o, none⟩) la.length la.length (cellsB la) rfl (fun h => by cases h) (by rw [cellsB_length, Nat.mul_one]) ?ho ⟨b2, o2, none⟩ lb.length cap2 (cellsB lb) rfl (by rw [cellsB_length, Nat.mul_one]) ?hn (cellsB_one lb) (by omega) (by unfold maxLen; omega) (by omega) ?_; rotate_left 2; intro v' w' hown hgr)
  case ho =>
    intro a ha j u hu
    cases ha
    obtain ⟨x, hx, rfl⟩ := cellsB_inv hu
    rw [add_plain]; exact X1.out j x hx
  case hn =>
    intro j u hu
    obtain ⟨x, hx, rfl⟩ := cellsB_inv hu
    rw [add_plain]; exact X2.out j x hx
  go_ret
  refine ⟨v', rfl, Chunk.of_owns ?_ (by rw [List.length_append]; omega), hgr⟩
  rw [List.length_append, show cellsB (la ++ lb) = cellsB la ++ cellsB lb from by simp [cellsB]]
  exact hown


theorem ext_take (s : ByteArray) (k : Nat) : (s.extract 0 k).data.toList = s.data.toList.take k := by simp [ByteArray.data_extract]
theorem ext_drop (s : ByteArray) (k : Nat) : (s.extract k s.size).data.toList = s.data.toList.drop k := by
  obtain ⟨⟨l⟩⟩ := s
  rw [ByteArray.data_extract]
  simp only [ByteArray.size, Array.toList_extract, List.extract_eq_take_drop, List.size_toArray]
  exact List.take_of_length_le (by rw [List.length_drop]; omega)
theorem ext_size (s : ByteArray) (i j : Nat) (h : j ≤ s.size) : (s.extract i j).size = j - i := by
  rw [ByteArray.size_extract]; omega

theorem conv_chunk (w : World) (s : ByteArray) (n : Nat) (hn : s.size = n) (h0 : 0 < n) : ∃ b cap w', (convert 9 65 (.string s)).run Try.prog w = .ok (.slice (some ⟨b, 0, none⟩) n cap) w' ∧ Chunk (fun b => w.heap.size ≤ b) w' (.slice (some ⟨b, 0, none⟩) n cap) s.data.toList ∧ w.grownBy w' none := by
  subst hn
  refine ⟨_, _, _, run_bytes_of_string w 9 65 5 s Try.underlying9 Try.underlying65 Try.underlying5, ⟨w.heap.size, 0, _, rfl, Nat.le_refl _, by simpa using h0, by simpa using grownCap_ge w s.size 0 5, fun i x hx => ?_⟩, ⟨rfl, rfl, rfl, by simp, fun k hk _ => Below.heap_alloc w.drew _ k hk⟩⟩
  rw [Nat.zero_add]
  show (w.drew.alloc _).cell? ⟨w.drew.heap.size, i, none⟩ = _
  rw [World.cell?_alloc_mark]
  have hi : i < s.data.size := by
    have := (List.getElem?_eq_some_iff.1 hx).1
    simpa using this
  unfold bytesRow
  rw [Array.getElem?_append_left (by simpa using hi)]
  simp at hx
  simp [hx]

def strLen : Value → Nat | .string r => r.size | _ => 0

/-- One chunk more behind a row that the call owns. -/
theorem own_snoc {ok : Nat → Prop} {w1 w3 : World} {v u : Value} {xs : List Value} {ls : List (List UInt8)} {l : List UInt8} {g n cap : Nat} {o : Obj}
    (hch : Chunks (fun b => ok b ∧ some b ≠ v.ownBlock) w1 xs ls) (hu : Chunk (fun b => ok b ∧ some b ≠ v.ownBlock) w1 u l)
    (hg : (w1.alloc o).grownBy w3 v.ownBlock) (hgg : v.ownBlock = some g ∨ g = w1.heap.size + 1) :
    Chunks (fun b => ok b ∧ some b ≠ (Value.slice (some ⟨g, 0, none⟩) n cap).ownBlock) w3 (xs ++ [u]) (ls ++ [l]) := by
  have h1 : Chunks (fun b => ok b ∧ some b ≠ v.ownBlock) w1 (xs ++ [u]) (ls ++ [l]) := hch.append (.single hu)
  have hk : Keeps (fun b => ok b ∧ some b ≠ v.ownBlock) w1 w3 := Keeps.trans (b := w1.alloc o)
    (Keeps.of_grown (World.grownBy_alloc w1 o none) (fun _ _ => by simp)) (Keeps.of_grown hg (fun _ h => h.2))
  have h2 := (h1.mono (ok' := fun b => (ok b ∧ some b ≠ v.ownBlock) ∧ b < w1.heap.size) (fun b hb h => ⟨h, hb⟩)).kept (Keeps.of_imp hk fun _ h => h.1)
  refine h2.mono fun b _ h => ⟨h.1.1, ?_⟩
  simp only [Value.ownBlock, ne_eq, Option.some.injEq]
  rintro rfl
  rcases hgg with hgg | hgg
  · exact h.1.2 hgg.symm
  · have := h.2; omega

set_option maxHeartbeats 400000 in
theorem cut_any (s : ByteArray) (w : World) (hs : s.size ≤ 4096) :
    Calls Try.prog 21 #[.string s] w fun e w' => ∃ v ls, e = .returned v ∧ RowAt (fun b => w.heap.size ≤ b ∧ b < w'.heap.size) w' v ls ∧ Small ls ∧ Tight ls ∧ ls.flatten = s.data.toList ∧ Below w.heap.size w w' := by
  obtain ⟨i0, hi, hz0, hz1, hz2⟩ := info_parts info65
  go_enter Try.func21, Try.ntmps21
  go_wp2
  go_loopw [0, 3] (fun t v wr => ∃ (rest : ByteArray) (done : List (List UInt8)) (xs : List Value), t = .string rest ∧ CutTo s.data.toList done rest.data.toList ∧ wr.ownsRow w.heap.size 65 1 v done.length xs ∧ Chunks (fun b => w.heap.size ≤ b ∧ some b ≠ v.ownBlock) wr xs done ∧ Below w.heap.size w wr)
    (fun t _ _ => strLen t)
  case atStart => exact ⟨s, [], [], rfl, CutTo.start _, World.ownsRow_nil _ _ _ _, Chunks.nil _ _, Below.refl _ _⟩
  case round =>
    obtain ⟨rest, done, xs, rfl, hcut, hown, hch, hbl⟩ := hrel
    have hcl := hcut.length
    have CUT := Lib.hid hcut; have OWN := Lib.hid hown; have CH := Lib.hid hch
    clear hcut hown hch
    have e1 : s.data.toList.length = s.size := by simp
    have hdl : done.length ≤ 4096 := by rw [e1] at hcl; omega
    clear e1 hcl
    have hsz := hbl.size
    have e2 : rest.data.toList.length = rest.size := by simp
    have E2 := Lib.hid e2
    clear e2
    by_cases h0 : 0 < rest.size
    · have hne : rest.data.toList ≠ [] := by intro h; have := E2.out; rw [h] at this; simp at this; omega
      by_cases h16 : rest.size ≤ 16
      · have CUT1 := Lib.hid (CUT.out.step hne rest.size (by rw [E2.out]; omega))
        clear hne
        obtain ⟨vb, vcap, wc, hconv, hchunk, hgc⟩ := conv_chunk wr rest _ rfl h0
        have HC := Lib.hid hchunk
        clear hchunk
        have hown1 := OWN.out.kept hgc (by cases h : u3.ownBlock <;> simp)
        have hsz1 := hgc.size
        go_wp2_with (at_builtin; refine wpList_append_lies _ rfl _ _ 52 rfl w.heap.size 65 i0 (.slice none 0 0) 1 24 Try.underlying52 hi hz0 hz1 hz2 rfl (by decide) u3 _ _ rfl (hown1.alloc _) ⟨wc.heap.size, 0, none⟩ 1 1 [_] rfl rfl (cell_one_new _ _ _) (fun x hx => by simp at hx; subst hx; rfl) (by decide) (by unfold maxLen; omega) (by omega) (by simp; omega) (wc.heap.size + 1) (by simp) ?_; intro g cap w3 hown' hgrow hgg hlt)
        go_roundw
        case rel =>
          refine ⟨ByteArray.empty, done ++ [rest.data.toList], xs ++ [_], rfl, ?_, by rw [List.length_append]; exact hown', ?_, ?_⟩
          · have := CUT1.out
            rw [List.take_of_length_le (by rw [E2.out]; omega), List.drop_of_length_le (by rw [E2.out]; omega)] at this
            exact this
          · exact own_snoc (CH.out.kept (Keeps.of_grown hgc (fun _ _ => by simp))) (HC.out.mono fun b _ h => ⟨Nat.le_trans hsz h, fun e => by have := (OWN.out.lt b e.symm).2; omega⟩) hgrow hgg
          · exact ((hbl.grown hgc hsz (fun k h => by cases h)).alloc (by omega) _).grown hgrow (by simp; omega) (fun k h => (OWN.out.lt k h).1)
        case measure => simp [strLen]; omega
      · have CUT1 := Lib.hid (CUT.out.step hne 16 (by rw [E2.out]; omega))
        clear hne
        obtain ⟨vb, vcap, wc, hconv, hchunk, hgc⟩ := conv_chunk wr (rest.extract 0 16) 16 (by rw [ext_size _ _ _ (by omega)]) (by omega)
        rw [ext_take] at hchunk
        have HC := Lib.hid hchunk
        clear hchunk
        have hown1 := OWN.out.kept hgc (by cases h : u3.ownBlock <;> simp)
        have hsz1 := hgc.size
        go_wp2_with (at_builtin; refine wpList_append_lies _ rfl _ _ 52 rfl w.heap.size 65 i0 (.slice none 0 0) 1 24 Try.underlying52 hi hz0 hz1 hz2 rfl (by decide) u3 _ _ rfl (hown1.alloc _) ⟨wc.heap.size, 0, none⟩ 1 1 [_] rfl rfl (cell_one_new _ _ _) (fun x hx => by simp at hx; subst hx; rfl) (by decide) (by unfold maxLen; omega) (by omega) (by simp; omega) (wc.heap.size + 1) (by simp) ?_; intro g cap w3 hown' hgrow hgg hlt)
        go_roundw
        case rel =>
          refine ⟨rest.extract 16 rest.size, done ++ [rest.data.toList.take 16], xs ++ [_], rfl, ?_, by rw [List.length_append]; exact hown', ?_, ?_⟩
          · rw [ext_drop]; exact CUT1.out
          · exact own_snoc (CH.out.kept (Keeps.of_grown hgc (fun _ _ => by simp))) (HC.out.mono fun b _ h => ⟨Nat.le_trans hsz h, fun e => by have := (OWN.out.lt b e.symm).2; omega⟩) hgrow hgg
          · exact ((hbl.grown hgc hsz (fun k h => by cases h)).alloc (by omega) _).grown hgrow (by simp; omega) (fun k h => (OWN.out.lt k h).1)
        case measure => simp only [strLen]; rw [ext_size _ _ _ (Nat.le_refl _)]; omega
    · go_wp2
      go_ret
      have hr : rest.data.toList = [] := List.eq_nil_of_length_eq_zero (by rw [E2.out]; omega)
      have hc := CUT.out
      have hw := hc.whole
      rw [hr, List.append_nil] at hw
      exact ⟨_, done, rfl, RowAt.of_owns OWN.out ((CH.out).mono fun b hb h => ⟨h.1, hb⟩) (fun g h1 h2 => ⟨h1, h2⟩), hc.small, hc.tight, hw, hbl⟩

/-- A rope in memory: its two cells, its chunks. -/
def RopeAt (w : World) (r : Nat) (ls : List (List UInt8)) : Prop :=
  ∃ v, w.cell? ⟨r, 0, none⟩ = some v ∧ w.cell? ⟨r, 1, none⟩ = some (.int .i64 (ls.flatten.length : Int)) ∧ w.frozen? ⟨r, 0, none⟩ = false ∧ w.frozen? ⟨r, 1, none⟩ = false ∧ RowAt (fun b => b ≠ r) w v ls

/-- A rope of the text t. -/
def Rope (w : World) (r : Nat) (t : List UInt8) : Prop := t.length ≤ 4096 ∧ ∃ ls, RopeAt w r ls ∧ Small ls ∧ Tight ls ∧ ls.flatten = t

theorem Rope.kept {w w' : World} {r : Nat} {t : List UInt8} (h : Rope w r t) (hb : Below w.heap.size w w') : Rope w' r t := by
  obtain ⟨hl, ls, ⟨v, h0, h1, f0, f1, hr⟩, hs⟩ := h
  have hlt := World.block_lt_of_cell? w _ h0
  exact ⟨hl, ls, ⟨v, (hb.cell (p := ⟨r, 0, none⟩) hlt).trans h0, (hb.cell (p := ⟨r, 1, none⟩) hlt).trans h1, (hb.frozen (p := ⟨r, 0, none⟩) hlt).trans f0, (hb.frozen (p := ⟨r, 1, none⟩) hlt).trans f1, hr.kept (Keeps.of_below hb)⟩, hs⟩

theorem Rope.lt {w : World} {r : Nat} {t : List UInt8} (h : Rope w r t) : r < w.heap.size := by
  obtain ⟨_, ls, ⟨v, h0, _⟩, _⟩ := h
  exact World.block_lt_of_cell? w _ h0

set_option maxHeartbeats 400000 in
theorem new_bad (s : ByteArray) (w : World) (hs : 4096 < s.size) (hm : s.size ≤ maxLen) :
    Calls Try.prog 7 #[.string s] w fun e w' => e = .returned (.tuple #[.pointer none, .int .i64 100]) ∧ w = w' := by
  unfold maxLen at hm
  go_enter Try.func7, Try.ntmps7
  go_wp2
  go_ret2
  exact ⟨rfl, rfl⟩

set_option maxHeartbeats 400000 in
theorem new_ok (s : ByteArray) (w : World) (hs : s.size ≤ 4096) :
    Calls Try.prog 7 #[.string s] w fun e w' => ∃ r, e = .returned (.tuple #[.pointer (some ⟨r, 0, none⟩), .int .i64 0]) ∧ w.heap.size ≤ r ∧ Rope w' r s.data.toList ∧ Below w.heap.size w w' := by
  go_enter Try.func7, Try.ntmps7
  go_wp2_with (go_at_call 21; refine (cut_any _ _ hs).mono ?_; rintro e w1 ⟨v, ls, rfl, hrow, hsm, hti, hfl, hb⟩; obtain ⟨p, cap, hv⟩ := hrow.form; subst hv; have HR := Lib.hid hrow; clear hrow; have HF := Lib.hid hfl; clear hfl)
  go_ret2
  have hsz := hb.size
  have hfl := HF.out
  have hlen : (ls.flatten.length : Int) = (s.size : Int) := by rw [hfl]; simp
  refine ⟨w1.heap.size, rfl, hsz, ⟨by simpa using hs, ls, ⟨.slice p ls.length cap, ?_, ?_, ?_, ?_, ?_⟩, hsm, hti, hfl⟩, hb.alloc hsz _⟩
  · rw [World.cell?_alloc_mark]; rfl
  · rw [World.cell?_alloc_mark, hlen]; rfl
  · simp [World.frozen?_alloc_mark]
  · simp [World.frozen?_alloc_mark]
  · exact (HR.out.kept (Keeps.of_grown (World.grownBy_alloc w1 _ none) (fun _ _ => by simp))).wide fun b h => by omega

end Go.Proofs.Ytijfifbjiakilaa
