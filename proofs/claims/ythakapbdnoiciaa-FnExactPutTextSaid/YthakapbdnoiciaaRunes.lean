/- The walk of impl.appendRunes: all of a text's bytes, rune by rune. -/
import Derived.Test.YthakapbdnoiciaaAppendStr
namespace Go.Proofs.Ythakapbdnoiciaa
open Go.RowKit

set_option maxHeartbeats 400000 in
set_option maxRecDepth 100000 in
theorem appendRunes_any (base : Nat) (a : Option Addr) (c : Nat) (xs : List Int) (s : ByteArray) (w : World) (hown : OwnB w base a c xs) (hl : xs.length + s.size ≤ 70368744177000) (hbase : base ≤ w.heap.size) :
    Calls Try.prog 34 #[.slice a xs.length c, .string s] w fun e w' => ∃ a' c' ys, e = .returned (.slice a' ys.length c') ∧ ys = xs ++ sBytes s ∧ OwnB w' base a' c' ys ∧ Below base w w' := by
  go_enter Try.func34, Try.ntmps34
  go_wp2
  go_loopw [0, 5, 6] (fun out fr _ wr => ∃ (a' : Option Addr) (c' : Nat) (ys : List Int) (pos f : Nat), out = .slice a' ys.length c' ∧ fr = .int .i64 f ∧ f ≤ pos ∧ f ≤ s.size ∧ OwnB wr base a' c' ys ∧ Hid (ys = xs ++ (sBytes s).take f) ∧ wr.heap[w.heap.size]? = some (.stringIter s pos) ∧ Below base w wr)
    (fun _ _ _ wr => s.size - wr.iterPos w.heap.size)
  case atStart => exact ⟨a, c, xs, 0, 0, rfl, rfl, by omega, by omega, hown.alloc _, by simp [Hid], World.iter_heap w s 0, (Below.refl _ _).alloc hbase _⟩
  case round =>
    obtain ⟨a', c', ys, pos, f, rfl, rfl, hfp, hfs, ho, hy, hit, hnx⟩ := hrel
    have hsz := hnx.size
    clear hown
    have hyl : ys.length ≤ xs.length + f := by
      have e := congrArg List.length hy.out
      rw [List.length_append, List.length_take, sBytes_len] at e
      omega
    by_cases hp : pos < s.size
    · have hnxt : ∀ ty, (Instr.next (.pointer (some ⟨w.heap.size, 0, none⟩)) true ty).run Try.prog wr = _ := fun ty => Lib.run_next_any_at wr w.heap.size s pos ty hit hp
      have hwd := width_pos s pos hp
      have hit2 := Lib.iterAt_heap wr w.heap.size s pos (pos + (Utf8.decode s pos).2) hit
      have ho1 := ho.iterAt hit (pos + (Utf8.decode s pos).2)
      have hb1 := Lib.below_iterAt hnx (k := w.heap.size) hbase s (pos + (Utf8.decode s pos).2)
      have hsz2 : base ≤ (wr.iterAt w.heap.size s (pos + (Utf8.decode s pos).2)).heap.size := by rw [Lib.iterAt_size]; omega
      have HST : Hid (_ = _) := sBytes_step s f pos hfp
      have hxl : (s.extract f pos).size ≤ s.size - f := by simp; omega
      have HI : Hid (wr.iterPos w.heap.size = pos) := by simp [Hid, World.iterPos, hit]
      go_wp2_with (at_builtin; refine append_text rfl _ _ rfl base a' c' ys rfl ho1 (s.extract f pos) rfl (by omega) hsz2 ?_; intro a2 c2 y2 w2 hy2 ho2 hg2)
      have hit3 := iter_kept ho1 hg2 hit2
      go_roundw
      case rel => exact ⟨a2, c2, y2, pos + (Utf8.decode s pos).2, pos, rfl, rfl, by omega, by omega, ho2, by rw [Hid, hy2.out, hy.out, List.append_assoc, HST.out], hit3, hb1.grown hg2 hsz2 (fun j hj => (ho1.2.lt j hj).1)⟩
      case measure => rw [HI.out]; simp only [World.iterPos, hit3]; omega
    · have hnxt : ∀ ty, (Instr.next (.pointer (some ⟨w.heap.size, 0, none⟩)) true ty).run Try.prog wr = _ := fun ty => Lib.run_next_end_at wr w.heap.size s pos ty hit hp
      have HST : Hid (_ = _) := sBytes_rest s f hfs
      have hxl : (s.extract f s.size).size ≤ s.size := by simp
      have hsz2 : base ≤ wr.heap.size := by omega
      have hyl2 : ys.length + (s.extract f s.size).size ≤ 70368744177664 := by
        have e := congrArg List.length hy.out
        rw [List.length_append, List.length_take, sBytes_len] at e
        simp
        omega
      go_wp2_with (at_builtin; refine append_text rfl _ _ rfl base a' c' ys rfl ho (s.extract f s.size) rfl hyl2 hsz2 ?_; intro a2 c2 y2 w2 hy2 ho2 hg2)
      go_ret
      exact ⟨a2, c2, y2, rfl, by rw [hy2.out, hy.out, List.append_assoc, HST.out], ho2, hnx.grown hg2 hsz2 (fun j hj => (ho.2.lt j hj).1)⟩
end Go.Proofs.Ythakapbdnoiciaa
