/- Several texts in one, in their order. -/
import Derived.Test.YtbpdocjkhmiimabGreatDoorPReadLogx4
import Derived.Test.YtbpdocjkhmiimabGreatDoorPReadLogx20
import Derived.Lib.AppendStr
import Derived.Lib.OthersKept
import Derived.Laws.DeepStrings4
import Derived.Test.YtbpdocjkhmiimabGreatDoorPReadLogx21
import Derived.Test.YtbpdocjkhmiimabGreatDoorPReadLogx10
import Derived.Test.YtbpdocjkhmiimabGreatDoorPReadLogx11
/- Appending a text's bytes to a row that the call owns. -/
namespace Go.Proofs.YtbpdocjkhmiimabGreatDoor
open Go.RowKit

theorem sBytes_cells (s : ByteArray) : (sBytes s).map (Value.int .u8) = Lib.strCells s := by
  simp [sBytes, Lib.strCells]

theorem append_text {w : World} {ops : Array Oper} {rest : List Oper} {o : Oper} {act : Act} {Q : Exit → Act → World → Prop} (hgd : o.guard = none) (sl x : Operand)
    (ho : o.op = .call { callee := .builtin .append, args := #[sl, x], argTypes := #[34, 9] })
    (base : Nat) (a : Option Addr) (c : Nat) (xs : List Int) (hs : act.eval sl = .slice a xs.length c) (hown : OwnB w base a c xs)
    (s : ByteArray) (hx : act.eval x = .string s) (hb : xs.length + s.size ≤ 70368744177664) (hbase : base ≤ w.heap.size)
    (h : ∀ a' c' ys w', Hid (ys = xs ++ sBytes s) → OwnB w' base a' c' ys → w.grownBy w' (Value.slice a xs.length c).ownBlock → wpList Tryz.prog ops Q rest (act.put o.dst (.slice a' ys.length c')) w') :
    wpList Tryz.prog ops Q (o :: rest) act w := by
  obtain ⟨i0, hi, hz0, hz1, hz2⟩ := info_parts Tryz.infoU8
  refine Lib.wpList_append_own_string w hgd sl x 34 9 ho base 5 i0 Tryz.underlying34 Tryz.underlying9 hi hz0 hz1 hz2 _ _ _ hs hown.2 s hx (by simp only [maxLen]; omega) (by omega) hbase ?_
  intro v' w' h1 h2 _
  have e1 : xs.length + s.size = (xs ++ sBytes s).length := by rw [List.length_append, sBytes_len]
  have e2 : xs.map (Value.int .u8) ++ Lib.strCells s = (xs ++ sBytes s).map (Value.int .u8) := by rw [List.map_append, sBytes_cells]
  rw [e1, e2] at h1
  have sh : ∃ a' c', v' = .slice a' (xs ++ sBytes s).length c' := by
    rcases h1.2 with ⟨rfl, h0⟩ | ⟨g, cap, cur, rfl, _⟩
    · exact ⟨none, 0, by rw [h0]⟩
    · exact ⟨_, _, rfl⟩
  obtain ⟨a', c', rfl⟩ := sh
  refine h a' c' (xs ++ sBytes s) w' rfl ⟨?_, h1⟩ h2
  intro z hz
  rcases List.mem_append.1 hz with h3 | h3
  · exact hown.1 z h3
  · exact sBytes_byte s z h3

/-- A text's iterator stays while a row of bytes is written. -/
theorem iter_kept {w w' : World} {base : Nat} {a : Option Addr} {c : Nat} {ys : List Int} {k pos : Nat} {s : ByteArray} (ho : OwnB w base a c ys) (hg : w.grownBy w' (Value.slice a ys.length c).ownBlock)
    (hk : w.heap[k]? = some (.stringIter s pos)) : w'.heap[k]? = some (.stringIter s pos) := by
  rw [hg.block k (Array.getElem?_eq_some_iff.1 hk).1 ?_]
  · exact hk
  · intro e
    rcases ho.2.2 with ⟨hv, _⟩ | ⟨g, cap, cur, hv, hg1, hgg, hr⟩
    · rw [hv] at e; simp [Value.ownBlock] at e
    · rw [hv] at e
      simp only [Value.ownBlock, Option.some.injEq] at e
      subst e
      rw [hgg] at hk
      cases hk

theorem OwnB.iterAt {w : World} {base : Nat} {a : Option Addr} {c : Nat} {ys : List Int} {k pos : Nat} {s : ByteArray} (ho : OwnB w base a c ys) (hk : w.heap[k]? = some (.stringIter s pos)) (pos' : Nat) : OwnB (w.iterAt k s pos') base a c ys := by
  refine ⟨ho.1, ho.2.1, ?_⟩
  rcases ho.2.2 with h0 | ⟨g, cap, cur, hv, hg1, hgg, hr⟩
  · exact .inl h0
  · refine .inr ⟨g, cap, cur, hv, hg1, ?_, hr⟩
    rw [Lib.iterAt_other w k g s pos' (by intro e; subst e; rw [hgg] at hk; cases hk)]
    exact hgg

theorem width_pos (s : ByteArray) (pos : Nat) (h : pos < s.size) : 1 ≤ (Utf8.decode s pos).2 := by
  by_cases ha : (s[pos]'h).toNat < 128
  · rw [decode_ascii s pos h ha]; exact Nat.le_refl _
  · exact (decode_high s pos h (by omega)).2

end Go.Proofs.YtbpdocjkhmiimabGreatDoor

/- The walk of impl.appendRunes: all of a text's bytes, rune by rune. -/
namespace Go.Proofs.YtbpdocjkhmiimabGreatDoor
open Go.RowKit

set_option maxHeartbeats 400000 in
set_option maxRecDepth 100000 in
theorem appendRunes_any (base : Nat) (a : Option Addr) (c : Nat) (xs : List Int) (s : ByteArray) (w : World) (hown : OwnB w base a c xs) (hl : xs.length + s.size ≤ 70368744177000) (hbase : base ≤ w.heap.size) :
    Calls Tryz.prog 116 #[.slice a xs.length c, .string s] w fun e w' => ∃ a' c' ys, e = .returned (.slice a' ys.length c') ∧ ys = xs ++ sBytes s ∧ OwnB w' base a' c' ys ∧ Below base w w' := by
  go_enter Tryz.func116, Tryz.ntmps116
  go_wp2
  go_loopw [0, 5, 6] (fun out fr _ wr => ∃ (a' : Option Addr) (c' : Nat) (ys : List Int) (pos f : Nat), out = .slice a' ys.length c' ∧ fr = .int .i64 f ∧ f ≤ pos ∧ f ≤ s.size ∧ OwnB wr base a' c' ys ∧ Hid (ys = xs ++ (sBytes s).take f) ∧ wr.heap[w.heap.size]? = some (.stringIter s pos) ∧ Below base w wr)
    (fun _ _ _ wr => s.size - wr.iterPos w.heap.size)
  case atStart => exact ⟨a, c, xs, 0, 0, rfl, rfl, by omega, by omega, hown.alloc _, by simp [Hid], World.iter_heap w s 0, (Below.refl _ _).alloc hbase _⟩
  case round =>
    obtain ⟨a', c', ys, pos, f, rfl, rfl, hfp, hfs, ho, hy, hit, hnx⟩ := hrel
    have hsz := hnx.size
    clear hown
    have hyl : ys.length ≤ xs.length + f := by
      have e := congrArg List.length hy.out
      rw [List.length_append, List.length_take, sBytes_len] at e
      omega
    by_cases hp : pos < s.size
    · have hnxt : ∀ ty, (Instr.next (.pointer (some ⟨w.heap.size, 0, none⟩)) true ty).run Tryz.prog wr = _ := fun ty => Lib.run_next_any_at wr w.heap.size s pos ty hit hp
      have hwd := width_pos s pos hp
      have hit2 := Lib.iterAt_heap wr w.heap.size s pos (pos + (Utf8.decode s pos).2) hit
      have ho1 := ho.iterAt hit (pos + (Utf8.decode s pos).2)
      have hb1 := Lib.below_iterAt hnx (k := w.heap.size) hbase s (pos + (Utf8.decode s pos).2)
      have hsz2 : base ≤ (wr.iterAt w.heap.size s (pos + (Utf8.decode s pos).2)).heap.size := by rw [Lib.iterAt_size]; omega
      have HST : Hid (_ = _) := sBytes_step s f pos hfp
      have hxl : (s.extract f pos).size ≤ s.size - f := by simp; omega
      have HI : Hid (wr.iterPos w.heap.size = pos) := by simp [Hid, World.iterPos, hit]
      go_wp2_with (at_builtin; refine append_text rfl _ _ rfl base a' c' ys rfl ho1 (s.extract f pos) rfl (by omega) hsz2 ?_; intro a2 c2 y2 w2 hy2 ho2 hg2)
      have hit3 := iter_kept ho1 hg2 hit2
      go_roundw
      case rel => exact ⟨a2, c2, y2, pos + (Utf8.decode s pos).2, pos, rfl, rfl, by omega, by omega, ho2, by rw [Hid, hy2.out, hy.out, List.append_assoc, HST.out], hit3, hb1.grown hg2 hsz2 (fun j hj => (ho1.2.lt j hj).1)⟩
      case measure => rw [HI.out]; simp only [World.iterPos, hit3]; omega
    · have hnxt : ∀ ty, (Instr.next (.pointer (some ⟨w.heap.size, 0, none⟩)) true ty).run Tryz.prog wr = _ := fun ty => Lib.run_next_end_at wr w.heap.size s pos ty hit hp
      have HST : Hid (_ = _) := sBytes_rest s f hfs
      have hxl : (s.extract f s.size).size ≤ s.size := by simp
      have hsz2 : base ≤ wr.heap.size := by omega
      have hyl2 : ys.length + (s.extract f s.size).size ≤ 70368744177664 := by
        have e := congrArg List.length hy.out
        rw [List.length_append, List.length_take, sBytes_len] at e
        simp
        omega
      go_wp2_with (at_builtin; refine append_text rfl _ _ rfl base a' c' ys rfl ho (s.extract f s.size) rfl hyl2 hsz2 ?_; intro a2 c2 y2 w2 hy2 ho2 hg2)
      go_ret
      exact ⟨a2, c2, y2, rfl, by rw [hy2.out, hy.out, List.append_assoc, HST.out], ho2, hnx.grown hg2 hsz2 (fun j hj => (ho.2.lt j hj).1)⟩
end Go.Proofs.YtbpdocjkhmiimabGreatDoor

/- The walks of impl.PutText and spec.PutText. -/
namespace Go.Proofs.YtbpdocjkhmiimabGreatDoor
open Go.RowKit

def putTextOf (s : ByteArray) : List Int := putOf s.size ++ sBytes s

set_option maxHeartbeats 400000 in
theorem implPutText_any (a : Option Addr) (c : Nat) (zs : List Int) (s : ByteArray) (w : World) (hr : Reads w a zs) (hc : a = none → c = 0) (hl : zs.length + s.size ≤ 70368744160000) :
    Calls Tryz.prog 87 #[.slice a zs.length c, .string s] w fun e w' => ∃ a' c' ys, e = .returned (.slice a' ys.length c') ∧ ys = zs ++ putTextOf s ∧ OwnB w' w.heap.size a' c' ys ∧ Below w.heap.size w w' := by
  have HC : Hid (a = none → c = 0) := hc
  have HL : Hid ((putOf (s.size : Int)).length ≤ 65) := (putOf_len _).2
  clear hc
  go_enter Tryz.func87, Tryz.ntmps87
  go_wp2_with fail
  refine (putInts_any a c zs _ _ [(s.size : Int)] _ (hr.alloc _) HC.out (readsI_one w _ _) (by simp; omega)).mono ?_
  rintro e w1 ⟨a1, c1, y1, rfl, hy1, ho1, hb1⟩
  have HY1 : Hid (y1 = zs ++ putOf s.size) := by rw [Hid, hy1]; simp
  have hyl : y1.length + s.size ≤ 70368744177000 := by
    have e := congrArg List.length HY1.out
    have := HL.out
    rw [List.length_append] at e
    omega
  have hbw : Below w.heap.size w w1 := ((Below.refl _ _).alloc (Nat.le_refl _) _).trans (hb1.mono (by simp))
  have ho1' : OwnB w1 w.heap.size a1 c1 y1 := ho1.base (by simp)
  clear hy1 hb1 ho1 hr
  go_wp2_with fail
  refine (appendRunes_any w.heap.size a1 c1 y1 s w1 ho1' hyl hbw.size).mono ?_
  rintro e w2 ⟨a2, c2, y2, rfl, hy2, ho2, hb2⟩
  have HY2 : Hid (y2 = zs ++ putTextOf s) := by rw [Hid, hy2, HY1.out, List.append_assoc]; rfl
  clear hy2
  go_wp2
  go_ret
  exact ⟨a2, c2, y2, rfl, HY2.out, ho2, hbw.trans hb2⟩

end Go.Proofs.YtbpdocjkhmiimabGreatDoor

/- Plain mathematics: a text comes back of its bytes. -/
namespace Go.Proofs.YtbpdocjkhmiimabGreatDoor

theorem strOf_sBytes (s : ByteArray) : strOf (sBytes s) = s := by
  unfold strOf sBytes
  rw [List.map_map]
  have e : (s.data.toList.map ((fun z : Int => UInt8.ofNat z.toNat) ∘ fun b : UInt8 => (b.toNat : Int))) = s.data.toList := by
    rw [List.map_congr_left (g := id)]
    · simp
    · intro b _
      simp
  rw [e]

theorem back_text (zs : List Int) (s : ByteArray) (hs : s.size ≤ 1000000) : textOf (zs ++ putTextOf s) zs.length = .tuple #[.string s, .int .i64 (((zs ++ putTextOf s).length : Nat) : Int), .bool true] := by
  have hc : clampI (s.size : Int) = s.size := by unfold clampI; rw [if_neg (by omega), if_neg (by omega)]
  have hl : (zs ++ putTextOf s).length = zs.length + (putOf s.size).length + s.size := by
    rw [List.length_append, putTextOf, List.length_append, sBytes_len]; omega
  have hg : getAt (zs ++ putTextOf s) zs.length = some ((s.size : Int), zs.length + (putOf s.size).length) := by
    rw [putTextOf, back_int, hc]
  unfold textOf
  rw [hg]
  simp only
  rw [if_pos ⟨by omega, by rw [hl]; omega⟩, hl, Int.toNat_natCast]
  have hd : (zs ++ putTextOf s).drop (zs.length + (putOf s.size).length) = sBytes s := by
    rw [putTextOf, ← List.append_assoc, ← List.length_append, List.drop_left]
  rw [hd, List.take_of_length_le (by rw [sBytes_len]; exact Nat.le_refl _), strOf_sBytes]
  rw [show ((zs.length + (putOf (s.size : Int)).length : Nat) : Int) + (s.size : Int) = ((zs.length + (putOf (s.size : Int)).length + s.size : Nat) : Int) from by omega]

end Go.Proofs.YtbpdocjkhmiimabGreatDoor
