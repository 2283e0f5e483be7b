/- Plain mathematics: a text comes back of its bytes. -/
import Derived.Test.YthakapbdnoiciaaBackMath
import Derived.Test.YthakapbdnoiciaaAppendStr
import Derived.Test.YthakapbdnoiciaaGetText
import Derived.Test.YthakapbdnoiciaaPutText
namespace Go.Proofs.Ythakapbdnoiciaa

theorem strOf_sBytes (s : ByteArray) : strOf (sBytes s) = s := by
  unfold strOf sBytes
  rw [List.map_map]
  have e : (s.data.toList.map ((fun z : Int => UInt8.ofNat z.toNat) ∘ fun b : UInt8 => (b.toNat : Int))) = s.data.toList := by
    rw [List.map_congr_left (g := id)]
    · simp
    · intro b _
      simp
  rw [e]

theorem back_text (zs : List Int) (s : ByteArray) (hs : s.size ≤ 1000000) : textOf (zs ++ putTextOf s) zs.length = .tuple #[.string s, .int .i64 (((zs ++ putTextOf s).length : Nat) : Int), .bool true] := by
  have hc : clampI (s.size : Int) = s.size := by unfold clampI; rw [if_neg (by omega), if_neg (by omega)]
  have hl : (zs ++ putTextOf s).length = zs.length + (putOf s.size).length + s.size := by
    rw [List.length_append, putTextOf, List.length_append, sBytes_len]; omega
  have hg : getAt (zs ++ putTextOf s) zs.length = some ((s.size : Int), zs.length + (putOf s.size).length) := by
    rw [putTextOf, back_int, hc]
  unfold textOf
  rw [hg]
  simp only
  rw [if_pos ⟨by omega, by rw [hl]; omega⟩, hl, Int.toNat_natCast]
  have hd : (zs ++ putTextOf s).drop (zs.length + (putOf s.size).length) = sBytes s := by
    rw [putTextOf, ← List.append_assoc, ← List.length_append, List.drop_left]
  rw [hd, List.take_of_length_le (by rw [sBytes_len]; exact Nat.le_refl _), strOf_sBytes]
  rw [show ((zs.length + (putOf (s.size : Int)).length : Nat) : Int) + (s.size : Int) = ((zs.length + (putOf (s.size : Int)).length + s.size : Nat) : Int) from by omega]

end Go.Proofs.Ythakapbdnoiciaa
