/- No longer than its capacity. -/
import Derived.Test.YthakapbdnoiciabAppend
namespace Go.Proofs.Ythakapbdnoiciab
open Go.RowKit

theorem OwnB.len_cap {w : World} {base : Nat} {a : Option Addr} {c : Nat} {ys : List Int} (h : OwnB w base a c ys) : ys.length ≤ c := by
  rcases h.2.2 with ⟨hv, h0⟩ | ⟨g, cap, cur, hv, _, _, hn, _⟩
  · omega
  · simp only [Value.slice.injEq] at hv
    omega

end Go.Proofs.Ythakapbdnoiciab
