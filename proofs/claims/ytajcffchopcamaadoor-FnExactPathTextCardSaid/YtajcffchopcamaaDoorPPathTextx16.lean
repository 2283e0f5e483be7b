/- Several texts in one, in their order. -/
import Derived.LaidLaws
import Derived.LaidHandle
import Derived.Lib.LaidTab
import Derived.Test.YtajcffchopcamaaDoorPPathTextx15
import Derived.Test.YtajcffchopcamaaDoorPPathTextx13
import Derived.Lib.AtoiTie
import Derived.Test.YtajcffchopcamaaDoorShelf
/- What a row's condition on its listed variables gives: each of them reads as its datum. -/
namespace Go.Proofs.YtajcffchopcamaaDoor

theorem laidVars_mem {P : Program} {w : World} : ∀ (l : List (String × DataW Unit)) (ps : List MemPlace), DataW.LaidVars P w l ps → ∀ n d, (n, d) ∈ l →
    ∃ g t cs fuel p, P.globalNamed n = some g ∧ (P.globals[g]?).map (·.type) = some t ∧ w.var? P n = some cs ∧ DataW.trod (fun _ => ()) P w 0 (fun _ => true) false fuel t cs.toList = some (d, p) := by
  intro l
  induction l with
  | nil => intro _ _ n d hm; cases hm
  | cons x r ih =>
    intro ps h n d hm
    obtain ⟨n', d'⟩ := x
    obtain ⟨g, t, cs, fuel, p, q, h1, h2, h3, h4, h5, _⟩ := h
    rcases List.mem_cons.1 hm with e | hm'
    · cases e
      exact ⟨g, t, cs, fuel, p, h1, h2, h3, h4⟩
    · exact ih q h5 n d hm'

theorem var_heap {P : Program} {w : World} {name : String} {g : Nat} {cs : Array Value} (hg : P.globalNamed name = some g) (h : w.var? P name = some cs) : ∃ t f, w.heap[g]? = some (.cells cs t f) := by
  unfold World.var? at h
  rw [hg] at h
  simp only [Option.bind_some] at h
  split at h
  · rename_i cs' t f hh
    simp only [Option.some.injEq] at h
    exact ⟨t, f, by rw [hh, h]⟩
  · cases h

/-- A table of integers that is listed lies in its block. -/
theorem tab_heap {P : Program} {w : World} {laid : List (String × DataW Unit)} {name : String} {k : IntKind} {zs : List Int} {g : Nat} {t e : TypeId} {n : Nat} (hl : laidMet P laid w) (hm : (name, Lib.tabData k zs) ∈ laid)
    (hg : P.globalNamed name = some g) (hty : (P.globals[g]?).map (·.type) = some t) (ht : P.underlying t = some (.array n e)) (he : P.underlying e = some (.int k)) (hce : P.cellsOf e = 1) (hct : P.cellsOf t = n) :
    ∃ t' f, w.heap[g]? = some (.cells (zs.map fun z => Value.int k z).toArray t' f) := by
  obtain ⟨ps, hv, _⟩ := hl
  obtain ⟨g', t', cs, fuel, p, h1, h2, h3, h4⟩ := laidVars_mem laid ps hv name _ hm
  obtain rfl := Option.some.inj (hg.symm.trans h1)
  obtain rfl := Option.some.inj (hty.symm.trans h2)
  have hc := Lib.cells_of_tab ht he hce hct h4
  obtain ⟨t', f, hh⟩ := var_heap hg h3
  refine ⟨t', f, ?_⟩
  rw [hh]
  congr 2
  apply Array.toList_inj.1
  rw [hc]

theorem tabIs_of {P : Program} {w : World} {name : String} {g : Nat} {k : IntKind} {zs : List Int} {t : TypeId} {f : Nat × Nat} (hg : P.globalNamed name = some g) (h : w.heap[g]? = some (.cells (zs.map fun z => Value.int k z).toArray t f)) : Lib.TabIs P w name k zs := by
  unfold Lib.TabIs World.var?
  rw [hg]
  simp [h]
end Go.Proofs.YtajcffchopcamaaDoor

/- Plain mathematics: a number as strconv reads it; bytes of texts. -/
namespace Go.Proofs.YtajcffchopcamaaDoor
open Go.RowKit

end Go.Proofs.YtajcffchopcamaaDoor

/- strconv.Itoa and strconv.Atoi by the library's contracts; the walk of impl.parseNumber where the errors' own type is not asked for. -/
namespace Go.Proofs.YtajcffchopcamaaDoor
open Go.RowKit

/-- The library's table of powers. -/
def PowT (w : World) : Prop := ∃ t f, w.heap[0]? = some (.cells (Lib.pow10Tab.map fun z => Value.int .u64 z).toArray t f)
theorem PowT.keep {w w' : World} (h : PowT w) (hb : Below w.heap.size w w') : PowT w' := by
  obtain ⟨t, f, hp⟩ := h
  exact ⟨t, f, by rw [hb.block _ (Array.getElem?_eq_some_iff.1 hp).1]; exact hp⟩

theorem below_growN (w : World) (k : Nat) (os : Array Obj) : Below w.heap.size w (Sort.grow (w.drewN k) os) := by
  refine ⟨rfl, rfl, rfl, by simp [Sort.grow], fun j hj => ?_⟩
  have h1 : j < (w.drewN k).heap.size := hj
  simp only [Sort.grow]
  rw [Array.getElem?_append_left h1]
  rfl

theorem itoa_pow (z : Int) (hz : -9223372036854775808 ≤ z ∧ z ≤ 9223372036854775807) (w : World) (he : PowT w) :
    Calls Tryd.prog 19 #[.int .i64 z] w fun e w' => e = .returned (.string (strOf (numText z))) ∧ Below w.heap.size w w' := by
  obtain ⟨t, f, h⟩ := he
  refine (Any.strconv_Itoa Tryd.laysM171 z hz.1 hz.2 w (tabIs_of (by kernel_rfl) h)).mono ?_
  rintro e w' ⟨rfl, k, os, rfl⟩
  exact ⟨by rw [itoa_str], below_growN w k os⟩

/-- What the library's variables hold on the road of a number that is read. -/
structure EnvN (w : World) : Prop where
  pow : PowT w
  syn : ∃ te pe, w.cell? ⟨2, 0, none⟩ = some (.iface te pe)
  rng : ∃ te pe, w.cell? ⟨3, 0, none⟩ = some (.iface te pe)
theorem EnvN.keep {w w' : World} (h : EnvN w) (hb : Below w.heap.size w w') : EnvN w' := by
  refine ⟨h.pow.keep hb, ?_, ?_⟩
  · obtain ⟨te, pe, hm⟩ := h.syn
    exact ⟨te, pe, by rw [hb.cell (p := ⟨_, 0, none⟩) (block_lt hm)]; exact hm⟩
  · obtain ⟨te, pe, hm⟩ := h.rng
    exact ⟨te, pe, by rw [hb.cell (p := ⟨_, 0, none⟩) (block_lt hm)]; exact hm⟩

end Go.Proofs.YtajcffchopcamaaDoor
