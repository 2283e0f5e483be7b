/- Several texts in one, in their order. -/
import Derived.Test.YtajcffchopcamaaGreatDoorPFnPathsx19
import Derived.Test.YtajcffchopcamaaGreatDoorPFnPathsx2
import Derived.Test.YtajcffchopcamaaGreatDoorPFnPathsx16
import Derived.Test.YtajcffchopcamaaGreatDoorPFnPathsx13
import Derived.Test.YtajcffchopcamaaGreatDoorProg
import Derived.Test.YtajcffchopcamaaGreatDoorPFnPathsx1
import Derived.Test.YtajcffchopcamaaGreatDoorPFnPathsx7
/- Where the next step of a path's text begins; the walk of spec.l12End. -/
namespace Go.Proofs.YtajcffchopcamaaGreatDoor
open Go.RowKit

/-- A point or a bracket that opens. -/
def stopB (z : Int) : Bool := decide (z = 46) || decide (z = 91)
/-- j is the first place from i on where a step begins, or the end. -/
def EndAt (L : List Int) (i j : Nat) : Prop := i ≤ j ∧ j ≤ L.length ∧ (∀ t, i ≤ t → t < j → stopB (L.getD t 0) = false) ∧ (j < L.length → stopB (L.getD j 0) = true)

theorem endAt_one {L : List Int} {i j k : Nat} (h : EndAt L i j) (g : EndAt L i k) : j = k := by
  obtain ⟨h1, h2, h3, h4⟩ := h
  obtain ⟨g1, g2, g3, g4⟩ := g
  by_cases e : j < k
  · have := h4 (by omega)
    rw [g3 j h1 e] at this
    cases this
  · by_cases e' : k < j
    · have := g4 (by omega)
      rw [h3 k g1 e'] at this
      cases this
    · omega

end Go.Proofs.YtajcffchopcamaaGreatDoor

/- A slot of a page stored. -/
namespace Go.Proofs.YtajcffchopcamaaGreatDoor
open Go.RowKit

/-- One of them is another, which lies behind them all. -/
theorem OwnS.set {w : World} {lo mid mid' hi : Nat} {ss : List SlotA} {t : SlotA} (h : OwnS w lo mid ss) (k : Nat) (ht : t.own w mid' hi) (h1 : lo ≤ mid') (h2 : mid ≤ mid') (h3 : mid' ≤ hi) : OwnS w lo hi (ss.set k t) := by
  have hhi : hi ≤ w.heap.size := ht.ints.2.1
  refine ⟨fun s hs => ?_, ?_⟩
  · rcases List.mem_or_eq_of_mem_set hs with h' | rfl
    · exact OwnO.widen (h.each s h') (Nat.le_refl _) (by omega) hhi
    · exact OwnO.widen ht h1 (Nat.le_refl _) hhi
  · have hb := SlotA.blocks_lt ht
    have hn := SlotA.blocks_nodup ht
    have hl := h.blocks_lt
    have ha := h.apart
    clear h ht
    induction ss generalizing k with
    | nil => exact ha
    | cons s r ih =>
      rw [List.flatMap_cons, List.nodup_append] at ha
      cases k with
      | zero =>
        rw [List.set_cons_zero, List.flatMap_cons, List.nodup_append]
        refine ⟨hn, ha.2.1, fun a ha' b hb' e => ?_⟩
        have h5 := (hb a ha').1
        have h6 := (hl b (by rw [List.flatMap_cons]; exact List.mem_append.2 (.inr hb'))).2
        omega
      | succ k =>
        rw [List.set_cons_succ, List.flatMap_cons, List.nodup_append]
        refine ⟨ha.1, ih k (fun x hx => hl x (by rw [List.flatMap_cons]; exact List.mem_append.2 (.inr hx))) ha.2.1, fun a ha' b hb' e => ?_⟩
        subst e
        obtain ⟨x, hx, hbx⟩ := List.mem_flatMap.1 hb'
        rcases List.mem_or_eq_of_mem_set hx with h' | rfl
        · exact ha.2.2 a ha' a (List.mem_flatMap.2 ⟨x, h', hbx⟩) rfl
        · have h5 := (hb a hbx).1
          have h6 := (hl a (by rw [List.flatMap_cons]; exact List.mem_append.2 (.inl ha'))).2
          omega
end Go.Proofs.YtajcffchopcamaaGreatDoor

/- Plain mathematics of SetSlot; results that are a page and a flag. -/
namespace Go.Proofs.YtajcffchopcamaaGreatDoor
open Go.RowKit

end Go.Proofs.YtajcffchopcamaaGreatDoor

/- Rows of pieces of one text of bytes: what the call owns; appending one. -/
namespace Go.Proofs.YtajcffchopcamaaGreatDoor
open Go.RowKit

theorem Tryz.infoPc : (Tryz.prog.info? 22).map (fun i => (i.zero, i.size, i.bytes)) = some (some (.slice none 0 0), 1, 24) := by kernel_rfl

/-- A piece of the text in block B: its bytes, where they begin, its room. -/
structure PcA where
  bs : List Int
  off : Nat
  c : Nat
def PcA.cell (B : Nat) (p : PcA) : Value := .slice (some ⟨B, p.off, none⟩) p.bs.length p.c
def zeroPc : PcA := ⟨[], 0, 0⟩

/-- The slice at a, of capacity c, owns the row of the pieces ps. -/
def OwnPc (B : Nat) (w : World) (lo : Nat) (a : Option Addr) (c : Nat) (ps : List PcA) : Prop := w.ownsRow lo 22 1 (.slice a ps.length c) ps.length (ps.map (PcA.cell B))

theorem OwnPc.below {B : Nat} {w w' : World} {lo : Nat} {a : Option Addr} {c : Nat} {ps : List PcA} (h : OwnPc B w lo a c ps) (hb : Below w.heap.size w w') : OwnPc B w' lo a c ps :=
  ownsRow_block h (fun k hk => hb.block k (h.lt k hk).2)
theorem ownPc_lit0 (B : Nat) (w : World) : OwnPc B (w.alloc (.cells #[] 22)) w.heap.size (some ⟨w.heap.size, 0, none⟩) 0 [] := World.ownsRow_lit w #[] 0 (Nat.le_refl _) (by simp [maxLen]) rfl

theorem OwnPc.cell {B : Nat} {w : World} {lo : Nat} {a : Option Addr} {c : Nat} {ps : List PcA} (h : OwnPc B w lo a c ps) (hp : 0 < ps.length) : ∃ g, a = some ⟨g, 0, none⟩ ∧ lo ≤ g ∧ ps.length ≤ c ∧ ∀ i, i < ps.length → w.cell? ⟨g, i, none⟩ = some ((ps.getD i zeroPc).cell B) := by
  have hlt := h.lt
  rcases h.2 with ⟨_, h0⟩ | ⟨g, cap', cur, hv, hb, hg, hn, hr⟩
  · omega
  · simp only [Value.slice.injEq] at hv
    obtain ⟨rfl, _, rfl⟩ := hv
    refine ⟨g, rfl, (hlt g rfl).1, by omega, fun i hi => ?_⟩
    have := World.ownsRow.cellAt h i (by omega)
    rw [this]
    simp [hi, List.getD]

/-- Appending one piece to a row that the call owns. -/
theorem append_pc1 {B : Nat} {w : World} {ops : Array Oper} {rest : List Oper} {o : Oper} {act : Act} {Q : Exit → Act → World → Prop} (hgd : o.guard = none) (s x : Operand)
    (ho : o.op = .call { callee := .builtin .append, args := #[s, x], argTypes := #[66, 66] })
    (lo : Nat) (a : Option Addr) (c : Nat) (xs : List PcA) (hs : act.eval s = .slice a xs.length c) (hown : OwnPc B w lo a c xs)
    (g : Nat) (sc : Nat) (z : PcA) (hx : act.eval x = .slice (some ⟨g, 0, none⟩) 1 sc) (hr : w.cell? ⟨g, 0, none⟩ = some (z.cell B))
    (hb : xs.length ≤ 1099511627776) (hlo : lo ≤ w.heap.size)
    (h : ∀ a' c' ys w', Hid (ys = xs ++ [z]) → OwnPc B w' lo a' c' ys → w.grownBy w' (Value.slice a xs.length c).ownBlock → wpList Tryz.prog ops Q rest (act.put o.dst (.slice a' ys.length c')) w') :
    wpList Tryz.prog ops Q (o :: rest) act w := by
  obtain ⟨i0, hi0, hz0, hz1, hz2⟩ := info_parts Tryz.infoPc
  refine wpList_append_own w hgd s x 66 ho lo 22 i0 (.slice none 0 0) 1 24 Tryz.underlying66 hi0 hz0 hz1 hz2 rfl (by decide) _ _ _ hs hown ⟨g, 0, none⟩ 1 sc [z.cell B] hx (by simp) ?_ ?_ (by simp only [maxLen]; omega) (by omega) hlo ?_
  · intro j u hj
    cases j with
    | zero => simp at hj; subst hj; rw [Addr_add]; exact hr
    | succ j => simp at hj
  · intro v hv; simp at hv; subst hv; rfl
  · intro v' w' h1 h2 _
    have e1 : xs.length + 1 = (xs ++ [z]).length := by simp
    have e2 : xs.map (PcA.cell B) ++ [z.cell B] = (xs ++ [z]).map (PcA.cell B) := by simp
    rw [e1, e2] at h1
    have sh : ∃ a' c', v' = .slice a' (xs ++ [z]).length c' := by
      rcases h1.2 with ⟨rfl, h0⟩ | ⟨g, cap, cur, rfl, _⟩
      · exact ⟨none, 0, by rw [h0]⟩
      · exact ⟨_, _, rfl⟩
    obtain ⟨a', c', rfl⟩ := sh
    exact h a' c' (xs ++ [z]) w' rfl h1 h2
end Go.Proofs.YtajcffchopcamaaGreatDoor

/- The walk of laws.among. -/
namespace Go.Proofs.YtajcffchopcamaaGreatDoor
open Go.RowKit

set_option maxHeartbeats 1000000 in
set_option maxRecDepth 100000 in
theorem among_any (a : Option Addr) (c : Nat) (zs : List Int) (x : Int) (w : World) (hr : ReadsI w a zs) (hl : zs.length ≤ 1099511627776) :
    Calls Tryz.prog 14 #[.slice a zs.length c, .int .i64 x] w fun e w' => e = .returned (.bool (zs.any (· == x))) ∧ w' = w := by
  have HC : Hid (∀ k, k < zs.length → ∃ b off, a = some ⟨b, off, none⟩ ∧ w.cell? ⟨b, off + k, none⟩ = some (.int .i64 (zs.getD k 0))) := fun k hk => by
    obtain ⟨b, off, ha, hc⟩ := hr (by intro e; rw [e] at hk; simp at hk)
    exact ⟨b, off, ha, hc k hk⟩
  have HHIT : Hid (∀ k, k < zs.length → zs.getD k 0 = x → zs.any (· == x) = true) := fun k hk h => any_hit (z := 0) hk (beq_iff_eq.2 h)
  have HSTEP : Hid (∀ k, k < zs.length → (zs.take k).any (· == x) = false → ¬ zs.getD k 0 = x → (zs.take (k + 1)).any (· == x) = false) := fun k hk h h1 => any_step (z := 0) hk h (beq_eq_false_iff_ne.2 h1)
  have HEND : Hid (∀ k, ¬ k < zs.length → (zs.take k).any (· == x) = false → zs.any (· == x) = false) := fun k hk h => any_end hk h
  clear hr
  generalize zs.any (· == x) = R at *
  go_enter Tryz.func14, Tryz.ntmps14
  go_wp2_with fail
  go_loopw [5] (fun i wr => ∃ k : Nat, k ≤ zs.length ∧ i = .int .i64 k ∧ Hid ((zs.take k).any (· == x) = false) ∧ wr = w) (fun i _ => zs.length - (RowKit.intOf i).toNat)
  case atStart => exact ⟨0, Nat.zero_le _, rfl, (show (zs.take 0).any (· == x) = false by simp), rfl⟩
  case round =>
    obtain ⟨k, hk, rfl, hany, rfl⟩ := hrel
    by_cases hlt : k < zs.length
    · obtain ⟨b, off, rfl, c0⟩ := HC.out k hlt
      have HH1 : Hid (zs.getD k 0 = x → R = true) := fun h => HHIT.out k hlt h
      have HH2 : Hid (¬ zs.getD k 0 = x → (zs.take (k + 1)).any (· == x) = false) := fun h => HSTEP.out k hlt hany.out h
      clear HC HHIT HSTEP HEND
      generalize zs.getD k 0 = z at *
      by_cases hz : z = x
      · have HR : Hid (R = true) := HH1.out hz
        subst hz
        clear HH1 HH2
        go_wp2
        go_ret
        exact ⟨ret_bool HR.out.symm, rfl⟩
      · have HN : Hid ((zs.take (k + 1)).any (· == x) = false) := HH2.out hz
        have hzb : (z == x) = false := by simpa using hz
        clear HH1 HH2 hz
        go_wp2_with fail
        go_roundw
        case rel => exact ⟨k + 1, by omega, by go_num, HN, trivial⟩
        case measure => simp [RowKit.intOf]; omega
    · have HR : Hid (R = false) := HEND.out k hlt hany.out
      clear HC HHIT HSTEP HEND
      go_wp2
      go_ret
      exact ⟨ret_bool HR.out.symm, rfl⟩
end Go.Proofs.YtajcffchopcamaaGreatDoor
