/- Locks: what they are, where they lie; when they are right. -/
import Derived.Test.YtekljhabjkmhpaaDoorLockFind
namespace Go.Proofs.YtekljhabjkmhpaaDoor
open Go.RowKit

structure LocksA where
  given : List GrantV
  waits : List GrantV
  aG : Option Addr
  cG : Nat
  aW : Option Addr
  cW : Nat
def LocksA.cells (l : LocksA) : List Value := [.slice l.aG l.given.length l.cG, .slice l.aW l.waits.length l.cW]
structure LocksA.reads (w : World) (l : LocksA) : Prop where
  given : ReadsG w l.aG l.given
  waits : ReadsG w l.aW l.waits
  ng : l.aG = none → l.cG = 0
  nw : l.aW = none → l.cW = 0
  lg : l.given.length ≤ l.cG
  lw : l.waits.length ≤ l.cW
theorem OwnG.cap {w : World} {lo hi : Nat} {a : Option Addr} {c : Nat} {ls : List GrantV} (h : OwnG w lo hi a c ls) : ls.length ≤ c := by
  rcases h.1.2 with ⟨hv, h0⟩ | ⟨g, cap, cur, hv, _, _, hr⟩
  · omega
  · simp only [Value.slice.injEq] at hv
    omega
theorem ReadsG.take {w : World} {a : Option Addr} {ls : List GrantV} (h : ReadsG w a ls) (k : Nat) : ReadsG w a (ls.take k) := by
  intro hne
  have hy : ls ≠ [] := by intro e; simp [e] at hne
  obtain ⟨b, off, ha, hc⟩ := h hy
  refine ⟨b, off, ha, fun i hi => ?_⟩
  have hi2 : i < k ∧ i < ls.length := by simp at hi; omega
  have : (ls.take k).getD i zeroG = ls.getD i zeroG := by simp [List.getD, hi2.1]
  rw [this]
  exact hc i hi2.2
structure LocksA.own (w : World) (lo hi : Nat) (l : LocksA) : Prop where
  given : OwnG w lo hi l.aG l.cG l.given
  waits : OwnG w lo hi l.aW l.cW l.waits
  apart : ∀ k, (Value.slice l.aG l.given.length l.cG).ownBlock = some k → (Value.slice l.aW l.waits.length l.cW).ownBlock ≠ some k
theorem LocksA.reads.below {w w' : World} {l : LocksA} (h : l.reads w) (hb : Below w.heap.size w w') : l.reads w' := ⟨h.given.below hb, h.waits.below hb, h.ng, h.nw, h.lg, h.lw⟩
theorem LocksA.own.reads {w : World} {lo hi : Nat} {l : LocksA} (h : l.own w lo hi) : l.reads w := ⟨h.given.reads, h.waits.reads, h.given.nocap, h.waits.nocap, h.given.cap, h.waits.cap⟩
theorem LocksA.own.below {w w' : World} {lo hi : Nat} {l : LocksA} (h : l.own w lo hi) (hb : Below w.heap.size w w') : l.own w' lo hi := ⟨h.given.below hb, h.waits.below hb, h.apart⟩
theorem LocksA.own.within {w w' : World} {lo hi x y : Nat} {l : LocksA} (h : l.own w lo hi) (hw : Within x y w w') (hd : hi ≤ x ∨ y ≤ lo) : l.own w' lo hi := ⟨h.given.within hw hd, h.waits.within hw hd, h.apart⟩
theorem LocksA.own.widen {w : World} {lo hi lo' hi' : Nat} {l : LocksA} (h : l.own w lo hi) (h1 : lo' ≤ lo) (h2 : hi ≤ hi') (h3 : hi' ≤ w.heap.size) : l.own w lo' hi' := ⟨h.given.widen h1 h2 h3, h.waits.widen h1 h2 h3, h.apart⟩
/-- Both lists are no longer than this. -/
def LocksA.short (l : LocksA) (n : Nat) : Prop := l.given.length ≤ n ∧ l.waits.length ≤ n

def clashB (g h : GrantV) : Bool := h.res == g.res && (h.tx == g.tx || !goesB h.mode g.mode)
def givenAt (ls : List GrantV) (i : Nat) : Bool := grantB (ls.getD i zeroG) && !(ls.take i).any (clashB (ls.getD i zeroG))
def waitAt (ls : List GrantV) (i : Nat) : Bool := grantB (ls.getD i zeroG) && !(ls.take i).any (fun h => h.tx == (ls.getD i zeroG).tx)
def okLocks (G W : List GrantV) : Bool := decide (G.length ≤ 60) && (decide (W.length ≤ 60) && ((List.range G.length).all (givenAt G) && (List.range W.length).all (waitAt W)))
theorem okLocks_g {G W : List GrantV} (h : ¬ G.length ≤ 60) : okLocks G W = false := by simp [okLocks, h]
theorem okLocks_w {G W : List GrantV} (h : ¬ W.length ≤ 60) : okLocks G W = false := by simp [okLocks, h]
theorem okLocks_given {G W : List GrantV} (k : Nat) (hk : k < G.length) (h : givenAt G k = false) : okLocks G W = false := by
  have : (List.range G.length).all (givenAt G) = false := by
    rw [List.all_eq_false]
    exact ⟨k, List.mem_range.2 hk, by rw [h]; decide⟩
  simp [okLocks, this]
theorem okLocks_wait {G W : List GrantV} (k : Nat) (hk : k < W.length) (h : waitAt W k = false) : okLocks G W = false := by
  have : (List.range W.length).all (waitAt W) = false := by
    rw [List.all_eq_false]
    exact ⟨k, List.mem_range.2 hk, by rw [h]; decide⟩
  simp [okLocks, this]
theorem okLocks_yes {G W : List GrantV} (h1 : G.length ≤ 60) (h2 : W.length ≤ 60) (h3 : ∀ k, k < G.length → givenAt G k = true) (h4 : ∀ k, k < W.length → waitAt W k = true) : okLocks G W = true := by
  have a3 : (List.range G.length).all (givenAt G) = true := List.all_eq_true.2 (fun k hk => h3 k (List.mem_range.1 hk))
  have a4 : (List.range W.length).all (waitAt W) = true := List.all_eq_true.2 (fun k hk => h4 k (List.mem_range.1 hk))
  simp [okLocks, a3, a4, h1, h2]
theorem okLocks_out {G W : List GrantV} (h : okLocks G W = true) : G.length ≤ 60 ∧ W.length ≤ 60 ∧ (∀ k, k < G.length → givenAt G k = true) ∧ (∀ k, k < W.length → waitAt W k = true) := by
  simp only [okLocks, Bool.and_eq_true, decide_eq_true_eq] at h
  exact ⟨h.1, h.2.1, fun k hk => List.all_eq_true.1 h.2.2.1 k (List.mem_range.2 hk), fun k hk => List.all_eq_true.1 h.2.2.2 k (List.mem_range.2 hk)⟩
/-- As the landed code asks it: nothing of this Tx and Res ahead, and it goes with the others. -/
theorem clash_split (g : GrantV) (ls : List GrantV) : ls.any (clashB g) = (ls.any (atB g.tx g.res) || ls.any (barsB g)) := by
  induction ls with
  | nil => rfl
  | cons h r ih =>
    simp only [List.any_cons, ih]
    have : clashB g h = (atB g.tx g.res h || barsB g h) := by
      unfold clashB atB barsB
      rw [goesB_symm h.mode g.mode]
      have e1 : (h.tx != g.tx) = !(h.tx == g.tx) := rfl
      rw [e1]
      cases (h.res == g.res) <;> cases (h.tx == g.tx) <;> cases goesB g.mode h.mode <;> rfl
    rw [this]
    cases atB g.tx g.res h <;> cases barsB g h <;> cases r.any (atB g.tx g.res) <;> cases r.any (barsB g) <;> rfl
end Go.Proofs.YtekljhabjkmhpaaDoor
