/- Several texts in one, in their order. -/
import Derived.Test.YtbpdocjkhmiimabGreatDoorPReadLogx14
import Derived.Test.YtbpdocjkhmiimabGreatDoorPReadLogx17
import Derived.WalkKit
import Derived.Test.YtbpdocjkhmiimabGreatDoorPReadLogx4
import Derived.Laws.IdiomStrings
import Derived.Lib.BufferRead
/- The walk of impl.GetInt, and of the exact law of GetInt. -/
namespace Go.Proofs.YtbpdocjkhmiimabGreatDoor
open Go.RowKit

set_option maxHeartbeats 400000 in
theorem implGetInt_any (a : Option Addr) (c : Nat) (zs : List Int) (p : Int) (w : World) (hr : Reads w a zs) (hl : zs.length ≤ 70368744177664) (hcap : zs.length ≤ c) :
    Calls Tryz.prog 141 #[.slice a zs.length c, .int .i64 p] w fun e w' => e = .returned (triple (getAt zs p)) ∧ w' = w := by
  cases hg : getAt zs p with
  | some r =>
    obtain ⟨n, k⟩ := r
    have HS : Hid (scanOf zs p = _) := (show scanOf zs p = scanOk (n, k) from by unfold scanOf; rw [hg])
    clear hg
    go_enter Tryz.func141, Tryz.ntmps141
    go_wp2_with fail
    refine (scanInt_any a c zs p w hr hl hcap).mono ?_
    rintro e w' ⟨rfl, rfl⟩
    rw [HS.out]
    simp only [scanOk]
    go_wp2
    go_ret3
    exact ⟨rfl, rfl⟩
  | none =>
    have HS : Hid (scanOf zs p = _) := scan_none zs p hg _ rfl
    have hw : (scanWhy zs p == 0) = false := by unfold scanWhy; split <;> rfl
    clear hg
    generalize scanWhy zs p = y at *
    go_enter Tryz.func141, Tryz.ntmps141
    go_wp2_with fail
    refine (scanInt_any a c zs p w hr hl hcap).mono ?_
    rintro e w' ⟨rfl, rfl⟩
    rw [HS.out]
    go_wp2
    go_ret3
    exact ⟨rfl, rfl⟩
end Go.Proofs.YtbpdocjkhmiimabGreatDoor

/- The walk of impl.readInts: numbers read into variables, one behind the other. -/
namespace Go.Proofs.YtbpdocjkhmiimabGreatDoor
open Go.RowKit

/-- Numbers stored at places. -/
def setAll (w : World) : List (Nat × Nat) → List Int → World
  | x :: xs, z :: zs => setAll (w.setCell ⟨x.1, x.2, none⟩ (.int .i64 z)) xs zs
  | [], _ => w
  | _ :: _, [] => w
theorem setAll_snoc (ad : List (Nat × Nat)) : ∀ (l : List Int) (w : World) (x : Nat × Nat) (z : Int), ad.length = l.length → setAll w (ad ++ [x]) (l ++ [z]) = (setAll w ad l).setCell ⟨x.1, x.2, none⟩ (.int .i64 z) := by
  induction ad with
  | nil => intro l w x z h; cases l with
    | nil => rfl
    | cons y r => simp at h
  | cons a r ih => intro l w x z h; cases l with
    | nil => simp at h
    | cons y s => simp only [List.cons_append, setAll]; exact ih s _ x z (by simpa using h)
theorem setAll_within {lo hi : Nat} (ad : List (Nat × Nat)) : ∀ (l : List Int) (w : World), (∀ x ∈ ad, lo ≤ x.1 ∧ x.1 < hi) → Within lo hi w (setAll w ad l) := by
  induction ad with
  | nil => intro l w _; exact Within.refl _ _ _
  | cons a r ih => intro l w h; cases l with
    | nil => exact Within.refl _ _ _
    | cons y s =>
      have ha := h a (by simp)
      have h1 : Within lo hi w (w.setCell ⟨a.1, a.2, none⟩ (.int .i64 y)) := within_set w a.1 a.2 (.int .i64 y) ha
      exact h1.trans (ih s _ (fun x hx => h x (by simp [hx])))
theorem setAll_cell (ad : List (Nat × Nat)) : ∀ (l : List Int) (w : World) (a : Addr), (w.cell? a).isSome = true → ((setAll w ad l).cell? a).isSome = true := by
  induction ad with
  | nil => intro l w a h; exact h
  | cons x r ih => intro l w a h; cases l with
    | nil => exact h
    | cons y s => exact ih s _ a (World.isSome_setCells x.1 [.int .i64 y] x.2 w a h)
theorem setAll_frozen (ad : List (Nat × Nat)) : ∀ (l : List Int) (w : World) (a : Addr), (setAll w ad l).frozen? a = w.frozen? a := by
  induction ad with
  | nil => intro l w a; rfl
  | cons x r ih => intro l w a; cases l with
    | nil => rfl
    | cons y s => simp only [setAll]; rw [ih]; simp
/-- What the reading of so many numbers answers. -/
def IntsAns (w w' : World) (ad : List (Nat × Nat)) (x : Option (List Int × Nat)) (e : Ending) : Prop := match x with
  | some (l, q) => e = .returned (.tuple #[.int .i64 (q : Nat), .bool true]) ∧ w' = setAll w ad l ∧ l.length = ad.length
  | none => e = .returned (.tuple #[.int .i64 0, .bool false]) ∧ ∃ l : List Int, l.length ≤ ad.length ∧ w' = setAll w (ad.take l.length) l
theorem intsAns_none {w w' : World} {ad : List (Nat × Nat)} {x : Option (List Int × Nat)} (h : x = none) (l : List Int) (hl : l.length ≤ ad.length) (hw : w' = setAll w (ad.take l.length) l) : IntsAns w w' ad x (.returned (.tuple #[.int .i64 0, .bool false])) := by subst h; exact ⟨rfl, l, hl, hw⟩
theorem intsAns_some {w w' : World} {ad : List (Nat × Nat)} {x : Option (List Int × Nat)} {l : List Int} {q : Nat} (h : x = some (l, q)) (hw : w' = setAll w ad l) (hl : l.length = ad.length) : IntsAns w w' ad x (.returned (.tuple #[.int .i64 (q : Nat), .bool true])) := by subst h; exact ⟨rfl, hw, hl⟩

set_option maxHeartbeats 2000000 in
set_option maxRecDepth 100000 in
theorem readInts_any (a : Option Addr) (c : Nat) (zs : List Int) (p P cP lo hi : Nat) (ad : List (Nat × Nat)) (w : World) (hrl : ∀ u, Within lo hi w u → Reads u a zs) (hl : zs.length ≤ 70368744177664) (hcap : zs.length ≤ c) (hm : ad.length ≤ 1000)
    (tP : TypeId) (hP : Box w P (ad.map fun x => Value.pointer (some ⟨x.1, x.2, none⟩)) tP) (hPo : P < lo ∨ hi ≤ P)
    (has : ∀ x ∈ ad, (lo ≤ x.1 ∧ x.1 < hi) ∧ (w.cell? ⟨x.1, x.2, none⟩).isSome = true ∧ w.frozen? ⟨x.1, x.2, none⟩ = false) :
    Calls Tryz.prog 134 #[.slice a zs.length c, .int .i64 (p : Int), .slice (some ⟨P, 0, none⟩) ad.length cP] w fun e w' => IntsAns w w' ad (numsAt zs ad.length p) e ∧ Within lo hi w w' := by
  have HW : Hid (∀ k l, Within lo hi w (setAll w (ad.take k) l)) := fun k l => setAll_within _ l w (fun x hx => (has x (List.mem_of_mem_take hx)).1)
  have HAS : Hid (_) := has
  have HPP : Hid (∀ i u, i < ad.length → Within lo hi w u → u.cell? ⟨P, i, none⟩ = some (.pointer (some ⟨(ad.getD i (0, 0)).1, (ad.getD i (0, 0)).2, none⟩))) := fun i u hi hu => (hP.within hu (by omega)).cell i _ (by simp [List.getD, hi])
  have HRL : Hid (_) := hrl
  clear hP has hrl
  go_enter Tryz.func134, Tryz.ntmps134
  go_wp2
  go_loopw [1, 15] (fun t i wr => ∃ (k q : Nat) (l : List Int), k ≤ ad.length ∧ i = .int .i64 k ∧ t = .int .i64 q ∧ Hid (l.length = k ∧ numsAt zs ad.length p = onTo l (numsAt zs (ad.length - k) q)) ∧ wr = setAll w (ad.take k) l) (fun _ i _ => ad.length - (intOf i).toNat)
  case atStart => exact ⟨0, p, [], Nat.zero_le _, rfl, rfl, ⟨rfl, by rw [onTo_nil]; rfl⟩, by simp [setAll]⟩
  case round =>
    obtain ⟨k, q, l, hk, rfl, rfl, hln, rfl⟩ := hrel
    by_cases hlt : k < ad.length
    · have c0 := HPP.out k _ hlt (HW.out k l)
      have hrd := HRL.out _ (HW.out k l)
      have hx := HAS.out (ad.getD k (0, 0)) (by simp [List.getD, hlt])
      obtain ⟨old, hold⟩ := Option.isSome_iff_exists.1 (setAll_cell (ad.take k) l w _ hx.2.1)
      have hfz : (setAll w (ad.take k) l).frozen? ⟨(ad.getD k (0, 0)).1, (ad.getD k (0, 0)).2, none⟩ = false := by rw [setAll_frozen]; exact hx.2.2
      have HSN : Hid (∀ z, setAll w (ad.take (k + 1)) (l ++ [z]) = (setAll w (ad.take k) l).setCell ⟨(ad.getD k (0, 0)).1, (ad.getD k (0, 0)).2, none⟩ (.int .i64 z)) := fun z => by
        have e : ad.take (k + 1) = ad.take k ++ [ad.getD k (0, 0)] := by rw [List.take_add_one]; simp [List.getD, hlt]
        rw [e]
        exact setAll_snoc _ l w _ z (by rw [List.length_take, hln.out.1]; omega)
      have HRK : Hid (ad.length - k = (ad.length - (k + 1)) + 1) := by rw [Hid]; omega
      have C := implGetInt_any a c zs (q : Int) (setAll w (ad.take k) l) hrd hl hcap
      have HWk : Hid (_) := HW.out k l
      have HWE : Hid (l.length ≤ ad.length ∧ setAll w (ad.take k) l = setAll w (ad.take l.length) l) := ⟨by rw [hln.out.1]; exact hk, by rw [hln.out.1]⟩
      clear HPP HAS hx
      generalize ad.getD k (0, 0) = x at *
      cases hgt : getAt zs (q : Int) with
      | none =>
        have HX : Hid (numsAt zs ad.length p = none) := by rw [Hid, hln.out.2, HRK.out]; exact onTo_stop zs l _ q hgt
        rw [hgt] at C
        simp only [triple] at C
        generalize setAll w (ad.take k) l = wr at *
        go_wp2_with fail
        refine C.mono ?_
        rintro e u ⟨rfl, hu⟩
        rw [hu]
        clear hu u
        go_wp2
        go_ret2
        exact ⟨intsAns_none HX.out l HWE.out.1 HWE.out.2, HWk.out⟩
      | some g =>
        obtain ⟨z, q2⟩ := g
        have HX : Hid (numsAt zs ad.length p = onTo (l ++ [z]) (numsAt zs (ad.length - (k + 1)) q2)) := by rw [Hid, hln.out.2, HRK.out]; exact onTo_step zs l _ q q2 z hgt
        rw [hgt] at C
        simp only [triple] at C
        have HS := HSN.out z
        generalize setAll w (ad.take k) l = wr at *
        go_wp2_with fail
        refine C.mono ?_
        rintro e u ⟨rfl, hu⟩
        rw [hu]
        clear hu u
        go_wp2
        go_roundw
        case rel => exact ⟨k + 1, q2, l ++ [z], by omega, by go_num, rfl, ⟨by simp [hln.out.1], HX.out⟩, HS.symm⟩
        case measure => simp [intOf]; omega
    · obtain rfl : k = ad.length := by omega
      have HX : Hid (numsAt zs ad.length p = some (l, q)) := by rw [Hid, hln.out.2, Nat.sub_self]; simp [numsAt, onTo]
      have HT : Hid (ad.take ad.length = ad) := List.take_length
      rw [HT.out]
      have HWk : Hid (Within lo hi w (setAll w ad l)) := by have := HW.out ad.length l; rw [HT.out] at this; exact this
      go_wp2
      go_ret2
      exact ⟨intsAns_some HX.out rfl hln.out.1, HWk.out⟩
end Go.Proofs.YtbpdocjkhmiimabGreatDoor

/- The bytes of a text. -/
namespace Go.Proofs.YtbpdocjkhmiimabGreatDoor

def sBytes (s : ByteArray) : List Int := s.data.toList.map fun b => (b.toNat : Int)

theorem sBytes_len (s : ByteArray) : (sBytes s).length = s.size := by
  rw [sBytes, List.length_map, Array.length_toList]; rfl
theorem sBytes_byte (s : ByteArray) : ∀ z ∈ sBytes s, 0 ≤ z ∧ z < 256 := by
  intro z hz
  simp only [sBytes, List.mem_map] at hz
  obtain ⟨b, _, rfl⟩ := hz
  have := b.toNat_lt
  omega

theorem sBytes_extract (s : ByteArray) (a b : Nat) : sBytes (s.extract a b) = ((sBytes s).drop a).take (b - a) := by
  unfold sBytes
  rw [ByteArray.data_extract, Array.toList_extract, List.map_take, List.map_drop]

theorem sBytes_step (s : ByteArray) (f p : Nat) (h : f ≤ p) : (sBytes s).take f ++ sBytes (s.extract f p) = (sBytes s).take p := by
  rw [sBytes_extract, ← List.take_add, Nat.add_sub_cancel' h]

theorem sBytes_rest (s : ByteArray) (f : Nat) (h : f ≤ s.size) : (sBytes s).take f ++ sBytes (s.extract f s.size) = sBytes s := by
  rw [sBytes_step s f s.size h, List.take_of_length_le (by rw [sBytes_len]; exact Nat.le_refl _)]

end Go.Proofs.YtbpdocjkhmiimabGreatDoor

/- A text of bytes. -/
namespace Go.Proofs.YtbpdocjkhmiimabGreatDoor
open Go.RowKit

def strOf (G : List Int) : ByteArray := ⟨(G.map fun z => UInt8.ofNat z.toNat).toArray⟩

theorem run_text (w : World) (b off cap : Nat) (G : List Int) (n : Nat) (hn : n = G.length) (hr : Reads w (some ⟨b, off, none⟩) G) :
    (convert 34 9 (.slice (some ⟨b, off, none⟩) n cap)).run Tryz.prog w = .ok (.string (strOf G)) w := by
  have h := run_convert_bytes_back (P := Tryz.prog) w 34 9 5 ⟨b, off, none⟩ cap (G.map fun z => UInt8.ofNat z.toNat) Tryz.underlying34 Tryz.underlying5 Tryz.underlying9 ?_
  · rw [List.length_map] at h
    rw [hn, h]
    rfl
  · intro j hj
    rw [List.length_map] at hj
    have hne : G ≠ [] := by intro e; simp [e] at hj
    obtain ⟨b', off', hh, hc⟩ := hr.2 hne
    cases hh
    have hadd : (⟨b, off, none⟩ : Addr).add j = ⟨b, off + j, none⟩ := by unfold Addr.add; split <;> simp_all
    rw [hadd, hc j hj]
    have hb := bytes_nat hr.1 j
    have hg : G.getD j 0 = G[j] := by simp [List.getD, hj]
    rw [hg] at hb
    simp only [List.getElem_map, hg]
    have : (UInt8.ofNat G[j].toNat).toNat = G[j].toNat := by simp; omega
    rw [this, ← hb.1]

theorem run_text_own {w : World} {base : Nat} {a : Option Addr} {c : Nat} {ys : List Int} (h : OwnB w base a c ys) :
    (convert 34 9 (.slice a ys.length c)).run Tryz.prog w = .ok (.string (strOf ys)) w := by
  cases a with
  | none =>
    have hn : ys = [] := by
      by_cases e : ys = []
      · exact e
      · obtain ⟨b, off, hh, _⟩ := h.reads.2 e
        cases hh
    subst hn
    exact Lib.run_convert_nil_bytes (P := Tryz.prog) w 34 9 5 c Tryz.underlying34 Tryz.underlying5 Tryz.underlying9
  | some x =>
    rcases h.2.2 with ⟨hv, _⟩ | ⟨g, cap, cur, hv, _⟩
    · simp at hv
    · simp only [Value.slice.injEq, Option.some.injEq] at hv
      obtain ⟨rfl, _, rfl⟩ := hv
      exact run_text w g 0 c ys _ rfl h.reads

end Go.Proofs.YtbpdocjkhmiimabGreatDoor
