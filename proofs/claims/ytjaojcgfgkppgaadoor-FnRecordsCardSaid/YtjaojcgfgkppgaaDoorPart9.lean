/- Several texts in one, in their order. -/
import Derived.Test.YtjaojcgfgkppgaaDoorPart8
import Derived.Test.YtjaojcgfgkppgaaDoorPart5
import Derived.WalkKit
import Derived.Test.YtjaojcgfgkppgaaDoorPart1
import Derived.Laws.IdiomStrings
import Derived.Lib.BufferRead
import Derived.Test.YtjaojcgfgkppgaaDoorPart4
import Derived.Test.YtjaojcgfgkppgaaDoorPart7
import Derived.Deep.RegionHeld3
import Derived.Deep.CutRange
/- A record that is cut is none. -/
namespace Go.Proofs.YtjaojcgfgkppgaaDoor
open Go.RowKit

/-- The bytes of a right record, with whatever behind them: its parts, and where they end. -/
theorem parts_back (r : RecV) (rest : List Int) (h : okR r = true) : ∃ p q s, numsAt (bodyR r ++ rest) 6 0 = some (headR r, p) ∧ slotAt (bodyR r ++ rest) p = some (r.bf, q) ∧ slotAt (bodyR r ++ rest) q = some (r.af, s) ∧ countAt (bodyR r ++ rest) s = some (r.txs, (bodyR r).length) := by
  have d := okR_bd h
  have e0 : bodyR r ++ rest = [] ++ (headR r).flatMap putOf ++ (putSlotOf r.bf ++ putSlotOf r.af ++ putOf r.txs.length ++ r.txs.flatMap putLive ++ rest) := by simp [bodyR]
  have h0 := numsAt_back (headR r) [] (putSlotOf r.bf ++ putSlotOf r.af ++ putOf r.txs.length ++ r.txs.flatMap putLive ++ rest) (by
    intro z hz
    simp only [headR, List.mem_cons, List.not_mem_nil, or_false] at hz
    have := d.lsn; have := d.tx; have := d.prev; have := d.kind; have := d.oid; have := d.next
    rcases hz with rfl | rfl | rfl | rfl | rfl | rfl <;> omega)
  rw [← e0] at h0
  have e1 : bodyR r ++ rest = (headR r).flatMap putOf ++ putSlotOf r.bf ++ (putSlotOf r.af ++ putOf r.txs.length ++ r.txs.flatMap putLive ++ rest) := by simp [bodyR]
  have h1 := slotAt_back ((headR r).flatMap putOf) (putSlotOf r.af ++ putOf r.txs.length ++ r.txs.flatMap putLive ++ rest) r.bf d.bf
  rw [← e1] at h1
  have e2 : bodyR r ++ rest = ((headR r).flatMap putOf ++ putSlotOf r.bf) ++ putSlotOf r.af ++ (putOf r.txs.length ++ r.txs.flatMap putLive ++ rest) := by simp [bodyR]
  have h2 := slotAt_back ((headR r).flatMap putOf ++ putSlotOf r.bf) (putOf r.txs.length ++ r.txs.flatMap putLive ++ rest) r.af d.af
  rw [← e2] at h2
  have e3 : bodyR r ++ rest = ((headR r).flatMap putOf ++ putSlotOf r.bf ++ putSlotOf r.af) ++ putOf r.txs.length ++ (r.txs.flatMap putLive ++ rest) := by simp [bodyR]
  have d20 := d.txs
  have h3 := getAt_back ((headR r).flatMap putOf ++ putSlotOf r.bf ++ putSlotOf r.af) (r.txs.flatMap putLive ++ rest) (r.txs.length : Int) (by omega)
  rw [← e3] at h3
  have e4 : bodyR r ++ rest = (((headR r).flatMap putOf ++ putSlotOf r.bf ++ putSlotOf r.af) ++ putOf r.txs.length) ++ r.txs.flatMap putLive ++ rest := by simp [bodyR]
  have h4 := livesAt_back r.txs (((headR r).flatMap putOf ++ putSlotOf r.bf ++ putSlotOf r.af) ++ putOf r.txs.length) rest (fun t ht => by have := d.each t ht; have := d.lsn; omega)
  rw [← e4] at h4
  refine ⟨_, _, _, h0, h1, h2, ?_⟩
  unfold countAt
  rw [h3]
  simp only
  rw [if_pos (by omega), Int.toNat_natCast, h4]
  simp [bodyR]
theorem body_pos (r : RecV) : 1 ≤ (bodyR r).length := by
  have := (putOf_len r.lsn).1
  simp only [bodyR, headR, List.flatMap_cons, List.length_append]
  omega
/-- No two right records, one's bytes beginning the other's. -/
theorem body_free {r s : RecV} (hr : okR r = true) (hs : okR s = true) {rest : List Int} (h : bodyR s ++ rest = bodyR r) : rest = [] := by
  obtain ⟨p, q, u, a0, a1, a2, a3⟩ := parts_back r [] hr
  obtain ⟨p', q', u', b0, b1, b2, b3⟩ := parts_back s rest hs
  rw [List.append_nil] at a0 a1 a2 a3
  rw [h] at b0 b1 b2 b3
  rw [a0] at b0
  have e0 := (Prod.mk.inj (Option.some.inj b0)).2
  subst e0
  rw [a1] at b1
  have e1 := (Prod.mk.inj (Option.some.inj b1)).2
  subst e1
  rw [a2] at b2
  have e2 := (Prod.mk.inj (Option.some.inj b2)).2
  subst e2
  rw [a3] at b3
  have e3 := (Prod.mk.inj (Option.some.inj b3)).2
  have hl := congrArg List.length h
  rw [List.length_append] at hl
  exact List.length_eq_zero_iff.1 (by omega)
theorem cut_none {r : RecV} (h : okR r = true) : (pairR ((putRecOf r).take ((putRecOf r).length - 1))).2 = false := by
  rw [putRec_ok h]
  cases hp : (pairR ((bodyR r).take ((bodyR r).length - 1))).2 with
  | false => rfl
  | true =>
    obtain ⟨h1, h2⟩ := pairR_ok hp
    rw [putRec_ok h1] at h2
    have hb := body_pos r
    have hf := body_free (r := r) (s := (pairR ((bodyR r).take ((bodyR r).length - 1))).1) h h1 (rest := (bodyR r).drop ((bodyR r).length - 1)) (by rw [h2, List.take_append_drop])
    have := congrArg List.length hf
    rw [List.length_drop, List.length_nil] at this
    omega
theorem pair_back {r : RecV} (h : okR r = true) : pairR (putRecOf r) = (r, true) := by
  have : getR (putRecOf r) = some r := getR_some h rfl
  unfold pairR; rw [this]
end Go.Proofs.YtjaojcgfgkppgaaDoor

/- The walk of impl.GetInt, and of the exact law of GetInt. -/
namespace Go.Proofs.YtjaojcgfgkppgaaDoor
open Go.RowKit

set_option maxHeartbeats 400000 in
theorem implGetInt_any (a : Option Addr) (c : Nat) (zs : List Int) (p : Int) (w : World) (hr : Reads w a zs) (hl : zs.length ≤ 70368744177664) (hcap : zs.length ≤ c) :
    Calls Tryd.prog 107 #[.slice a zs.length c, .int .i64 p] w fun e w' => e = .returned (triple (getAt zs p)) ∧ w' = w := by
  cases hg : getAt zs p with
  | some r =>
    obtain ⟨n, k⟩ := r
    have HS : Hid (scanOf zs p = _) := (show scanOf zs p = scanOk (n, k) from by unfold scanOf; rw [hg])
    clear hg
    go_enter Tryd.func107, Tryd.ntmps107
    go_wp2_with fail
    refine (scanInt_any a c zs p w hr hl hcap).mono ?_
    rintro e w' ⟨rfl, rfl⟩
    rw [HS.out]
    simp only [scanOk]
    go_wp2
    go_ret3
    exact ⟨rfl, rfl⟩
  | none =>
    have HS : Hid (scanOf zs p = _) := scan_none zs p hg _ rfl
    have hw : (scanWhy zs p == 0) = false := by unfold scanWhy; split <;> rfl
    clear hg
    generalize scanWhy zs p = y at *
    go_enter Tryd.func107, Tryd.ntmps107
    go_wp2_with fail
    refine (scanInt_any a c zs p w hr hl hcap).mono ?_
    rintro e w' ⟨rfl, rfl⟩
    rw [HS.out]
    go_wp2
    go_ret3
    exact ⟨rfl, rfl⟩
end Go.Proofs.YtjaojcgfgkppgaaDoor

/- The walk of impl.readInts: numbers read into variables, one behind the other. -/
namespace Go.Proofs.YtjaojcgfgkppgaaDoor
open Go.RowKit

/-- Numbers stored at places. -/
def setAll (w : World) : List (Nat × Nat) → List Int → World
  | x :: xs, z :: zs => setAll (w.setCell ⟨x.1, x.2, none⟩ (.int .i64 z)) xs zs
  | [], _ => w
  | _ :: _, [] => w
theorem setAll_snoc (ad : List (Nat × Nat)) : ∀ (l : List Int) (w : World) (x : Nat × Nat) (z : Int), ad.length = l.length → setAll w (ad ++ [x]) (l ++ [z]) = (setAll w ad l).setCell ⟨x.1, x.2, none⟩ (.int .i64 z) := by
  induction ad with
  | nil => intro l w x z h; cases l with
    | nil => rfl
    | cons y r => simp at h
  | cons a r ih => intro l w x z h; cases l with
    | nil => simp at h
    | cons y s => simp only [List.cons_append, setAll]; exact ih s _ x z (by simpa using h)
theorem setAll_within {lo hi : Nat} (ad : List (Nat × Nat)) : ∀ (l : List Int) (w : World), (∀ x ∈ ad, lo ≤ x.1 ∧ x.1 < hi) → Within lo hi w (setAll w ad l) := by
  induction ad with
  | nil => intro l w _; exact Within.refl _ _ _
  | cons a r ih => intro l w h; cases l with
    | nil => exact Within.refl _ _ _
    | cons y s =>
      have ha := h a (by simp)
      have h1 : Within lo hi w (w.setCell ⟨a.1, a.2, none⟩ (.int .i64 y)) := within_set w a.1 a.2 (.int .i64 y) ha
      exact h1.trans (ih s _ (fun x hx => h x (by simp [hx])))
theorem setAll_cell (ad : List (Nat × Nat)) : ∀ (l : List Int) (w : World) (a : Addr), (w.cell? a).isSome = true → ((setAll w ad l).cell? a).isSome = true := by
  induction ad with
  | nil => intro l w a h; exact h
  | cons x r ih => intro l w a h; cases l with
    | nil => exact h
    | cons y s => exact ih s _ a (World.isSome_setCells x.1 [.int .i64 y] x.2 w a h)
theorem setAll_frozen (ad : List (Nat × Nat)) : ∀ (l : List Int) (w : World) (a : Addr), (setAll w ad l).frozen? a = w.frozen? a := by
  induction ad with
  | nil => intro l w a; rfl
  | cons x r ih => intro l w a; cases l with
    | nil => rfl
    | cons y s => simp only [setAll]; rw [ih]; simp
/-- What the reading of so many numbers answers. -/
def IntsAns (w w' : World) (ad : List (Nat × Nat)) (x : Option (List Int × Nat)) (e : Ending) : Prop := match x with
  | some (l, q) => e = .returned (.tuple #[.int .i64 (q : Nat), .bool true]) ∧ w' = setAll w ad l ∧ l.length = ad.length
  | none => e = .returned (.tuple #[.int .i64 0, .bool false]) ∧ ∃ l : List Int, l.length ≤ ad.length ∧ w' = setAll w (ad.take l.length) l
theorem intsAns_none {w w' : World} {ad : List (Nat × Nat)} {x : Option (List Int × Nat)} (h : x = none) (l : List Int) (hl : l.length ≤ ad.length) (hw : w' = setAll w (ad.take l.length) l) : IntsAns w w' ad x (.returned (.tuple #[.int .i64 0, .bool false])) := by subst h; exact ⟨rfl, l, hl, hw⟩
theorem intsAns_some {w w' : World} {ad : List (Nat × Nat)} {x : Option (List Int × Nat)} {l : List Int} {q : Nat} (h : x = some (l, q)) (hw : w' = setAll w ad l) (hl : l.length = ad.length) : IntsAns w w' ad x (.returned (.tuple #[.int .i64 (q : Nat), .bool true])) := by subst h; exact ⟨rfl, hw, hl⟩

set_option maxHeartbeats 2000000 in
set_option maxRecDepth 100000 in
theorem readInts_any (a : Option Addr) (c : Nat) (zs : List Int) (p P cP lo hi : Nat) (ad : List (Nat × Nat)) (w : World) (hrl : ∀ u, Within lo hi w u → Reads u a zs) (hl : zs.length ≤ 70368744177664) (hcap : zs.length ≤ c) (hm : ad.length ≤ 1000)
    (tP : TypeId) (hP : Box w P (ad.map fun x => Value.pointer (some ⟨x.1, x.2, none⟩)) tP) (hPo : P < lo ∨ hi ≤ P)
    (has : ∀ x ∈ ad, (lo ≤ x.1 ∧ x.1 < hi) ∧ (w.cell? ⟨x.1, x.2, none⟩).isSome = true ∧ w.frozen? ⟨x.1, x.2, none⟩ = false) :
    Calls Tryd.prog 83 #[.slice a zs.length c, .int .i64 (p : Int), .slice (some ⟨P, 0, none⟩) ad.length cP] w fun e w' => IntsAns w w' ad (numsAt zs ad.length p) e ∧ Within lo hi w w' := by
  have HW : Hid (∀ k l, Within lo hi w (setAll w (ad.take k) l)) := fun k l => setAll_within _ l w (fun x hx => (has x (List.mem_of_mem_take hx)).1)
  have HAS : Hid (_) := has
  have HPP : Hid (∀ i u, i < ad.length → Within lo hi w u → u.cell? ⟨P, i, none⟩ = some (.pointer (some ⟨(ad.getD i (0, 0)).1, (ad.getD i (0, 0)).2, none⟩))) := fun i u hi hu => (hP.within hu (by omega)).cell i _ (by simp [List.getD, hi])
  have HRL : Hid (_) := hrl
  clear hP has hrl
  go_enter Tryd.func83, Tryd.ntmps83
  go_wp2
  go_loopw [1, 15] (fun t i wr => ∃ (k q : Nat) (l : List Int), k ≤ ad.length ∧ i = .int .i64 k ∧ t = .int .i64 q ∧ Hid (l.length = k ∧ numsAt zs ad.length p = onTo l (numsAt zs (ad.length - k) q)) ∧ wr = setAll w (ad.take k) l) (fun _ i _ => ad.length - (intOf i).toNat)
  case atStart => exact ⟨0, p, [], Nat.zero_le _, rfl, rfl, ⟨rfl, by rw [onTo_nil]; rfl⟩, by simp [setAll]⟩
  case round =>
    obtain ⟨k, q, l, hk, rfl, rfl, hln, rfl⟩ := hrel
    by_cases hlt : k < ad.length
    · have c0 := HPP.out k _ hlt (HW.out k l)
      have hrd := HRL.out _ (HW.out k l)
      have hx := HAS.out (ad.getD k (0, 0)) (by simp [List.getD, hlt])
      obtain ⟨old, hold⟩ := Option.isSome_iff_exists.1 (setAll_cell (ad.take k) l w _ hx.2.1)
      have hfz : (setAll w (ad.take k) l).frozen? ⟨(ad.getD k (0, 0)).1, (ad.getD k (0, 0)).2, none⟩ = false := by rw [setAll_frozen]; exact hx.2.2
      have HSN : Hid (∀ z, setAll w (ad.take (k + 1)) (l ++ [z]) = (setAll w (ad.take k) l).setCell ⟨(ad.getD k (0, 0)).1, (ad.getD k (0, 0)).2, none⟩ (.int .i64 z)) := fun z => by
        have e : ad.take (k + 1) = ad.take k ++ [ad.getD k (0, 0)] := by rw [List.take_add_one]; simp [List.getD, hlt]
        rw [e]
        exact setAll_snoc _ l w _ z (by rw [List.length_take, hln.out.1]; omega)
      have HRK : Hid (ad.length - k = (ad.length - (k + 1)) + 1) := by rw [Hid]; omega
      have C := implGetInt_any a c zs (q : Int) (setAll w (ad.take k) l) hrd hl hcap
      have HWk : Hid (_) := HW.out k l
      have HWE : Hid (l.length ≤ ad.length ∧ setAll w (ad.take k) l = setAll w (ad.take l.length) l) := ⟨by rw [hln.out.1]; exact hk, by rw [hln.out.1]⟩
      clear HPP HAS hx
      generalize ad.getD k (0, 0) = x at *
      cases hgt : getAt zs (q : Int) with
      | none =>
        have HX : Hid (numsAt zs ad.length p = none) := by rw [Hid, hln.out.2, HRK.out]; exact onTo_stop zs l _ q hgt
        rw [hgt] at C
        simp only [triple] at C
        generalize setAll w (ad.take k) l = wr at *
        go_wp2_with fail
        refine C.mono ?_
        rintro e u ⟨rfl, hu⟩
        rw [hu]
        clear hu u
        go_wp2
        go_ret2
        exact ⟨intsAns_none HX.out l HWE.out.1 HWE.out.2, HWk.out⟩
      | some g =>
        obtain ⟨z, q2⟩ := g
        have HX : Hid (numsAt zs ad.length p = onTo (l ++ [z]) (numsAt zs (ad.length - (k + 1)) q2)) := by rw [Hid, hln.out.2, HRK.out]; exact onTo_step zs l _ q q2 z hgt
        rw [hgt] at C
        simp only [triple] at C
        have HS := HSN.out z
        generalize setAll w (ad.take k) l = wr at *
        go_wp2_with fail
        refine C.mono ?_
        rintro e u ⟨rfl, hu⟩
        rw [hu]
        clear hu u
        go_wp2
        go_roundw
        case rel => exact ⟨k + 1, q2, l ++ [z], by omega, by go_num, rfl, ⟨by simp [hln.out.1], HX.out⟩, HS.symm⟩
        case measure => simp [intOf]; omega
    · obtain rfl : k = ad.length := by omega
      have HX : Hid (numsAt zs ad.length p = some (l, q)) := by rw [Hid, hln.out.2, Nat.sub_self]; simp [numsAt, onTo]
      have HT : Hid (ad.take ad.length = ad) := List.take_length
      rw [HT.out]
      have HWk : Hid (Within lo hi w (setAll w ad l)) := by have := HW.out ad.length l; rw [HT.out] at this; exact this
      go_wp2
      go_ret2
      exact ⟨intsAns_some HX.out rfl hln.out.1, HWk.out⟩
end Go.Proofs.YtjaojcgfgkppgaaDoor

/- The bytes of a text. -/
namespace Go.Proofs.YtjaojcgfgkppgaaDoor

def sBytes (s : ByteArray) : List Int := s.data.toList.map fun b => (b.toNat : Int)

theorem sBytes_len (s : ByteArray) : (sBytes s).length = s.size := by
  rw [sBytes, List.length_map, Array.length_toList]; rfl
theorem sBytes_byte (s : ByteArray) : ∀ z ∈ sBytes s, 0 ≤ z ∧ z < 256 := by
  intro z hz
  simp only [sBytes, List.mem_map] at hz
  obtain ⟨b, _, rfl⟩ := hz
  have := b.toNat_lt
  omega

theorem sBytes_extract (s : ByteArray) (a b : Nat) : sBytes (s.extract a b) = ((sBytes s).drop a).take (b - a) := by
  unfold sBytes
  rw [ByteArray.data_extract, Array.toList_extract, List.map_take, List.map_drop]

theorem sBytes_step (s : ByteArray) (f p : Nat) (h : f ≤ p) : (sBytes s).take f ++ sBytes (s.extract f p) = (sBytes s).take p := by
  rw [sBytes_extract, ← List.take_add, Nat.add_sub_cancel' h]

theorem sBytes_rest (s : ByteArray) (f : Nat) (h : f ≤ s.size) : (sBytes s).take f ++ sBytes (s.extract f s.size) = sBytes s := by
  rw [sBytes_step s f s.size h, List.take_of_length_le (by rw [sBytes_len]; exact Nat.le_refl _)]

end Go.Proofs.YtjaojcgfgkppgaaDoor

/- A text of bytes. -/
namespace Go.Proofs.YtjaojcgfgkppgaaDoor
open Go.RowKit

def strOf (G : List Int) : ByteArray := ⟨(G.map fun z => UInt8.ofNat z.toNat).toArray⟩

theorem run_text (w : World) (b off cap : Nat) (G : List Int) (n : Nat) (hn : n = G.length) (hr : Reads w (some ⟨b, off, none⟩) G) :
    (convert 22 9 (.slice (some ⟨b, off, none⟩) n cap)).run Tryd.prog w = .ok (.string (strOf G)) w := by
  have h := run_convert_bytes_back (P := Tryd.prog) w 22 9 5 ⟨b, off, none⟩ cap (G.map fun z => UInt8.ofNat z.toNat) Tryd.underlying22 Tryd.underlying5 Tryd.underlying9 ?_
  · rw [List.length_map] at h
    rw [hn, h]
    rfl
  · intro j hj
    rw [List.length_map] at hj
    have hne : G ≠ [] := by intro e; simp [e] at hj
    obtain ⟨b', off', hh, hc⟩ := hr.2 hne
    cases hh
    have hadd : (⟨b, off, none⟩ : Addr).add j = ⟨b, off + j, none⟩ := by unfold Addr.add; split <;> simp_all
    rw [hadd, hc j hj]
    have hb := bytes_nat hr.1 j
    have hg : G.getD j 0 = G[j] := by simp [List.getD, hj]
    rw [hg] at hb
    simp only [List.getElem_map, hg]
    have : (UInt8.ofNat G[j].toNat).toNat = G[j].toNat := by simp; omega
    rw [this, ← hb.1]

theorem run_text_own {w : World} {base : Nat} {a : Option Addr} {c : Nat} {ys : List Int} (h : OwnB w base a c ys) :
    (convert 22 9 (.slice a ys.length c)).run Tryd.prog w = .ok (.string (strOf ys)) w := by
  cases a with
  | none =>
    have hn : ys = [] := by
      by_cases e : ys = []
      · exact e
      · obtain ⟨b, off, hh, _⟩ := h.reads.2 e
        cases hh
    subst hn
    exact Lib.run_convert_nil_bytes (P := Tryd.prog) w 22 9 5 c Tryd.underlying22 Tryd.underlying5 Tryd.underlying9
  | some x =>
    rcases h.2.2 with ⟨hv, _⟩ | ⟨g, cap, cur, hv, _⟩
    · simp at hv
    · simp only [Value.slice.injEq, Option.some.injEq] at hv
      obtain ⟨rfl, _, rfl⟩ := hv
      exact run_text w g 0 c ys _ rfl h.reads

end Go.Proofs.YtjaojcgfgkppgaaDoor

/- The walks of impl.GetText and spec.GetText. -/
namespace Go.Proofs.YtjaojcgfgkppgaaDoor
open Go.RowKit

/-- What GetText answers. -/
def textOf (zs : List Int) (p : Int) : Value := match getAt zs p with
  | some r => if 0 ≤ r.1 ∧ r.1 ≤ (zs.length : Int) - (r.2 : Int) then .tuple #[.string (strOf ((zs.drop r.2).take r.1.toNat)), .int .i64 ((r.2 : Int) + r.1), .bool true] else .tuple #[.string ⟨#[]⟩, .int .i64 0, .bool false]
  | none => .tuple #[.string ⟨#[]⟩, .int .i64 0, .bool false]

set_option maxHeartbeats 400000 in
theorem implGetText_any (a : Option Addr) (c : Nat) (zs : List Int) (p : Int) (w : World) (hr : Reads w a zs) (hl : zs.length ≤ 70368744177664) (hcap : zs.length ≤ c) :
    Calls Tryd.prog 108 #[.slice a zs.length c, .int .i64 p] w fun e w' => e = .returned (textOf zs p) ∧ w' = w := by
  cases hg : getAt zs p with
  | none =>
    have HT : Hid (textOf zs p = _) := (show textOf zs p = .tuple #[.string ⟨#[]⟩, .int .i64 0, .bool false] from by unfold textOf; rw [hg])
    have HG : Hid (_ = _) := hg
    clear hg
    go_enter Tryd.func108, Tryd.ntmps108
    go_wp2_with fail
    refine (implGetInt_any a c zs p w hr hl hcap).mono ?_
    rintro e w' ⟨rfl, rfl⟩
    rw [HG.out]
    simp only [triple]
    go_wp2
    go_ret3
    exact ⟨by rw [HT.out]; rfl, rfl⟩
  | some r =>
    obtain ⟨n, k⟩ := r
    obtain ⟨hk, hn1, hn2⟩ := getAt_bd zs p n k hg
    have HG : Hid (_ = _) := hg
    by_cases h0 : n < 0
    · have HT : Hid (textOf zs p = _) := (show textOf zs p = .tuple #[.string ⟨#[]⟩, .int .i64 0, .bool false] from by unfold textOf; rw [hg]; simp only; rw [if_neg (by omega)])
      clear hg
      go_enter Tryd.func108, Tryd.ntmps108
      go_wp2_with fail
      refine (implGetInt_any a c zs p w hr hl hcap).mono ?_
      rintro e w' ⟨rfl, rfl⟩
      rw [HG.out]
      simp only [triple]
      go_wp2
      go_ret3
      exact ⟨by rw [HT.out]; rfl, rfl⟩
    obtain ⟨m, rfl⟩ := Int.eq_ofNat_of_zero_le (show 0 ≤ n from by omega)
    by_cases h1 : (zs.length : Int) - (k : Int) < (m : Int)
    · have HT : Hid (textOf zs p = _) := (show textOf zs p = .tuple #[.string ⟨#[]⟩, .int .i64 0, .bool false] from by unfold textOf; rw [hg]; simp only; rw [if_neg (by omega)])
      clear hg
      go_enter Tryd.func108, Tryd.ntmps108
      go_wp2_with fail
      refine (implGetInt_any a c zs p w hr hl hcap).mono ?_
      rintro e w' ⟨rfl, rfl⟩
      rw [HG.out]
      simp only [triple]
      go_wp2
      go_ret3
      exact ⟨by rw [HT.out]; rfl, rfl⟩
    have HT : Hid (textOf zs p = _) := (show textOf zs p = .tuple #[.string (strOf ((zs.drop k).take m)), .int .i64 ((k : Int) + (m : Int)), .bool true] from by unfold textOf; rw [hg]; simp only; rw [if_pos (by omega), Int.toNat_natCast])
    rcases hr.cases with rfl | ⟨b, off, rfl, hpos, hcell⟩
    · simp [getAt, getOf, lead] at hg
    have hrp := reads_part hr.byte hcell k m (by omega)
    have hml : ((zs.drop k).take m).length = m := by simp; omega
    clear hg hcell
    generalize (zs.drop k).take m = G at *
    have HML : Hid (G.length = m) := hml
    clear hml
    by_cases hck : c = k
    · have hm0 : m ≤ 0 := by omega
      have hG : G = [] := by have := HML.out; exact List.length_eq_zero_iff.1 (by omega)
      have HGE : Hid (strOf G = strOf []) := by rw [hG]; rfl
      have hcA : ∀ cap, (convert 22 9 (.slice (some ⟨b, off, none⟩) (k + m - k) cap)).run Tryd.prog w = .ok (.string (strOf [])) w := fun cap => run_text w b off cap [] _ (by simp; omega) ⟨by simp, by simp⟩
      have hcB : ∀ cap, (convert 22 9 (.slice (some ⟨b, off, none⟩) m cap)).run Tryd.prog w = .ok (.string (strOf [])) w := fun cap => run_text w b off cap [] _ (by simp; omega) ⟨by simp, by simp⟩
      clear hG hrp
      subst hck
      go_enter Tryd.func108, Tryd.ntmps108
      go_wp2_with fail
      refine (implGetInt_any (some ⟨b, off, none⟩) c zs p w hr hl hcap).mono ?_
      rintro e w' ⟨rfl, rfl⟩
      rw [HG.out]
      simp only [triple]
      go_wp2
      go_ret3
      exact ⟨by rw [HT.out, HGE.out]; rfl, rfl⟩
    · have hcA : ∀ cap, (convert 22 9 (.slice (some ⟨b, off + k, none⟩) (k + m - k) cap)).run Tryd.prog w = .ok (.string (strOf G)) w := fun cap => run_text w b (off + k) cap G _ (by have := HML.out; omega) hrp
      have hcB : ∀ cap, (convert 22 9 (.slice (some ⟨b, off + k, none⟩) m cap)).run Tryd.prog w = .ok (.string (strOf G)) w := fun cap => run_text w b (off + k) cap G _ HML.out.symm hrp
      clear hrp
      go_enter Tryd.func108, Tryd.ntmps108
      go_wp2_with fail
      refine (implGetInt_any (some ⟨b, off, none⟩) c zs p w hr hl hcap).mono ?_
      rintro e w' ⟨rfl, rfl⟩
      rw [HG.out]
      simp only [triple]
      go_wp2
      go_ret3
      exact ⟨by rw [HT.out]; rfl, rfl⟩
end Go.Proofs.YtjaojcgfgkppgaaDoor

/- The walk of impl.PutInt. -/
namespace Go.Proofs.YtjaojcgfgkppgaaDoor
open Go.RowKit

end Go.Proofs.YtjaojcgfgkppgaaDoor

/- The walk of spec.l2Same. -/
namespace Go.Proofs.YtjaojcgfgkppgaaDoor
open Go.RowKit

end Go.Proofs.YtjaojcgfgkppgaaDoor

/- The walk of spec.GetObj. -/
namespace Go.Proofs.YtjaojcgfgkppgaaDoor
open Go.RowKit

end Go.Proofs.YtjaojcgfgkppgaaDoor

/- The walk of spec.l3NextSlot. -/
namespace Go.Proofs.YtjaojcgfgkppgaaDoor
open Go.RowKit

theorem nextSlot_bad {zs : List Int} {s : Int × Bool} {n : Int} {st : Int × Bool} (h : nextOf zs s = (n, st)) (hb : st.2 = true ∨ n = 0) : nextSlotOf zs s = (noS, st) := by unfold nextSlotOf; rw [h]; simp only; rw [if_pos hb]
theorem nextSlot_out {zs : List Int} {s : Int × Bool} {n p : Int} (h : nextOf zs s = (n, (p, false))) (h0 : ¬ n = 0) (hb : n < 0 ∨ (zs.length : Int) - p < n) : nextSlotOf zs s = (noS, (p, true)) := by
  unfold nextSlotOf; rw [h]; simp only; rw [if_neg (by simp [h0]), if_pos hb]
theorem nextSlot_in {zs : List Int} {s : Int × Bool} {m p : Nat} (h : nextOf zs s = ((m : Int), ((p : Int), false))) (h0 : 0 < m) (hb : p + m ≤ zs.length) :
    nextSlotOf zs s = (⟨true, (getPair ((zs.drop p).take m)).1⟩, ((p : Int) + (m : Int), !(getPair ((zs.drop p).take m)).2)) := by
  unfold nextSlotOf; rw [h]; simp only [Int.toNat_natCast]; rw [if_neg (by simp; omega), if_neg (by omega)]
theorem next_place {zs : List Int} {s : Int × Bool} {n p : Int} (h : nextOf zs s = (n, (p, false))) : ∃ k : Nat, p = (k : Int) ∧ k ≤ zs.length := by
  unfold nextOf at h
  split at h
  · rename_i x r h1 h2
    simp only [Prod.mk.injEq] at h
    exact ⟨r.2, h.2.1.symm, (getAt_bd zs s.1 r.1 r.2 h2).1⟩
  · simp only [Prod.mk.injEq] at h
    exact absurd h.2.2 (by simp)
theorem reads_within {w w' : World} {a : Option Addr} {zs : List Int} {B : Nat} (hr : Reads w a zs) (hw : Within B (B + 1) w w') (hB : zs ≠ [] → ∀ b off, a = some ⟨b, off, none⟩ → b ≠ B) : Reads w' a zs := by
  refine ⟨hr.1, fun hne => ?_⟩
  obtain ⟨b, off, ha, hc⟩ := hr.2 hne
  refine ⟨b, off, ha, fun i hi => ?_⟩
  have hlt := block_lt (hc i hi)
  have hb := hB hne b off ha
  have := World.cell?_of_block (w := w) (w' := w') (a := ⟨b, off + i, none⟩) (hw.block b hlt (by omega))
  rw [this]
  exact hc i hi
theorem own_zero (w : World) (lo hi : Nat) (h : hi ≤ w.heap.size) : zeroS.own w lo hi := ⟨ownI_nil _ _ _ h, ownI_nil _ _ _ h, fun k hk => by cases hk⟩

end Go.Proofs.YtjaojcgfgkppgaaDoor
