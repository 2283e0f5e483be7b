/- Several texts in one, in their order. -/
import Derived.Test.YtbpdocjkhmiimabGreatDoorPReadLogx14
import Derived.Test.YtbpdocjkhmiimabGreatDoorPReadLogx12
import Derived.Deep.QuietTactic
import Derived.BigQuiet
import Derived.WalkSmall
import Derived.Test.YtbpdocjkhmiimabGreatDoorPReadLogx1
import Derived.Laws.CopyOwn
import Derived.Test.YtbpdocjkhmiimabGreatDoorPReadLogx3
import Derived.Deep.RegionHeld3
/- The walk of impl.readSum. -/
namespace Go.Proofs.YtbpdocjkhmiimabGreatDoor
open Go.RowKit

theorem shl8_go (c j : Nat) (hc : c < 256) (hj : j < 4) : wrap64 ((c : Int) * 2 ^ (8 * j)) = ((c * 256 ^ j : Nat) : Int) ∧ c * 256 ^ j ≤ 4294967296 := by
  have e7 : (256 : Nat) ^ j = 2 ^ (8 * j) := by rw [Nat.pow_mul]
  have hp : (256 : Nat) ^ j ≤ 256 ^ 3 := Nat.pow_le_pow_right (by omega) (by omega)
  have h5 : (256 : Nat) ^ 3 = 16777216 := by decide
  have hb : c * 256 ^ j ≤ 255 * 16777216 := Nat.mul_le_mul (by omega) (by omega)
  have e : ((c : Int) * 2 ^ (8 * j)) = ((c * 256 ^ j : Nat) : Int) := by
    rw [e7]; simp
  rw [e]
  constructor
  · unfold wrap64; omega
  · omega

theorem sumTo_le (zs : List Int) (hb : ∀ z ∈ zs, 0 ≤ z ∧ z < 256) (k : Nat) (hk : k ≤ 4) : sumTo zs k < 4294967296 := by
  have h1 := sumTo_lt zs hb k
  have h2 : (256 : Nat) ^ k ≤ 256 ^ 4 := Nat.pow_le_pow_right (by omega) hk
  have h3 : (256 : Nat) ^ 4 = 4294967296 := by decide
  omega

set_option maxHeartbeats 400000 in
theorem readSum_any (a : Option Addr) (c : Nat) (zs : List Int) (w : World) (hr : Reads w a zs) (hl : 4 ≤ zs.length) (hl2 : zs.length ≤ 70368744177664) :
    Calls Tryz.prog 121 #[.slice a zs.length c] w fun e w' => e = .returned (.int .i64 (sumTo zs 4 : Nat)) ∧ w' = w := by
  have hby := hr.byte
  rcases hr.cases with rfl | ⟨b, off, rfl, hpos, hcell⟩
  · simp at hl
  go_enter Tryz.func121, Tryz.ntmps121
  go_wp2
  go_loop [3, 5] (fun m i => ∃ k : Nat, k ≤ 4 ∧ i = .int .i64 k ∧ m = .int .i64 (sumTo zs k : Nat)) (fun _ i => 4 - (intOf i).toNat)
  case atStart => exact ⟨0, by omega, rfl, rfl⟩
  case round =>
    obtain ⟨k, hk, rfl, rfl⟩ := hrel
    have hm := sumTo_le zs hby k hk
    by_cases hlt : k < 4
    · have hck := hcell k (by omega)
      obtain ⟨hkn, hkn2⟩ := bytes_nat hby k
      have HV : Hid (sumTo zs (k + 1) = sumTo zs k + (zs.getD k 0).toNat * 256 ^ k) := rfl
      rw [hkn] at hck
      clear hkn hcell hby
      generalize (zs.getD k 0).toNat = cc at *
      obtain ⟨hsh, hshl⟩ := shl8_go cc k hkn2 hlt
      generalize cc * 256 ^ k = t at *
      generalize sumTo zs k = m at *
      go_wp2
      go_round
      case rel => exact ⟨k + 1, by omega, by go_num, by rw [HV.out]; go_num⟩
      case measure => simp [intOf]; omega
    · have HE : Hid (sumTo zs k = sumTo zs 4) := by rw [Hid, show k = 4 from by omega]
      generalize sumTo zs k = m at *
      go_wp2
      go_ret
      exact ⟨ret_int (by rw [HE.out]), rfl⟩
end Go.Proofs.YtbpdocjkhmiimabGreatDoor

/- The walk of impl.Unframe. -/
namespace Go.Proofs.YtbpdocjkhmiimabGreatDoor
open Go.RowKit

theorem unf_ret {a' : Option Addr} {c' : Nat} {ys : List Int} {q code : Int} {r : List Int × Int × Int} (h : (ys, q, code) = r) :
    Ending.returned (.tuple #[.slice a' ys.length c', .int .i64 q, .int .i64 code]) = .returned (unfVal a' c' r) := by subst h; rfl

theorem Option_map_none {α β : Type} {f : α → β} {a : Option α} (h : a.map f = none) : a = none := by cases a <;> simp_all

set_option maxHeartbeats 1000000 in
set_option maxRecDepth 100000 in
theorem implUnframe_any (a : Option Addr) (c : Nat) (zs : List Int) (p : Int) (w : World) (hr : Reads w a zs) (hl : zs.length ≤ 70368744100000) (hcap : zs.length ≤ c) :
    Calls Tryz.prog 90 #[.slice a zs.length c, .int .i64 p] w fun e w' => ∃ a' c' ys q code, e = .returned (.tuple #[.slice a' ys.length c', .int .i64 q, .int .i64 code]) ∧ Hid (unfOf zs p = (ys, q, code)) ∧ OwnB w' w.heap.size a' c' ys ∧ Below w.heap.size w w' := by
  cases hg : getAt zs p with
  | none =>
    have HS : Hid (scanOf zs p = _) := scan_none zs p hg _ rfl
    have hw : (scanWhy zs p == 0) = false := by unfold scanWhy; split <;> rfl
    have HU : Hid (_ = _) := unf_none zs p hg
    clear hg
    generalize scanWhy zs p = y at *
    go_enter Tryz.func90, Tryz.ntmps90
    go_wp2_with fail
    refine (scanInt_any a c zs p w hr (by omega) hcap).mono ?_
    rintro e w' ⟨rfl, rfl⟩
    rw [HS.out]
    go_wp2
    go_ret3
    exact ⟨none, 0, [], p, y, rfl, HU, own_none _ _, Below.refl _ _⟩
  | some r =>
    obtain ⟨n, k⟩ := r
    obtain ⟨hk, hn1, hn2⟩ := getAt_bd zs p n k hg
    have HS : Hid (scanOf zs p = _) := (show scanOf zs p = scanOk (n, k) from by unfold scanOf; rw [hg])
    simp only [scanOk] at HS
    by_cases h0 : n < 0
    · have HU : Hid (_ = _) := unf_neg zs p n k hg h0
      clear hg
      go_enter Tryz.func90, Tryz.ntmps90
      go_wp2_with fail
      refine (scanInt_any a c zs p w hr (by omega) hcap).mono ?_
      rintro e w' ⟨rfl, rfl⟩
      rw [HS.out]
      go_wp2
      go_ret3
      exact ⟨none, 0, [], p, 3, rfl, HU, own_none _ _, Below.refl _ _⟩
    obtain ⟨m, rfl⟩ := Int.eq_ofNat_of_zero_le (show 0 ≤ n from by omega)
    by_cases h1 : (zs.length : Int) - (k : Int) < (m : Int) + 4
    · have HU : Hid (_ = _) := unf_end zs p m k hg h1
      clear hg
      go_enter Tryz.func90, Tryz.ntmps90
      go_wp2_with fail
      refine (scanInt_any a c zs p w hr (by omega) hcap).mono ?_
      rintro e w' ⟨rfl, rfl⟩
      rw [HS.out]
      go_wp2
      go_ret3
      exact ⟨none, 0, [], p, 1, rfl, HU, own_none _ _, Below.refl _ _⟩
    have hlen : k + m + 4 ≤ zs.length := by omega
    have hrB := reads_slice hr k m (by omega)
    have hrS : Reads w (a.map fun x => x.add (k + m)) (zs.drop (k + m)) := by
      have := reads_slice hr (k + m) (zs.length - (k + m)) (by omega)
      rwa [List.take_of_length_le (by simp)] at this
    have hlS : (zs.drop (k + m)).length = zs.length - (k + m) := List.length_drop
    have hlB : ((zs.drop k).take m).length = m := by simp; omega
    have hcS := fun c' w' (hh : Reads w' (a.map fun x => x.add (k + m)) (zs.drop (k + m))) => readSum_any (a.map fun x => x.add (k + m)) c' (zs.drop (k + m)) w' hh (by omega) (by omega)
    rw [hlS] at hcS
    have hcB := fun c' w' (hh : Reads w' (a.map fun x => x.add k) ((zs.drop k).take m)) => implCrc_any (a.map fun x => x.add k) c' ((zs.drop k).take m) w' hh (by omega)
    rw [hlB] at hcB
    have hcl := crcOf_lt _ hrB.byte
    have hsl := sumTo_le _ hrS.byte 4 (by omega)
    have HIF : Hid (_ ↔ _) := sum_iff (zs.drop (k + m)) hrS.byte (by omega) _ hcl
    have HUS : Hid (_ → _) := unf_sum zs p m k hg h1
    have HUG : Hid (_ → _) := unf_good zs p m k hg h1
    have hne : a = none → False := by
      intro e
      subst e
      rcases hr.cases with h | ⟨b, off, h, _⟩
      · rw [h] at hlen; simp at hlen
      · cases h
    have HNE : Hid (a = none → False) := hne
    clear hg hne
    by_cases hs : sumTo (zs.drop (k + m)) 4 = crcOf ((zs.drop k).take m)
    · have HU : Hid (_ = _) := HUG.out (HIF.out.1 hs)
      rw [hs] at hcS
      generalize crcOf ((zs.drop k).take m) = x at *
      have HLB : Hid (m = ((zs.drop k).take m).length) := hlB.symm
      clear hs HUS HUG HIF hlS hlB
      generalize (zs.drop k).take m = G at *
      generalize zs.drop (k + m) = S at *
      go_enter Tryz.func90, Tryz.ntmps90
      go_wp2_with fail
      refine (scanInt_any a c zs p w hr (by omega) hcap).mono ?_
      rintro e w' ⟨rfl, rfl⟩
      rw [HS.out]
      go_wp2_with fail
      have hck : (k : Int) < (c : Int) := by omega
      have hck2 : (k : Int) + (m : Int) < (c : Int) := by omega
      have hrSd : ∀ n, Reads (w'.drewN n) (a.map fun x => x.add (k + m)) S := fun n => hrS.below (below_drewN (Below.refl _ _) n)
      have hrBd : ∀ n, Reads (w'.drewN n) (a.map fun x => x.add k) G := fun n => hrB.below (below_drewN (Below.refl _ _) n)
      go_quiet (first | (go_at_call 121; refine Calls.quiet_of_same (hcS _ _ (hrSd _))) | (go_at_call 58; refine Calls.quiet_of_same (hcB _ _ (hrBd _))))
      have hrG := (hrBd nq).alloc (.cells #[] 5)
      have HNC : Hid ((a.map fun x => x.add k) = none → c - k = 0) := fun h => (HNE.out (Option_map_none h)).elim
      have HSZ : Hid ((w'.drewN nq).heap.size = w'.heap.size) := rfl
      clear hrSd hrBd hrS hrB hcS hcB
      go_wp2_with (at_builtin; refine append_bytes rfl _ _ rfl (w'.drewN nq).heap.size (some ⟨(w'.drewN nq).heap.size, 0, none⟩) 0 [] rfl (own_lit0 _) (a.map fun x => x.add k) (c - k) G (by show Value.slice _ _ _ = Value.slice _ _ _; congr 1; have := HLB.out; omega) hrG HNC.out (by have := HLB.out; simp; omega) (by simp) ?_; intro a2 c2 y2 w2 hy2 ho2 hg2)
      go_wp2
      go_ret3
      exact ⟨a2, c2, y2, (k : Int) + (m : Int) + 4, 0, rfl, by rw [Hid, HU.out, hy2.out]; simp, ho2, ((below_drewN (Below.refl _ _) nq).alloc (Nat.le_refl _) _).grown hg2 (by simp) (fun j hj => (own_lit0 (w'.drewN nq)).2.lt j hj |>.1)⟩
    · have HU : Hid (_ = _) := HUS.out (fun h => hs (HIF.out.2 h))
      have hs' : ((sumTo (zs.drop (k + m)) 4 : Nat) : Int) ≠ (crcOf ((zs.drop k).take m) : Nat) := by omega
      have hsd : (((sumTo (zs.drop (k + m)) 4 : Nat) : Int) == (crcOf ((zs.drop k).take m) : Nat)) = false := by simpa using hs'
      clear hs hs'
      generalize crcOf ((zs.drop k).take m) = x at *
      generalize sumTo (zs.drop (k + m)) 4 = y at *
      clear HUS HUG HIF hlS hlB
      generalize (zs.drop k).take m = G at *
      generalize zs.drop (k + m) = S at *
      go_enter Tryz.func90, Tryz.ntmps90
      go_wp2_with fail
      refine (scanInt_any a c zs p w hr (by omega) hcap).mono ?_
      rintro e w' ⟨rfl, rfl⟩
      rw [HS.out]
      go_wp2_with fail
      have hck : (k : Int) < (c : Int) := by omega
      have hck2 : (k : Int) + (m : Int) < (c : Int) := by omega
      have hrSd : ∀ n, Reads (w'.drewN n) (a.map fun x => x.add (k + m)) S := fun n => hrS.below (below_drewN (Below.refl _ _) n)
      have hrBd : ∀ n, Reads (w'.drewN n) (a.map fun x => x.add k) G := fun n => hrB.below (below_drewN (Below.refl _ _) n)
      go_quiet (first | (go_at_call 121; refine Calls.quiet_of_same (hcS _ _ (hrSd _))) | (go_at_call 58; refine Calls.quiet_of_same (hcB _ _ (hrBd _))))
      go_wp2
      go_ret3
      exact ⟨none, 0, [], p, 2, rfl, HU, own_none _ _, below_drewN (Below.refl _ _) nq⟩
end Go.Proofs.YtbpdocjkhmiimabGreatDoor

/- The walk of impl.copyInts. -/
namespace Go.Proofs.YtbpdocjkhmiimabGreatDoor
open Go.RowKit

set_option maxHeartbeats 400000 in
set_option maxRecDepth 100000 in
theorem copyInts_any (a : Option Addr) (cap : Nat) (zs : List Int) (w : World) (hr : ReadsI w a zs) (hl : zs.length ≤ 1099511627776) :
    Calls Tryz.prog 112 #[.slice a zs.length cap] w fun e w' => ∃ a' c', e = .returned (.slice a' zs.length c') ∧ OwnI w' w.heap.size w'.heap.size a' c' zs ∧ Below w.heap.size w w' := by
  obtain ⟨i0, hi, hz0, hz1, hz2⟩ := info_parts Tryz.infoInt
  rcases hr.cases with rfl | ⟨b, off, rfl, hpos, hcell⟩
  · go_enter Tryz.func112, Tryz.ntmps112
    go_wp2
    go_ret
    exact ⟨none, 0, rfl, ownI_nil _ _ _ (Nat.le_refl _), Below.refl _ _⟩
  · have hnz : ((zs.length : Int) == 0) = false := by simp; intro e; simp [e] at hpos
    have hsz : (Tryz.prog.info? 3).map (·.size) = some 1 := by kernel_rfl
    go_enter Tryz.func112, Tryz.ntmps112
    go_wp2_with (at_make; refine wpList_make_full _ rfl _ _ 52 rfl w.heap.size 3 i0 (.int .i64 0) 1 Tryz.underlying52 hi hz0 hz1 _ _ _ _ zs.length rfl rfl rfl rfl (by rw [hz2]; omega) (by simp [maxLen]; omega) (Nat.le_refl _) ?_)
    intro w0 hown0 hgrow0
    have hb0 : Below w.heap.size w w0 := (Below.refl _ _).grown hgrow0 (Nat.le_refl _) (fun k h => by cases h)
    obtain ⟨hlen, hcase⟩ := hown0
    rcases hcase with ⟨hv, _⟩ | ⟨g, cap', cur, hv, hg, hgg, hn, hm, hcs, htk⟩
    · cases hv
    simp only [Value.slice.injEq, Option.some.injEq, Addr.mk.injEq, and_true, true_and] at hv
    obtain ⟨rfl, rfl⟩ := hv
    have hcl : cur.toList.length = zs.length := by rw [Array.length_toList, hcs]; omega
    have HC : Hid (0 < (zs.map (Value.int .i64)).length → some (⟨w.heap.size, 0, none⟩ : Addr) = some ⟨w.heap.size, 0, none⟩ ∧ ∃ ad : Addr, some (⟨b, off, none⟩ : Addr) = some ad ∧ ∀ j v, (zs.map (Value.int .i64))[j]? = some v → w0.cell? (ad.add j) = some v) := by
      intro _
      refine ⟨rfl, _, rfl, fun j v hv => ?_⟩
      rw [List.getElem?_map] at hv
      cases hzj : zs[j]? with
      | none => rw [hzj] at hv; cases hv
      | some z =>
        rw [hzj] at hv
        simp only [Option.map_some, Option.some.injEq] at hv
        have hj : j < zs.length := (List.getElem?_eq_some_iff.1 hzj).1
        have hc := hcell j hj
        have hadd : (⟨b, off, none⟩ : Addr).add j = ⟨b, off + j, none⟩ := by unfold Addr.add; split <;> simp_all
        rw [hadd, hb0.cell (block_lt hc), hc, ← hv]
        simp [List.getD, hzj]
    have HG : Hid (w0.heap[w.heap.size]? = some (.cells cur.toList.toArray 3 (0, 0))) := by rw [Hid, hgg]
    have HN : Hid ((zs.map (Value.int .i64)).length = Nat.min zs.length zs.length) := by rw [Hid, List.length_map]; exact (Nat.min_self _).symm
    have HFt : Hid (0 + (zs.map (Value.int .i64)).length ≤ cur.toList.length) := by rw [Hid, List.length_map, hcl]; omega
    have H1 : Hid (∀ v ∈ zs.map (Value.int .i64), v.oneCell' = true) := fun v hv => by obtain ⟨z, _, rfl⟩ := List.mem_map.1 hv; rfl
    have HSP : Hid (splice cur.toList 0 (zs.map (Value.int .i64)) = zs.map (Value.int .i64)) := by
      unfold Hid splice
      rw [List.take_zero, List.nil_append, Nat.zero_add, List.drop_eq_nil_of_le (by rw [hcl, List.length_map]; exact Nat.le_refl _), List.append_nil]
    clear hlen htk hcs hgg hgrow0 hcell hn hm
    have key : ∀ {ops : Array Oper} {rest : List Oper} {o : Oper} {act : Act} {Q : Exit → Act → World → Prop}, o.guard = none → o.op = .call { callee := .builtin .copy, args := #[.tmp 10, .tmp 11], argTypes := #[52, 52] } → act.eval (.tmp 10) = .slice (some ⟨w.heap.size, 0, none⟩) zs.length zs.length → act.eval (.tmp 11) = .slice (some ⟨b, off, none⟩) zs.length cap → (∀ w1, OwnI w1 w.heap.size w1.heap.size (some ⟨w.heap.size, 0, none⟩) zs.length zs → Below w.heap.size w w1 → wpList Tryz.prog ops Q rest (act.put o.dst (goInt (zs.map (Value.int .i64)).length)) w1) → wpList Tryz.prog ops Q (o :: rest) act w0 := by
      intro ops rest o act Q h1 h2 h3 h4 h5
      refine wpList_copy_splice h1 (.tmp 10) (.tmp 11) 52 52 h2 3 Tryz.underlying52 hsz _ _ zs.length zs.length zs.length cap h3 h4 w.heap.size 0 cur.toList 3 HG.out (zs.map (Value.int .i64)) HN.out HC.out HFt.out H1.out w.heap.size w hb0 (Nat.le_refl _) ?_
      intro w1 hrow hb1
      refine h5 w1 ?_ hb1
      have h := hrow.out
      rw [HSP.out] at h
      refine ⟨⟨by simp, .inr ⟨w.heap.size, zs.length, _, rfl, Nat.le_refl _, h, Nat.le_refl _, by simp [maxLen]; omega, by simp, by simp; exact List.take_of_length_le (by simp)⟩⟩, Nat.le_refl _, fun k hk => ?_⟩
      cases hk
      exact (Array.getElem?_eq_some_iff.1 h).1
    have KEY : Hid _ := @key
    clear key HG HN HFt H1 HSP HC hcl
    go_wp2_with (guard_target = wpList _ _ _ (Oper.mk (some 12) _ _ _ _ _ :: _) _ _; refine KEY.out rfl rfl rfl rfl ?_; intro w1 HO hb1)
    go_ret
    exact ⟨_, _, rfl, HO, hb1⟩
end Go.Proofs.YtbpdocjkhmiimabGreatDoor

/- The walk of impl.copySlot. -/
namespace Go.Proofs.YtbpdocjkhmiimabGreatDoor
open Go.RowKit

set_option maxHeartbeats 4000000 in
set_option maxRecDepth 100000 in
theorem copySlot_own (s : SlotA) (w : World) (hr : s.reads w) (hlI : s.v.o.ints.length ≤ 1099511627776) (hlR : s.v.o.refs.length ≤ 1099511627776) :
    Calls Tryz.prog 80 #[.agg s.cells.toArray] w fun e w' => ∃ t : SlotA, e = .returned (.agg t.cells.toArray) ∧ Hid (t.v = s.v) ∧ t.own w' w.heap.size w'.heap.size ∧ Below w.heap.size w w' := by
  obtain ⟨⟨h, ⟨k, ints, refs⟩⟩, aI, cI, aR, cR⟩ := s
  simp only [SlotA.cells, SlotA.reads, SlotA.own] at *
  obtain ⟨hI, hR, _, _⟩ := hr
  simp only at hI hR
  obtain ⟨W, hW, b0, b1, hbW, hsW⟩ := boxes2 w [.bool h, .int .i64 k, .slice aI ints.length cI, .slice aR refs.length cR] [.bool false, .int .i64 0, .slice none 0 0, .slice none 0 0] 56 56
  have hI' := hI.below hbW
  have hR' := hR.below hbW
  have hwW : w.heap.size + 1 < W.heap.size := by omega
  clear hsW hI hR
  have HC : Hid (∀ w'', Below W.heap.size W w'' → w''.cell? ⟨w.heap.size, 0, none⟩ = some (.bool h) ∧ w''.cell? ⟨w.heap.size, 1, none⟩ = some (.int .i64 k) ∧ w''.cell? ⟨w.heap.size, 2, none⟩ = some (.slice aI ints.length cI) ∧ w''.cell? ⟨w.heap.size, 3, none⟩ = some (.slice aR refs.length cR)) := by
    intro w'' hh
    have ba := b0.below hh b0.lt
    exact ⟨ba.cell 0 _ rfl, ba.cell 1 _ rfl, ba.cell 2 _ rfl, ba.cell 3 _ rfl⟩
  have HB : Hid (∀ w'', Below W.heap.size W w'' → Box w'' w.heap.size [.bool h, .int .i64 k, .slice aI ints.length cI, .slice aR refs.length cR] 56 ∧ Box w'' (w.heap.size + 1) [.bool false, .int .i64 0, .slice none 0 0, .slice none 0 0] 56) := fun w'' hh => ⟨b0.below hh b0.lt, b1.below hh b1.lt⟩
  have hh := HC.out W (Below.refl _ _)
  have hne : ¬ (w.heap.size = w.heap.size + 1) := by omega
  clear b0 b1
  go_enter Tryz.func80, Tryz.ntmps80
  go_wp2_with fail
  rw [hW.out]
  clear hW
  go_region_held3 (fun w'' => w''.cell? ⟨w.heap.size, 0, none⟩ = some (.bool h) ∧ w''.cell? ⟨w.heap.size, 1, none⟩ = some (.int .i64 k) ∧ w''.cell? ⟨w.heap.size, 2, none⟩ = some (.slice aI ints.length cI) ∧ w''.cell? ⟨w.heap.size, 3, none⟩ = some (.slice aR refs.length cR))
    (first | exact HC.out _ hB2 | exact HC.out _ hB1 | exact HC.out _ (Below.refl _ _).drew | exact ⟨(((((HB.out _ (by first | exact hBL | fail)).1.other hne).other hne).other hne).other hne).cell 0 _ rfl, (((((HB.out _ (by first | exact hBL | fail)).1.other hne).other hne).other hne).other hne).cell 1 _ rfl, (((((HB.out _ (by first | exact hBL | fail)).1.other hne).other hne).other hne).other hne).cell 2 _ rfl, (((((HB.out _ (by first | exact hBL | fail)).1.other hne).other hne).other hne).other hne).cell 3 _ rfl⟩ | go_keep | fail)
    (first
    | (go_at_call_of 112 (Value.slice aI ints.length cI); refine (copyInts_any aI cI ints _ (hI'.below (by first | exact hB2 | exact (Below.refl _ _).drew | fail)) hlI).mono ?_; rintro e u1 ⟨a1, c1, rfl, ho1, hb1⟩; have hB1 : Below W.heap.size W u1 := (by first | exact hB2.trans (hb1.mono hB2.size) | exact ((Below.refl _ _).drew).trans hb1 | fail); have hBL := hB1; obtain ⟨m0, m1, m2, m3, e0, e1, e2, e3⟩ := (HB.out _ hB1).2.four)
    | (go_at_call_of 112 (Value.slice aR refs.length cR); refine (copyInts_any aR cR refs _ (hR'.below (by first | exact hB1 | exact (Below.refl _ _).drew | fail)) hlR).mono ?_; rintro e u2 ⟨a2, c2, rfl, ho2, hb2⟩; have hB2 : Below W.heap.size W u2 := (by first | exact hB1.trans (hb2.mono hB1.size) | exact ((Below.refl _ _).drew).trans hb2 | fail); have hBL := hB2; obtain ⟨n0, n1, n2, n3, f0, f1, f2, f3⟩ := (HB.out _ hB2).2.four)
    | fail)
  obtain ⟨WF, hWF, bF, hwF, hsF⟩ := box4_fill (HB.out _ hB2).2 (.bool h) (.int .i64 k) (.slice a1 ints.length c1) (.slice a2 refs.length c2)
  have ho1' : OwnI u1 W.heap.size u1.heap.size a1 c1 ints := ho1
  have hsu1 : W.heap.size ≤ u1.heap.size := hB1.size
  have hsu2 := hb2.size
  have hO : OwnO u2 W.heap.size u2.heap.size a1 c1 a2 c2 ⟨k, ints, refs⟩ := ⟨(ho1'.below hb2).widen (Nat.le_refl _) hsu2 (Nat.le_refl _), ho2.widen hsu1 (Nat.le_refl _) (Nat.le_refl _), fun j hj hj' => by have h1 := (ho1'.lt j hj).2; have h2 := (ho2.lt j hj').1; omega⟩
  have hOF : OwnO WF W.heap.size u2.heap.size a1 c1 a2 c2 ⟨k, ints, refs⟩ := hO.within hwF (.inr (by omega))
  have HBF : Hid (Below w.heap.size w WF) := (hbW.trans (hB2.mono (by omega))).trans (hwF.below (by omega) (by omega))
  rw [hWF.out]
  clear hwF ho1 ho2 ho1' hO
  go_wp2
  obtain ⟨q0, q1, q2, q3, _⟩ := bF.four
  exact bodyPost_ret (v := .agg #[.bool h, .int .i64 k, .slice a1 ints.length c1, .slice a2 refs.length c2]) (by simp [results, Tryz.results80, go_sem, q0, q1, q2, q3]) rfl ⟨⟨⟨h, ⟨k, ints, refs⟩⟩, a1, c1, a2, c2⟩, rfl, rfl, hOF.widen (by omega) (by omega) (Nat.le_refl _), HBF.out⟩
end Go.Proofs.YtbpdocjkhmiimabGreatDoor
