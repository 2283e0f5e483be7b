/- Several texts in one, in their order. -/
import Derived.Test.YtajcffchopcamaaDoorPParsePathx10
import Derived.Test.YtajcffchopcamaaDoorPParsePathx23
import Derived.Test.YtajcffchopcamaaDoorPParsePathx28
import Derived.Test.YtajcffchopcamaaDoorRows
import Derived.Test.YtajcffchopcamaaDoorPParsePathx27
import Derived.LaidLaws
import Derived.LaidHandle
import Derived.Stop.Joined
import Derived.ChangeVars
import Derived.Lay
import Derived.Shelf.Vars
/- A path marked, and the marks looked at. -/
namespace Go.Proofs.YtajcffchopcamaaDoor
open Go.RowKit

set_option maxHeartbeats 400000 in
theorem markPath_touch (x : Int) (T : List StepV) (a : Option Addr) (c : Nat) (lo hi : Nat) (k0 : Int) (w : World) (ho : OwnPh w lo hi a c T) (h0 : 0 ≤ k0) (hl : k0 + 2 * T.length ≤ 4611686018427387904) :
    Calls Tryd.prog 12 #[.agg #[.int .i64 x, .slice a T.length c], .int .i64 k0] w fun e w' => e = .returned (.int .i64 (k0 + 2 * T.length)) ∧ OwnPh w' lo hi a c (marksPh k0 T.length) ∧ Touch (Value.slice a T.length c).ownBlock.toList w w' := by
  obtain ⟨W, hW, b0, hbW, hsW⟩ := boxes1 w [.int .i64 x, .slice a T.length c] 29
  have q1 := b0.cell 1 _ rfl
  have C := markPathStepS_own lo hi a c k0 T W (ho.below hbW) h0 hl
  have hb0 : Hid (Touch (Value.slice a T.length c).ownBlock.toList w W) := Touch.of_below hbW
  clear b0 hsW ho hl
  generalize hz : k0 + 2 * (T.length : Int) = z at *
  clear hz
  go_enter Tryd.func12, Tryd.ntmps12
  go_upto_region 1 with fail
  rw [hW.out]
  clear hW
  go_wp2_with fail
  refine C.mono ?_
  rintro e w1 ⟨rfl, h1, h2⟩
  go_wp2
  go_ret
  exact ⟨rfl, h1, hb0.out.trans h2⟩

set_option maxHeartbeats 400000 in
theorem heldPath_any (x : Int) (n : Nat) (a : Option Addr) (c : Nat) (k0 : Int) (w : World) (hr : ReadsPh w a (marksPh k0 n)) (h0 : 0 ≤ k0) (hl : k0 + 2 * n ≤ 4611686018427387904) :
    Calls Tryd.prog 13 #[.agg #[.int .i64 x, .slice a n c], .int .i64 k0] w fun e w' => e = .returned (.int .i64 (k0 + 2 * n)) ∧ Below w.heap.size w w' := by
  obtain ⟨W, hW, b0, hbW, hsW⟩ := boxes1 w [.int .i64 x, .slice a n c] 29
  have q1 := b0.cell 1 _ rfl
  have C := heldPathStepS_any a c k0 n W (hr.below hbW) h0 hl
  have hz0 : 0 ≤ k0 + 2 * (n : Int) := by omega
  clear b0 hsW hr hl
  generalize k0 + 2 * (n : Int) = z at *
  go_enter Tryd.func13, Tryd.ntmps13
  go_upto_region 1 with fail
  rw [hW.out]
  clear hW
  go_wp2_with fail
  refine C.mono ?_
  rintro e w1 ⟨rfl, rfl⟩
  go_wp2
  go_ret
  exact ⟨rfl, hbW⟩
end Go.Proofs.YtajcffchopcamaaDoor

/- The walk of laws.FnExactParsePath. -/
namespace Go.Proofs.YtajcffchopcamaaDoor
open Go.RowKit

/-- The one path of a text, or none. -/
def PathOf (L : List Int) (x : Int) (T : List StepV) (ok : Bool) : Prop := (ok = true ∧ IsPath L x T) ∨ (ok = false ∧ x = 0 ∧ T = [] ∧ ∀ y U, ¬ IsPath L y U)
theorem pathOf_one {L : List Int} {x y : Int} {T U : List StepV} {ok ok' : Bool} (h : PathOf L x T ok) (g : PathOf L y U ok') : y = x ∧ U = T ∧ ok' = ok := by
  rcases h with ⟨rfl, h⟩ | ⟨rfl, rfl, rfl, h⟩
  · rcases g with ⟨rfl, g⟩ | ⟨_, _, _, g⟩
    · obtain ⟨e1, e2⟩ := isPath_one h g
      exact ⟨e1, e2, rfl⟩
    · exact absurd h (g x T)
  · rcases g with ⟨_, g⟩ | ⟨rfl, rfl, rfl, _⟩
    · exact absurd g (h y U)
    · exact ⟨rfl, rfl, rfl⟩
theorem pathAns_open {w w' : World} {L : List Int} {e : Ending} (h : PathAns w w' L e) : ∃ x T a c ok, e = .returned (.tuple #[.agg #[.int .i64 x, .slice a (T : List StepV).length c], .bool ok]) ∧ Hid (PathOf L x T ok) ∧ T.length ≤ 8 ∧ OwnPh w' w.heap.size w'.heap.size a c T ∧ Below w.heap.size w w' := by
  obtain ⟨h, hb⟩ := h
  rcases h with ⟨x, T, a, c, rfl, hP, ho⟩ | ⟨rfl, hn⟩
  · exact ⟨x, T, a, c, true, rfl, .inl ⟨rfl, hP⟩, (pathB_info hP.1).2.1, ho, hb⟩
  · exact ⟨0, [], none, 0, false, rfl, .inr ⟨rfl, rfl, rfl, hn⟩, by simp, ownPh_nil _ _ _ (Nat.le_refl _), hb⟩

set_option maxHeartbeats 4000000 in
set_option maxRecDepth 100000 in
theorem lawParsePath_walk (s : ByteArray) (w : World) (he : EnvN w) (hbd : s.size ≤ 9223372036854775807) :
    Calls Tryd.prog 4 #[.string s] w fun e w' => e = .returned (.bool true) ∧ Below w.heap.size w w' := by
  by_cases hbig : 1048576 < s.size
  · go_enter Tryd.func4, Tryd.ntmps4
    go_wp2
    go_ret
    exact ⟨rfl, Below.refl _ _⟩
  have hs : s.size ≤ 1048576 := by omega
  go_enter Tryd.func4, Tryd.ntmps4
  go_wp2_with fail
  refine (specParsePath_any s w hs).mono ?_
  intro e w2 hA2
  obtain ⟨x, T, a2, c2, ok, rfl, HP2, hT8, ow, hb2⟩ := pathAns_open hA2
  clear hA2
  have hs2 := hb2.size
  obtain ⟨W3, hW3, bA, hbW3, hsW3⟩ := boxes1 w2 [.int .i64 x, .slice a2 T.length c2] 29
  have N3 : Below w.heap.size w W3 := hb2.trans (hbW3.mono hs2)
  have ow3 := ow.below hbW3
  have hs3 : w2.heap.size < W3.heap.size := bA.lt
  clear hsW3
  have W3e := hW3.out
  go_wp2_with fail
  refine (implParsePath_any s W3 (he.keep N3) hs).mono ?_
  intro e w5 hA5
  obtain ⟨x', T', a5, c5, ok', rfl, HP5, -, og, hb5⟩ := pathAns_open hA5
  obtain ⟨rfl, rfl, rfl⟩ := pathOf_one HP2.out HP5.out
  clear hA5 HP5 W3e
  have hs5 := hb5.size
  obtain ⟨W6, hW6, bG, hbW6, hsW6⟩ := boxes1 w5 [.int .i64 x', .slice a5 T'.length c5] 29
  have M36 : Below W3.heap.size W3 W6 := hb5.trans (hbW6.mono (by omega))
  have bA6 := bA.below M36 bA.lt
  have ow6 := ow3.below M36
  have og6 := og.below hbW6
  have N6 : Below w.heap.size w W6 := N3.trans (M36.mono (by omega))
  have hs6 : w5.heap.size < W6.heap.size := bG.lt
  clear hsW6
  have u0 := bA6.cell 0 _ rfl
  have u1 := bA6.cell 1 _ rfl
  have v0 := bG.cell 0 _ rfl
  have v1 := bG.cell 1 _ rfl
  have W6e := hW6.out
  have hBB : (ok' != ok') = false := by cases ok' <;> rfl
  go_wp2_with fail
  refine (eqPath_same x' T' a5 a2 c5 c2 W6 og6.reads ow6.reads (by omega)).mono ?_
  rintro e w11 ⟨rfl, hb11⟩
  clear W6e u0 u1 v0 v1
  have hs11 := hb11.size
  have og11 := og6.below hb11
  have ow11 := ow6.below hb11
  have bA11 := bA6.below hb11 bA6.lt
  have bG11 := bG.below hb11 bG.lt
  have N11 : Below w.heap.size w w11 := N6.trans (hb11.mono (by omega))
  have v0 := bG11.cell 0 _ rfl
  have v1 := bG11.cell 1 _ rfl
  go_wp2_with fail
  refine (markPath_touch x' T' a5 c5 W3.heap.size w5.heap.size 1 w11 og11 (by omega) (by omega)).mono ?_
  rintro e w12 ⟨rfl, og12, ht12⟩
  have hw12 : Within W3.heap.size w5.heap.size w11 w12 := ht12.within (fun k hk => og11.lt k (Option.mem_toList.1 hk))
  have hs12 := hw12.size
  have ow12 : OwnPh w12 w.heap.size w2.heap.size a2 c2 T' := ow11.within hw12 (.inl (by omega))
  have bA12 := bA11.within hw12 (by omega)
  have bG12 := bG11.within hw12 (by omega)
  have N12 : Below w.heap.size w w12 := N11.trans (hw12.below (by omega) (by omega))
  clear v0 v1 ht12
  have v0 := bG12.cell 0 _ rfl
  have v1 := bG12.cell 1 _ rfl
  go_wp2_with fail
  refine (heldPath_any x' T'.length a5 c5 1 w12 og12.reads (by omega) (by omega)).mono ?_
  rintro e w13 ⟨rfl, hb13⟩
  have hs13 := hb13.size
  have N13 : Below w.heap.size w w13 := N12.trans (hb13.mono (by omega))
  go_wp2_with fail
  refine (implParsePath_any s w13 (he.keep N13) hs).mono ?_
  intro e w15 hA15
  obtain ⟨x2, T2, a15, c15, ok2, rfl, HP15, -, oh, hb15⟩ := pathAns_open hA15
  obtain ⟨rfl, rfl, rfl⟩ := pathOf_one HP2.out HP15.out
  clear hA15 HP15
  have hs15 := hb15.size
  obtain ⟨W16, hW16, bH, hbW16, hsW16⟩ := boxes1 w15 [.int .i64 x2, .slice a15 T2.length c15] 29
  have M16 : Below w12.heap.size w12 W16 := (hb13.trans (hb15.mono hs13)).trans (hbW16.mono (by omega))
  have ow16 := ow12.below M16
  have og16 := og12.below M16
  have bA16 := bA12.below M16 bA12.lt
  have bG16 := bG12.below M16 bG12.lt
  have oh16 := oh.below hbW16
  have N16 : Below w.heap.size w W16 := N12.trans (M16.mono (by omega))
  clear v0 v1 hsW16
  have u0 := bA16.cell 0 _ rfl
  have u1 := bA16.cell 1 _ rfl
  have v0 := bH.cell 0 _ rfl
  have v1 := bH.cell 1 _ rfl
  have W16e := hW16.out
  go_wp2_with fail
  refine (eqPath_same x2 T2 a15 a2 c15 c2 W16 oh16.reads ow16.reads (by omega)).mono ?_
  rintro e w17 ⟨rfl, hb17⟩
  clear W16e u0 u1 v0 v1
  have bG17 := bG16.below hb17 bG16.lt
  have og17 := og16.below hb17
  have v0 := bG17.cell 0 _ rfl
  have v1 := bG17.cell 1 _ rfl
  have N17 : Below w.heap.size w w17 := N16.trans (hb17.mono (by have := N16.size; omega))
  go_wp2_with fail
  refine (heldPath_any x2 T2.length a5 c5 1 w17 og17.reads (by omega) (by omega)).mono ?_
  rintro e w18 ⟨rfl, hb18⟩
  go_wp2
  go_ret
  exact ⟨rfl, N17.trans (hb18.mono (by have := N17.size; omega))⟩
end Go.Proofs.YtajcffchopcamaaDoor

/- What a row's condition on the library's table of powers and its two errors gives; a law for a witness. -/
namespace Go.Proofs.YtajcffchopcamaaDoor
open Go.ChangeShapes Go.WideShapes Go.RowKit

theorem laidMet_overN {P : Program} {w0 : World} {laid : List (String × DataW Unit)} (args : Array Value) (hf : w0.layFits P laid [] = true) (hi : w0.layIfaces P laid (w0.layVars P laid) = true) :
    laidMet P laid ((w0.layVars P laid).forCall (fun _ _ => 0) ⟨#[], args, []⟩).memory := by
  have e1 : (laid.filter fun x => (laid.map (·.1)).contains x.1) = laid := List.filter_eq_self.2 fun x hx => List.contains_iff_mem.2 (List.mem_map.2 ⟨x, hx, rfl⟩)
  have e2 : (laid.filter fun x => !(laid.map (·.1)).contains x.1) = [] := List.filter_eq_nil_iff.2 fun x hx => by rw [List.contains_iff_mem.2 (List.mem_map.2 ⟨x, hx, rfl⟩)]; simp
  have h : laidMet P laid (w0.layVars P laid) := laidMet_layVars (w0 := w0) (laid.map (·.1)) [] (by rw [e1]) (by rw [e1]; exact hf) (by rw [e1]; exact hi) (by rw [e2]; exact LaidIn.none)
  exact h.of_heap (by simp [World.memory, World.forCall, Input.heap])

theorem Tryd.pow10DataN : (Rows.laid_internal_strconv_uint64pow10 : DataW Unit) = Lib.tabData .u64 Lib.pow10Tab := by kernel_rfl

theorem powT_of {W : World} {laid : List (String × DataW Unit)} {name : String} (hn : Tryd.prog.globalNamed name = some 0) (hl : laidMet Tryd.prog laid W) (hm : (name, Rows.laid_internal_strconv_uint64pow10) ∈ laid) : PowT W := by
  rw [Tryd.pow10DataN] at hm
  exact tab_heap hl hm hn (by kernel_rfl) Tryd.underlying81 Tryd.underlying71 (by kernel_rfl) (by kernel_rfl)

/-- A listed interface value lies in its variable's cell. -/
theorem iface_cellN {P : Program} {w : World} {laid : List (String × DataW Unit)} {name tn : String} {d : DataW Unit} {g : Nat} {t : TypeId} {ms : Array (String × TypeId)} (hl : laidMet P laid w) (hm : (name, DataW.iface tn d) ∈ laid)
    (hg : P.globalNamed name = some g) (hty : (P.globals[g]?).map (·.type) = some t) (hi : P.underlying t = some (.interface ms)) : ∃ u v, w.cell? ⟨g, 0, none⟩ = some (.iface u v) := by
  obtain ⟨ps, hv, _⟩ := hl
  obtain ⟨g', t', cs, fuel, p, h1, h2, h3, h4⟩ := laidVars_mem laid ps hv name _ hm
  obtain rfl := Option.some.inj (hg.symm.trans h1)
  obtain rfl := Option.some.inj (hty.symm.trans h2)
  obtain ⟨_, u, v, hc, _, _⟩ := iface_of_trod hi h4
  refine ⟨u, v, ?_⟩
  have h := World.var?_cell hg h3 0
  have e : cs[0]? = some (.iface u v) := by
    rw [← Array.getElem?_toList, hc]; rfl
  rw [e] at h
  exact h

theorem envN_of {W : World} {laid : List (String × DataW Unit)} {n0 n1 n2 : String} (hd : laidMet Tryd.prog laid W)
    (h0 : Tryd.prog.globalNamed n0 = some 0) (m0 : (n0, Rows.laid_internal_strconv_uint64pow10) ∈ laid)
    (h1 : Tryd.prog.globalNamed n1 = some 3) (m1 : (n1, Rows.laid_strconv_ErrRange) ∈ laid)
    (h2 : Tryd.prog.globalNamed n2 = some 2) (m2 : (n2, Rows.laid_strconv_ErrSyntax) ∈ laid) : EnvN W := by
  refine ⟨powT_of h0 hd m0, ?_, ?_⟩
  · obtain ⟨u, v, h⟩ := iface_cellN hd m2 h2 (by kernel_rfl) Tryd.underlying65
    exact ⟨u, v, h⟩
  · obtain ⟨u, v, h⟩ := iface_cellN hd m1 h1 (by kernel_rfl) Tryd.underlying65
    exact ⟨u, v, h⟩
end Go.Proofs.YtajcffchopcamaaDoor
