/- Several texts in one, in their order. -/
import Derived.Test.YtcoeamamaifoeaaGreatDoorPCrashx9
import Derived.Deep.RegionHeld3
import Derived.Test.YtcoeamamaifoeaaGreatDoorPCrashx8
import Derived.Test.YtcoeamamaifoeaaGreatDoorPCrashx5
import Derived.Test.YtcoeamamaifoeaaGreatDoorPCrashx1
set_option maxHeartbeats 8000000
set_option maxRecDepth 100000
namespace Go.Proofs.YtcoeamamaifoeaaGreatDoor
open Go.RowKit
theorem kind_setDeed (tx prev oid:Int) (b a:SlotA) (w:World):Calls Tryz.prog 145 #[.agg #[.int .i64 tx,.int .i64 prev,.int .i64 oid,.bool b.v.has,.int .i64 b.v.o.kind,.slice b.aI b.v.o.ints.length b.cI,.slice b.aR b.v.o.refs.length b.cR,.bool a.v.has,.int .i64 a.v.o.kind,.slice a.aI a.v.o.ints.length a.cI,.slice a.aR a.v.o.refs.length a.cR]] w fun e w'=>e=.returned (.int .i64 1)∧Below w.heap.size w w':=by
 go_enter Tryz.func145,Tryz.ntmps145
 go_wp2
 go_ret
 exact ⟨rfl,(Below.refl _ _).alloc (Nat.le_refl _) _⟩
theorem kind_commitDeed (tx prev:Int) (w:World):Calls Tryz.prog 147 #[.agg #[.int .i64 tx,.int .i64 prev]] w fun e w'=>e=.returned (.int .i64 2)∧Below w.heap.size w w':=by
 go_enter Tryz.func147,Tryz.ntmps147
 go_wp2
 go_ret
 exact ⟨rfl,(Below.refl _ _).alloc (Nat.le_refl _) _⟩
theorem kind_abortDeed (tx prev:Int) (w:World):Calls Tryz.prog 148 #[.agg #[.int .i64 tx,.int .i64 prev]] w fun e w'=>e=.returned (.int .i64 3)∧Below w.heap.size w w':=by
 go_enter Tryz.func148,Tryz.ntmps148
 go_wp2
 go_ret
 exact ⟨rfl,(Below.refl _ _).alloc (Nat.le_refl _) _⟩
theorem kind_backDeed (tx prev oid:Int) (a:SlotA) (next:Int) (w:World):Calls Tryz.prog 149 #[.agg #[.int .i64 tx,.int .i64 prev,.int .i64 oid,.bool a.v.has,.int .i64 a.v.o.kind,.slice a.aI a.v.o.ints.length a.cI,.slice a.aR a.v.o.refs.length a.cR,.int .i64 next]] w fun e w'=>e=.returned (.int .i64 4)∧Below w.heap.size w w':=by
 go_enter Tryz.func149,Tryz.ntmps149
 go_wp2
 go_ret
 exact ⟨rfl,(Below.refl _ _).alloc (Nat.le_refl _) _⟩
theorem kind_endDeed (tx prev:Int) (w:World):Calls Tryz.prog 150 #[.agg #[.int .i64 tx,.int .i64 prev]] w fun e w'=>e=.returned (.int .i64 5)∧Below w.heap.size w w':=by
 go_enter Tryz.func150,Tryz.ntmps150
 go_wp2
 go_ret
 exact ⟨rfl,(Below.refl _ _).alloc (Nat.le_refl _) _⟩
theorem kind_checkDeed (ls:List LiveV) (aL:Option Addr) (cL:Nat) (w:World):Calls Tryz.prog 151 #[.agg #[.slice aL ls.length cL]] w fun e w'=>e=.returned (.int .i64 6)∧Below w.heap.size w w':=by
 go_enter Tryz.func151,Tryz.ntmps151
 go_wp2
 go_ret
 exact ⟨rfl,(Below.refl _ _).alloc (Nat.le_refl _) _⟩
theorem rec_load {w:World} {B:Nat} (r:RecA) (b:Box w B r.cells 100):(loadVar 100 ⟨B,0,none⟩).run Tryz.prog w=.ok (.agg r.cells.toArray) w:=
 run_loadVar_mid (P:=Tryz.prog) w B 0 100 r.cells _ (Box.range [] r.cells [] (by simpa using b)) Tryz.underlying100 rfl (by show _=some 15;kernel_rfl)
def recA (n tx prev kind:Int):RecA:=⟨n,tx,prev,kind,0,zeroS,zeroS,0,[],none,0⟩
theorem recAt_any (n tx prev kind:Int) (w:World):Calls Tryz.prog 146 #[.int .i64 n,.agg #[.int .i64 tx,.int .i64 prev],.int .i64 kind] w fun e w'=>e=.returned (.agg (recA n tx prev kind).cells.toArray)∧Below w.heap.size w w':=by
 obtain ⟨W,hW,b0,b1,hbW,hsW⟩:=boxes2 w [.int .i64 tx,.int .i64 prev] (recA n tx prev kind).cells 174 100
 have HL:Hid (_=_):=rec_load (recA n tx prev kind) b1
 simp only [recA,RecA.cells,zeroS,List.length_nil] at hW
 clear hsW b0 b1
 go_enter Tryz.func146,Tryz.ntmps146
 go_wp2
 refine bodyPost_ret (v:=.agg (recA n tx prev kind).cells.toArray) (results_one Tryz.results146 rfl ?_) rfl ⟨rfl,?_⟩
 ·rw [show _=W from hW.out];exact HL.out
 ·rw [show _=W from hW.out];exact hbW
theorem recOf_set (n:Int) (tx prev oid:Int) (b a:SlotA) (w:World):
  Calls Tryz.prog 130 #[.int .i64 n,issetDeed (setD tx prev oid b a)] w fun e w'=>e=.returned (.agg (RecA.cells (⟨n,tx,prev,1,oid,b,a,0,[],none,0⟩)).toArray)∧Below w.heap.size w w':=by
 obtain ⟨W,hW,b0,b1,hbW,hsW⟩:=boxes2 w [.int .i64 0,.int .i64 0,.int .i64 0,.int .i64 0,.int .i64 0,.bool false,.int .i64 0,.slice none 0 0,.slice none 0 0,.bool false,.int .i64 0,.slice none 0 0,.slice none 0 0,.int .i64 0,.slice none 0 0] [.int .i64 tx,.int .i64 prev,.int .i64 oid,.bool b.v.has,.int .i64 b.v.o.kind,.slice b.aI b.v.o.ints.length b.cI,.slice b.aR b.v.o.refs.length b.cR,.bool a.v.has,.int .i64 a.v.o.kind,.slice a.aI a.v.o.ints.length a.cI,.slice a.aR a.v.o.refs.length a.cR] 100 176
 simp only [issetDeed,setD]
 have a_setDeed:=fun W=>yes_setDeed W (.agg #[.int .i64 tx,.int .i64 prev,.int .i64 oid,.bool b.v.has,.int .i64 b.v.o.kind,.slice b.aI b.v.o.ints.length b.cI,.slice b.aR b.v.o.refs.length b.cR,.bool a.v.has,.int .i64 a.v.o.kind,.slice a.aI a.v.o.ints.length a.cI,.slice a.aR a.v.o.refs.length a.cR])
 have HB:Hid (∀ u,Below W.heap.size W u→Box u w.heap.size [.int .i64 0,.int .i64 0,.int .i64 0,.int .i64 0,.int .i64 0,.bool false,.int .i64 0,.slice none 0 0,.slice none 0 0,.bool false,.int .i64 0,.slice none 0 0,.slice none 0 0,.int .i64 0,.slice none 0 0] 100∧Box u (w.heap.size+1) [.int .i64 tx,.int .i64 prev,.int .i64 oid,.bool b.v.has,.int .i64 b.v.o.kind,.slice b.aI b.v.o.ints.length b.cI,.slice b.aR b.v.o.refs.length b.cR,.bool a.v.has,.int .i64 a.v.o.kind,.slice a.aI a.v.o.ints.length a.cI,.slice a.aR a.v.o.refs.length a.cR] 176):=fun u hu=>⟨b0.below hu b0.lt,b1.below hu b1.lt⟩
 have HC:Hid (∀ w',Box w' (w.heap.size+1) [.int .i64 tx,.int .i64 prev,.int .i64 oid,.bool b.v.has,.int .i64 b.v.o.kind,.slice b.aI b.v.o.ints.length b.cI,.slice b.aR b.v.o.refs.length b.cR,.bool a.v.has,.int .i64 a.v.o.kind,.slice a.aI a.v.o.ints.length a.cI,.slice a.aR a.v.o.refs.length a.cR] 176→w'.cell? ⟨w.heap.size+1,0,none⟩=some (.int .i64 tx)∧w'.cell? ⟨w.heap.size+1,1,none⟩=some (.int .i64 prev)∧w'.cell? ⟨w.heap.size+1,2,none⟩=some (.int .i64 oid)∧w'.cell? ⟨w.heap.size+1,3,none⟩=some (.bool b.v.has)∧w'.cell? ⟨w.heap.size+1,4,none⟩=some (.int .i64 b.v.o.kind)∧w'.cell? ⟨w.heap.size+1,5,none⟩=some (.slice b.aI b.v.o.ints.length b.cI)∧w'.cell? ⟨w.heap.size+1,6,none⟩=some (.slice b.aR b.v.o.refs.length b.cR)∧w'.cell? ⟨w.heap.size+1,7,none⟩=some (.bool a.v.has)∧w'.cell? ⟨w.heap.size+1,8,none⟩=some (.int .i64 a.v.o.kind)∧w'.cell? ⟨w.heap.size+1,9,none⟩=some (.slice a.aI a.v.o.ints.length a.cI)∧w'.cell? ⟨w.heap.size+1,10,none⟩=some (.slice a.aR a.v.o.refs.length a.cR)):=fun w' b=>⟨b.cell 0 _ rfl,b.cell 1 _ rfl,b.cell 2 _ rfl,b.cell 3 _ rfl,b.cell 4 _ rfl,b.cell 5 _ rfl,b.cell 6 _ rfl,b.cell 7 _ rfl,b.cell 8 _ rfl,b.cell 9 _ rfl,b.cell 10 _ rfl⟩
 have hh:=HC.out W b1
 have hlt:=b1.lt
 have HI:Hid ((Tryz.prog.info? 100).map (·.size)=some 15):=by rw [Hid];kernel_rfl
 have HO:Hid (_):=all_oneCell_toArray (oneR (⟨n,tx,prev,1,oid,b,a,0,[],none,0⟩))
 clear hsW b0 b1
 go_enter Tryz.func130,Tryz.ntmps130
 go_wp2_with fail
 rw [hW.out]
 clear hW a_setDeed
 refine wp_region_held_drew (S:=fun w'=>w'.cell? ⟨w.heap.size+1,0,none⟩=some (.int .i64 tx)∧w'.cell? ⟨w.heap.size+1,1,none⟩=some (.int .i64 prev)∧w'.cell? ⟨w.heap.size+1,2,none⟩=some (.int .i64 oid)∧w'.cell? ⟨w.heap.size+1,3,none⟩=some (.bool b.v.has)∧w'.cell? ⟨w.heap.size+1,4,none⟩=some (.int .i64 b.v.o.kind)∧w'.cell? ⟨w.heap.size+1,5,none⟩=some (.slice b.aI b.v.o.ints.length b.cI)∧w'.cell? ⟨w.heap.size+1,6,none⟩=some (.slice b.aR b.v.o.refs.length b.cR)∧w'.cell? ⟨w.heap.size+1,7,none⟩=some (.bool a.v.has)∧w'.cell? ⟨w.heap.size+1,8,none⟩=some (.int .i64 a.v.o.kind)∧w'.cell? ⟨w.heap.size+1,9,none⟩=some (.slice a.aI a.v.o.ints.length a.cI)∧w'.cell? ⟨w.heap.size+1,10,none⟩=some (.slice a.aR a.v.o.refs.length a.cR)) (by kernel_rfl) (HC.out _ (HB.out _ (Below.refl _ _).drew).2) (fun hHeld=>?_)
 refine tq 0 (v:=.int .i64 n) rfl hHeld ?_
 try simp only [zz]
 refine tq 1 (v:=.pointer (some ⟨w.heap.size+1,0,none⟩)) rfl hHeld ?_
 try simp only [zz]
 refine tq 2 (v:=.pointer (some ⟨w.heap.size+1,0,none⟩)) rfl hHeld ?_
 try simp only [zz]
 refine tq 3 (v:=.int .i64 tx) rfl hHeld ?_
 try simp only [zz]
 refine tq 4 (v:=.pointer (some ⟨w.heap.size+1,0,none⟩)) rfl hHeld ?_
 try simp only [zz]
 refine tq 5 (v:=.pointer (some ⟨w.heap.size+1,1,none⟩)) rfl hHeld ?_
 try simp only [zz]
 refine tq 6 (v:=.int .i64 prev) rfl hHeld ?_
 try simp only [zz]
 refine tq 7 (v:=.agg #[.int .i64 tx,.int .i64 prev,.int .i64 oid,.bool b.v.has,.int .i64 b.v.o.kind,.slice b.aI b.v.o.ints.length b.cI,.slice b.aR b.v.o.refs.length b.cR,.bool a.v.has,.int .i64 a.v.o.kind,.slice a.aI a.v.o.ints.length a.cI,.slice a.aR a.v.o.refs.length a.cR]) rfl hHeld ?_
 try simp only [zz]
 refine tq 9 (v:=.pointer (some ⟨w.heap.size+1,2,none⟩)) rfl hHeld ?_
 try simp only [zz]
 refine tq 10 (v:=.int .i64 oid) rfl hHeld ?_
 try simp only [zz]
 refine tq 11 (v:=.pointer (some ⟨w.heap.size+1,3,none⟩)) rfl hHeld ?_
 try simp only [zz]
 refine tq 12 (v:=.agg #[.bool b.v.has,.int .i64 b.v.o.kind,.slice b.aI b.v.o.ints.length b.cI,.slice b.aR b.v.o.refs.length b.cR]) rfl hHeld ?_
 try simp only [zz]
 refine tq 13 (v:=.pointer (some ⟨w.heap.size+1,7,none⟩)) rfl hHeld ?_
 try simp only [zz]
 refine tq 14 (v:=.agg #[.bool a.v.has,.int .i64 a.v.o.kind,.slice a.aI a.v.o.ints.length a.cI,.slice a.aR a.v.o.refs.length a.cR]) rfl hHeld ?_
 try simp only [zz]
 refine wpAnyH_ready (rs:=[8]) (by kernel_rfl) (by simp) ?_
 refine AllReadyH.cons rfl (fun K hK=>?_) AllReadyH.nil
 go_simp
 refine (kind_setDeed tx prev oid b a _).mono ?_
 rintro e u1 ⟨rfl,hb1⟩
 have hB1:Below W.heap.size W u1:=((Below.refl _ _).drew).trans hb1
 refine hK.out _ _ (HC.out _ (HB.out _ hB1).2) (fun hHeld=>?_)
 clear hK K
 try simp only [zz]
 have hBL:=hB1
 refine tq 15 (v:=.agg (RecA.cells (⟨n,tx,prev,1,oid,b,a,0,[],none,0⟩)).toArray) rfl hHeld ?_
 try simp only [zz]
 obtain ⟨WF,hWF,bF,hwF,hsF⟩:=range_fill [] [.int .i64 0,.int .i64 0,.int .i64 0,.int .i64 0,.int .i64 0,.bool false,.int .i64 0,.slice none 0 0,.slice none 0 0,.bool false,.int .i64 0,.slice none 0 0,.slice none 0 0,.int .i64 0,.slice none 0 0] (RecA.cells (⟨n,tx,prev,1,oid,b,a,0,[],none,0⟩)) [] (by simpa using (HB.out _ hBL).1) rfl
 have HF:Hid (Below w.heap.size w WF):=(hbW.trans (hBL.mono hbW.size)).trans (hwF.below (by omega) (by have:=hBL.size;omega))
 have HLD:Hid (_=_):=rec_load (⟨n,tx,prev,1,oid,b,a,0,[],none,0⟩) (by simpa using bF)
 have HS:Hid (WF.cell? ⟨w.heap.size+1,0,none⟩=some (.int .i64 tx)∧WF.cell? ⟨w.heap.size+1,1,none⟩=some (.int .i64 prev)∧WF.cell? ⟨w.heap.size+1,2,none⟩=some (.int .i64 oid)∧WF.cell? ⟨w.heap.size+1,3,none⟩=some (.bool b.v.has)∧WF.cell? ⟨w.heap.size+1,4,none⟩=some (.int .i64 b.v.o.kind)∧WF.cell? ⟨w.heap.size+1,5,none⟩=some (.slice b.aI b.v.o.ints.length b.cI)∧WF.cell? ⟨w.heap.size+1,6,none⟩=some (.slice b.aR b.v.o.refs.length b.cR)∧WF.cell? ⟨w.heap.size+1,7,none⟩=some (.bool a.v.has)∧WF.cell? ⟨w.heap.size+1,8,none⟩=some (.int .i64 a.v.o.kind)∧WF.cell? ⟨w.heap.size+1,9,none⟩=some (.slice a.aI a.v.o.ints.length a.cI)∧WF.cell? ⟨w.heap.size+1,10,none⟩=some (.slice a.aR a.v.o.refs.length a.cR)):=HC.out _ ((HB.out _ hBL).2.within hwF (by omega))
 refine wpAnyH_ready (rs:=[16]) (by kernel_rfl) (by simp) ?_
 refine AllReadyH.cons rfl (fun K hK=>?_) AllReadyH.nil
 rw [if_pos (by rfl)]
 refine wp_store_mid 100 (.tmp 4) (.tmp 30) rfl w.heap.size 0 (RecA.cells (⟨n,tx,prev,1,oid,b,a,0,[],none,0⟩)).toArray rfl rfl ((HB.out _ hBL).1.there 0 _ (by show 0+15≤15;decide)) HI.out HO.out ?_
 have HW:Hid (u1.setCells w.heap.size 0 (RecA.cells (⟨n,tx,prev,1,oid,b,a,0,[],none,0⟩)).toArray.toList=WF):=hWF.out
 rw [HW.out]
 refine hK.out _ _ HS.out (fun hHeld=>?_)
 refine wpAnyH_done (by kernel_rfl) ?_ _
 clear hwF hWF HW hK K HS
 go_wp2
 exact bodyPost_ret (v:=.agg (RecA.cells (⟨n,tx,prev,1,oid,b,a,0,[],none,0⟩)).toArray) (results_one Tryz.results130 rfl HLD.out) rfl ⟨rfl,HF.out⟩
theorem recOf_commit (n:Int) (tx prev:Int) (w:World):
  Calls Tryz.prog 130 #[.int .i64 n,iscommitDeed (linkD tx prev)] w fun e w'=>e=.returned (.agg (RecA.cells (recA n tx prev 2)).toArray)∧Below w.heap.size w w':=by
 obtain ⟨W,hW,b0,b1,hbW,hsW⟩:=boxes2 w [.int .i64 0,.int .i64 0,.int .i64 0,.int .i64 0,.int .i64 0,.bool false,.int .i64 0,.slice none 0 0,.slice none 0 0,.bool false,.int .i64 0,.slice none 0 0,.slice none 0 0,.int .i64 0,.slice none 0 0] [.int .i64 tx,.int .i64 prev] 100 178
 simp only [iscommitDeed,linkD]
 have a_setDeed:=fun W=>no_setDeed W 178 (.agg #[.int .i64 tx,.int .i64 prev]) (by decide)
 have a_commitDeed:=fun W=>yes_commitDeed W (.agg #[.int .i64 tx,.int .i64 prev])
 have HB:Hid (∀ u,Below W.heap.size W u→Box u w.heap.size [.int .i64 0,.int .i64 0,.int .i64 0,.int .i64 0,.int .i64 0,.bool false,.int .i64 0,.slice none 0 0,.slice none 0 0,.bool false,.int .i64 0,.slice none 0 0,.slice none 0 0,.int .i64 0,.slice none 0 0] 100∧Box u (w.heap.size+1) [.int .i64 tx,.int .i64 prev] 178):=fun u hu=>⟨b0.below hu b0.lt,b1.below hu b1.lt⟩
 have HC:Hid (∀ w',Box w' (w.heap.size+1) [.int .i64 tx,.int .i64 prev] 178→w'.cell? ⟨w.heap.size+1,0,none⟩=some (.int .i64 tx)∧w'.cell? ⟨w.heap.size+1,1,none⟩=some (.int .i64 prev)):=fun w' b=>⟨b.cell 0 _ rfl,b.cell 1 _ rfl⟩
 have hh:=HC.out W b1
 have hlt:=b1.lt
 have HI:Hid ((Tryz.prog.info? 100).map (·.size)=some 15):=by rw [Hid];kernel_rfl
 have HO:Hid (_):=all_oneCell_toArray (oneR (recA n tx prev 2))
 clear hsW b0 b1
 go_enter Tryz.func130,Tryz.ntmps130
 go_wp2_with fail
 rw [hW.out]
 clear hW a_setDeed a_commitDeed
 refine wp_region_held_drew (S:=fun w'=>w'.cell? ⟨w.heap.size+1,0,none⟩=some (.int .i64 tx)∧w'.cell? ⟨w.heap.size+1,1,none⟩=some (.int .i64 prev)) (by kernel_rfl) (HC.out _ (HB.out _ (Below.refl _ _).drew).2) (fun hHeld=>?_)
 refine tq 0 (v:=.int .i64 n) rfl hHeld ?_
 try simp only [zz]
 refine tq 1 (v:=.pointer (some ⟨w.heap.size+1,0,none⟩)) rfl hHeld ?_
 try simp only [zz]
 refine tq 2 (v:=.agg #[.int .i64 tx,.int .i64 prev]) rfl hHeld ?_
 try simp only [zz]
 refine tq 3 (v:=.agg #[.int .i64 tx,.int .i64 prev]) rfl hHeld ?_
 try simp only [zz]
 refine wpAnyH_ready (rs:=[4]) (by kernel_rfl) (by simp) ?_
 refine AllReadyH.cons rfl (fun K hK=>?_) AllReadyH.nil
 go_simp
 refine (kind_commitDeed tx prev _).mono ?_
 rintro e u1 ⟨rfl,hb1⟩
 have hB1:Below W.heap.size W u1:=((Below.refl _ _).drew).trans hb1
 refine hK.out _ _ (HC.out _ (HB.out _ hB1).2) (fun hHeld=>?_)
 clear hK K
 try simp only [zz]
 refine wpAnyH_ready (rs:=[5]) (by kernel_rfl) (by simp) ?_
 refine AllReadyH.cons rfl (fun K hK=>?_) AllReadyH.nil
 go_simp
 refine (recAt_any n tx prev 2 _).mono ?_
 rintro e u2 ⟨rfl,hb2⟩
 have hBL:Below W.heap.size W u2:=hB1.trans (hb2.mono hB1.size)
 refine hK.out _ _ (HC.out _ (HB.out _ hBL).2) (fun hHeld=>?_)
 clear hK K
 try simp only [zz]
 obtain ⟨WF,hWF,bF,hwF,hsF⟩:=range_fill [] [.int .i64 0,.int .i64 0,.int .i64 0,.int .i64 0,.int .i64 0,.bool false,.int .i64 0,.slice none 0 0,.slice none 0 0,.bool false,.int .i64 0,.slice none 0 0,.slice none 0 0,.int .i64 0,.slice none 0 0] (RecA.cells (recA n tx prev 2)) [] (by simpa using (HB.out _ hBL).1) rfl
 have HF:Hid (Below w.heap.size w WF):=(hbW.trans (hBL.mono hbW.size)).trans (hwF.below (by omega) (by have:=hBL.size;omega))
 have HLD:Hid (_=_):=rec_load (recA n tx prev 2) (by simpa using bF)
 have HS:Hid (WF.cell? ⟨w.heap.size+1,0,none⟩=some (.int .i64 tx)∧WF.cell? ⟨w.heap.size+1,1,none⟩=some (.int .i64 prev)):=HC.out _ ((HB.out _ hBL).2.within hwF (by omega))
 refine wpAnyH_ready (rs:=[6]) (by kernel_rfl) (by simp) ?_
 refine AllReadyH.cons rfl (fun K hK=>?_) AllReadyH.nil
 rw [if_pos (by rfl)]
 refine wp_store_mid 100 (.tmp 4) (.tmp 39) rfl w.heap.size 0 (RecA.cells (recA n tx prev 2)).toArray rfl rfl ((HB.out _ hBL).1.there 0 _ (by show 0+15≤15;decide)) HI.out HO.out ?_
 have HW:Hid (u2.setCells w.heap.size 0 (RecA.cells (recA n tx prev 2)).toArray.toList=WF):=hWF.out
 rw [HW.out]
 refine hK.out _ _ HS.out (fun hHeld=>?_)
 refine wpAnyH_done (by kernel_rfl) ?_ _
 clear hwF hWF HW hK K HS
 go_wp2
 exact bodyPost_ret (v:=.agg (RecA.cells (recA n tx prev 2)).toArray) (results_one Tryz.results130 rfl HLD.out) rfl ⟨rfl,HF.out⟩
theorem recOf_abort (n:Int) (tx prev:Int) (w:World):
  Calls Tryz.prog 130 #[.int .i64 n,isabortDeed (linkD tx prev)] w fun e w'=>e=.returned (.agg (RecA.cells (recA n tx prev 3)).toArray)∧Below w.heap.size w w':=by
 obtain ⟨W,hW,b0,b1,hbW,hsW⟩:=boxes2 w [.int .i64 0,.int .i64 0,.int .i64 0,.int .i64 0,.int .i64 0,.bool false,.int .i64 0,.slice none 0 0,.slice none 0 0,.bool false,.int .i64 0,.slice none 0 0,.slice none 0 0,.int .i64 0,.slice none 0 0] [.int .i64 tx,.int .i64 prev] 100 179
 simp only [isabortDeed,linkD]
 have a_setDeed:=fun W=>no_setDeed W 179 (.agg #[.int .i64 tx,.int .i64 prev]) (by decide)
 have a_commitDeed:=fun W=>no_commitDeed W 179 (.agg #[.int .i64 tx,.int .i64 prev]) (by decide)
 have a_abortDeed:=fun W=>yes_abortDeed W (.agg #[.int .i64 tx,.int .i64 prev])
 have HB:Hid (∀ u,Below W.heap.size W u→Box u w.heap.size [.int .i64 0,.int .i64 0,.int .i64 0,.int .i64 0,.int .i64 0,.bool false,.int .i64 0,.slice none 0 0,.slice none 0 0,.bool false,.int .i64 0,.slice none 0 0,.slice none 0 0,.int .i64 0,.slice none 0 0] 100∧Box u (w.heap.size+1) [.int .i64 tx,.int .i64 prev] 179):=fun u hu=>⟨b0.below hu b0.lt,b1.below hu b1.lt⟩
 have HC:Hid (∀ w',Box w' (w.heap.size+1) [.int .i64 tx,.int .i64 prev] 179→w'.cell? ⟨w.heap.size+1,0,none⟩=some (.int .i64 tx)∧w'.cell? ⟨w.heap.size+1,1,none⟩=some (.int .i64 prev)):=fun w' b=>⟨b.cell 0 _ rfl,b.cell 1 _ rfl⟩
 have hh:=HC.out W b1
 have hlt:=b1.lt
 have HI:Hid ((Tryz.prog.info? 100).map (·.size)=some 15):=by rw [Hid];kernel_rfl
 have HO:Hid (_):=all_oneCell_toArray (oneR (recA n tx prev 3))
 clear hsW b0 b1
 go_enter Tryz.func130,Tryz.ntmps130
 go_wp2_with fail
 rw [hW.out]
 clear hW a_setDeed a_commitDeed a_abortDeed
 refine wp_region_held_drew (S:=fun w'=>w'.cell? ⟨w.heap.size+1,0,none⟩=some (.int .i64 tx)∧w'.cell? ⟨w.heap.size+1,1,none⟩=some (.int .i64 prev)) (by kernel_rfl) (HC.out _ (HB.out _ (Below.refl _ _).drew).2) (fun hHeld=>?_)
 refine tq 0 (v:=.int .i64 n) rfl hHeld ?_
 try simp only [zz]
 refine tq 1 (v:=.pointer (some ⟨w.heap.size+1,0,none⟩)) rfl hHeld ?_
 try simp only [zz]
 refine tq 2 (v:=.agg #[.int .i64 tx,.int .i64 prev]) rfl hHeld ?_
 try simp only [zz]
 refine tq 3 (v:=.agg #[.int .i64 tx,.int .i64 prev]) rfl hHeld ?_
 try simp only [zz]
 refine wpAnyH_ready (rs:=[4]) (by kernel_rfl) (by simp) ?_
 refine AllReadyH.cons rfl (fun K hK=>?_) AllReadyH.nil
 go_simp
 refine (kind_abortDeed tx prev _).mono ?_
 rintro e u1 ⟨rfl,hb1⟩
 have hB1:Below W.heap.size W u1:=((Below.refl _ _).drew).trans hb1
 refine hK.out _ _ (HC.out _ (HB.out _ hB1).2) (fun hHeld=>?_)
 clear hK K
 try simp only [zz]
 refine wpAnyH_ready (rs:=[5]) (by kernel_rfl) (by simp) ?_
 refine AllReadyH.cons rfl (fun K hK=>?_) AllReadyH.nil
 go_simp
 refine (recAt_any n tx prev 3 _).mono ?_
 rintro e u2 ⟨rfl,hb2⟩
 have hBL:Below W.heap.size W u2:=hB1.trans (hb2.mono hB1.size)
 refine hK.out _ _ (HC.out _ (HB.out _ hBL).2) (fun hHeld=>?_)
 clear hK K
 try simp only [zz]
 obtain ⟨WF,hWF,bF,hwF,hsF⟩:=range_fill [] [.int .i64 0,.int .i64 0,.int .i64 0,.int .i64 0,.int .i64 0,.bool false,.int .i64 0,.slice none 0 0,.slice none 0 0,.bool false,.int .i64 0,.slice none 0 0,.slice none 0 0,.int .i64 0,.slice none 0 0] (RecA.cells (recA n tx prev 3)) [] (by simpa using (HB.out _ hBL).1) rfl
 have HF:Hid (Below w.heap.size w WF):=(hbW.trans (hBL.mono hbW.size)).trans (hwF.below (by omega) (by have:=hBL.size;omega))
 have HLD:Hid (_=_):=rec_load (recA n tx prev 3) (by simpa using bF)
 have HS:Hid (WF.cell? ⟨w.heap.size+1,0,none⟩=some (.int .i64 tx)∧WF.cell? ⟨w.heap.size+1,1,none⟩=some (.int .i64 prev)):=HC.out _ ((HB.out _ hBL).2.within hwF (by omega))
 refine wpAnyH_ready (rs:=[6]) (by kernel_rfl) (by simp) ?_
 refine AllReadyH.cons rfl (fun K hK=>?_) AllReadyH.nil
 rw [if_pos (by rfl)]
 refine wp_store_mid 100 (.tmp 4) (.tmp 48) rfl w.heap.size 0 (RecA.cells (recA n tx prev 3)).toArray rfl rfl ((HB.out _ hBL).1.there 0 _ (by show 0+15≤15;decide)) HI.out HO.out ?_
 have HW:Hid (u2.setCells w.heap.size 0 (RecA.cells (recA n tx prev 3)).toArray.toList=WF):=hWF.out
 rw [HW.out]
 refine hK.out _ _ HS.out (fun hHeld=>?_)
 refine wpAnyH_done (by kernel_rfl) ?_ _
 clear hwF hWF HW hK K HS
 go_wp2
 exact bodyPost_ret (v:=.agg (RecA.cells (recA n tx prev 3)).toArray) (results_one Tryz.results130 rfl HLD.out) rfl ⟨rfl,HF.out⟩
theorem recOf_back (n:Int) (tx prev oid:Int) (a:SlotA) (next:Int) (w:World):
  Calls Tryz.prog 130 #[.int .i64 n,isbackDeed (backD tx prev oid a next)] w fun e w'=>e=.returned (.agg (RecA.cells (⟨n,tx,prev,4,oid,zeroS,a,next,[],none,0⟩)).toArray)∧Below w.heap.size w w':=by
 obtain ⟨W,hW,b0,b1,hbW,hsW⟩:=boxes2 w [.int .i64 0,.int .i64 0,.int .i64 0,.int .i64 0,.int .i64 0,.bool false,.int .i64 0,.slice none 0 0,.slice none 0 0,.bool false,.int .i64 0,.slice none 0 0,.slice none 0 0,.int .i64 0,.slice none 0 0] [.int .i64 tx,.int .i64 prev,.int .i64 oid,.bool a.v.has,.int .i64 a.v.o.kind,.slice a.aI a.v.o.ints.length a.cI,.slice a.aR a.v.o.refs.length a.cR,.int .i64 next] 100 181
 simp only [isbackDeed,backD]
 have a_setDeed:=fun W=>no_setDeed W 181 (.agg #[.int .i64 tx,.int .i64 prev,.int .i64 oid,.bool a.v.has,.int .i64 a.v.o.kind,.slice a.aI a.v.o.ints.length a.cI,.slice a.aR a.v.o.refs.length a.cR,.int .i64 next]) (by decide)
 have a_commitDeed:=fun W=>no_commitDeed W 181 (.agg #[.int .i64 tx,.int .i64 prev,.int .i64 oid,.bool a.v.has,.int .i64 a.v.o.kind,.slice a.aI a.v.o.ints.length a.cI,.slice a.aR a.v.o.refs.length a.cR,.int .i64 next]) (by decide)
 have a_abortDeed:=fun W=>no_abortDeed W 181 (.agg #[.int .i64 tx,.int .i64 prev,.int .i64 oid,.bool a.v.has,.int .i64 a.v.o.kind,.slice a.aI a.v.o.ints.length a.cI,.slice a.aR a.v.o.refs.length a.cR,.int .i64 next]) (by decide)
 have a_backDeed:=fun W=>yes_backDeed W (.agg #[.int .i64 tx,.int .i64 prev,.int .i64 oid,.bool a.v.has,.int .i64 a.v.o.kind,.slice a.aI a.v.o.ints.length a.cI,.slice a.aR a.v.o.refs.length a.cR,.int .i64 next])
 have HB:Hid (∀ u,Below W.heap.size W u→Box u w.heap.size [.int .i64 0,.int .i64 0,.int .i64 0,.int .i64 0,.int .i64 0,.bool false,.int .i64 0,.slice none 0 0,.slice none 0 0,.bool false,.int .i64 0,.slice none 0 0,.slice none 0 0,.int .i64 0,.slice none 0 0] 100∧Box u (w.heap.size+1) [.int .i64 tx,.int .i64 prev,.int .i64 oid,.bool a.v.has,.int .i64 a.v.o.kind,.slice a.aI a.v.o.ints.length a.cI,.slice a.aR a.v.o.refs.length a.cR,.int .i64 next] 181):=fun u hu=>⟨b0.below hu b0.lt,b1.below hu b1.lt⟩
 have HC:Hid (∀ w',Box w' (w.heap.size+1) [.int .i64 tx,.int .i64 prev,.int .i64 oid,.bool a.v.has,.int .i64 a.v.o.kind,.slice a.aI a.v.o.ints.length a.cI,.slice a.aR a.v.o.refs.length a.cR,.int .i64 next] 181→w'.cell? ⟨w.heap.size+1,0,none⟩=some (.int .i64 tx)∧w'.cell? ⟨w.heap.size+1,1,none⟩=some (.int .i64 prev)∧w'.cell? ⟨w.heap.size+1,2,none⟩=some (.int .i64 oid)∧w'.cell? ⟨w.heap.size+1,3,none⟩=some (.bool a.v.has)∧w'.cell? ⟨w.heap.size+1,4,none⟩=some (.int .i64 a.v.o.kind)∧w'.cell? ⟨w.heap.size+1,5,none⟩=some (.slice a.aI a.v.o.ints.length a.cI)∧w'.cell? ⟨w.heap.size+1,6,none⟩=some (.slice a.aR a.v.o.refs.length a.cR)∧w'.cell? ⟨w.heap.size+1,7,none⟩=some (.int .i64 next)):=fun w' b=>⟨b.cell 0 _ rfl,b.cell 1 _ rfl,b.cell 2 _ rfl,b.cell 3 _ rfl,b.cell 4 _ rfl,b.cell 5 _ rfl,b.cell 6 _ rfl,b.cell 7 _ rfl⟩
 have hh:=HC.out W b1
 have hlt:=b1.lt
 have HI:Hid ((Tryz.prog.info? 100).map (·.size)=some 15):=by rw [Hid];kernel_rfl
 have HO:Hid (_):=all_oneCell_toArray (oneR (⟨n,tx,prev,4,oid,zeroS,a,next,[],none,0⟩))
 clear hsW b0 b1
 go_enter Tryz.func130,Tryz.ntmps130
 go_wp2_with fail
 rw [hW.out]
 clear hW a_setDeed a_commitDeed a_abortDeed a_backDeed
 refine wp_region_held_drew (S:=fun w'=>w'.cell? ⟨w.heap.size+1,0,none⟩=some (.int .i64 tx)∧w'.cell? ⟨w.heap.size+1,1,none⟩=some (.int .i64 prev)∧w'.cell? ⟨w.heap.size+1,2,none⟩=some (.int .i64 oid)∧w'.cell? ⟨w.heap.size+1,3,none⟩=some (.bool a.v.has)∧w'.cell? ⟨w.heap.size+1,4,none⟩=some (.int .i64 a.v.o.kind)∧w'.cell? ⟨w.heap.size+1,5,none⟩=some (.slice a.aI a.v.o.ints.length a.cI)∧w'.cell? ⟨w.heap.size+1,6,none⟩=some (.slice a.aR a.v.o.refs.length a.cR)∧w'.cell? ⟨w.heap.size+1,7,none⟩=some (.int .i64 next)) (by kernel_rfl) (HC.out _ (HB.out _ (Below.refl _ _).drew).2) (fun hHeld=>?_)
 refine tq 0 (v:=.int .i64 n) rfl hHeld ?_
 try simp only [zz]
 refine tq 1 (v:=.pointer (some ⟨w.heap.size+1,0,none⟩)) rfl hHeld ?_
 try simp only [zz]
 refine tq 2 (v:=.pointer (some ⟨w.heap.size+1,0,none⟩)) rfl hHeld ?_
 try simp only [zz]
 refine tq 3 (v:=.int .i64 tx) rfl hHeld ?_
 try simp only [zz]
 refine tq 4 (v:=.pointer (some ⟨w.heap.size+1,0,none⟩)) rfl hHeld ?_
 try simp only [zz]
 refine tq 5 (v:=.pointer (some ⟨w.heap.size+1,1,none⟩)) rfl hHeld ?_
 try simp only [zz]
 refine tq 6 (v:=.int .i64 prev) rfl hHeld ?_
 try simp only [zz]
 refine tq 7 (v:=.agg #[.int .i64 tx,.int .i64 prev,.int .i64 oid,.bool a.v.has,.int .i64 a.v.o.kind,.slice a.aI a.v.o.ints.length a.cI,.slice a.aR a.v.o.refs.length a.cR,.int .i64 next]) rfl hHeld ?_
 try simp only [zz]
 refine tq 9 (v:=.pointer (some ⟨w.heap.size+1,2,none⟩)) rfl hHeld ?_
 try simp only [zz]
 refine tq 10 (v:=.int .i64 oid) rfl hHeld ?_
 try simp only [zz]
 refine tq 11 (v:=.pointer (some ⟨w.heap.size+1,3,none⟩)) rfl hHeld ?_
 try simp only [zz]
 refine tq 12 (v:=.agg #[.bool a.v.has,.int .i64 a.v.o.kind,.slice a.aI a.v.o.ints.length a.cI,.slice a.aR a.v.o.refs.length a.cR]) rfl hHeld ?_
 try simp only [zz]
 refine tq 13 (v:=.pointer (some ⟨w.heap.size+1,7,none⟩)) rfl hHeld ?_
 try simp only [zz]
 refine tq 14 (v:=.int .i64 next) rfl hHeld ?_
 try simp only [zz]
 refine wpAnyH_ready (rs:=[8]) (by kernel_rfl) (by simp) ?_
 refine AllReadyH.cons rfl (fun K hK=>?_) AllReadyH.nil
 go_simp
 refine (kind_backDeed tx prev oid a next _).mono ?_
 rintro e u1 ⟨rfl,hb1⟩
 have hB1:Below W.heap.size W u1:=((Below.refl _ _).drew).trans hb1
 refine hK.out _ _ (HC.out _ (HB.out _ hB1).2) (fun hHeld=>?_)
 clear hK K
 try simp only [zz]
 have hBL:=hB1
 refine tq 15 (v:=.agg (RecA.cells (⟨n,tx,prev,4,oid,zeroS,a,next,[],none,0⟩)).toArray) rfl hHeld ?_
 try simp only [zz]
 obtain ⟨WF,hWF,bF,hwF,hsF⟩:=range_fill [] [.int .i64 0,.int .i64 0,.int .i64 0,.int .i64 0,.int .i64 0,.bool false,.int .i64 0,.slice none 0 0,.slice none 0 0,.bool false,.int .i64 0,.slice none 0 0,.slice none 0 0,.int .i64 0,.slice none 0 0] (RecA.cells (⟨n,tx,prev,4,oid,zeroS,a,next,[],none,0⟩)) [] (by simpa using (HB.out _ hBL).1) rfl
 have HF:Hid (Below w.heap.size w WF):=(hbW.trans (hBL.mono hbW.size)).trans (hwF.below (by omega) (by have:=hBL.size;omega))
 have HLD:Hid (_=_):=rec_load (⟨n,tx,prev,4,oid,zeroS,a,next,[],none,0⟩) (by simpa using bF)
 have HS:Hid (WF.cell? ⟨w.heap.size+1,0,none⟩=some (.int .i64 tx)∧WF.cell? ⟨w.heap.size+1,1,none⟩=some (.int .i64 prev)∧WF.cell? ⟨w.heap.size+1,2,none⟩=some (.int .i64 oid)∧WF.cell? ⟨w.heap.size+1,3,none⟩=some (.bool a.v.has)∧WF.cell? ⟨w.heap.size+1,4,none⟩=some (.int .i64 a.v.o.kind)∧WF.cell? ⟨w.heap.size+1,5,none⟩=some (.slice a.aI a.v.o.ints.length a.cI)∧WF.cell? ⟨w.heap.size+1,6,none⟩=some (.slice a.aR a.v.o.refs.length a.cR)∧WF.cell? ⟨w.heap.size+1,7,none⟩=some (.int .i64 next)):=HC.out _ ((HB.out _ hBL).2.within hwF (by omega))
 refine wpAnyH_ready (rs:=[16]) (by kernel_rfl) (by simp) ?_
 refine AllReadyH.cons rfl (fun K hK=>?_) AllReadyH.nil
 rw [if_pos (by rfl)]
 refine wp_store_mid 100 (.tmp 4) (.tmp 67) rfl w.heap.size 0 (RecA.cells (⟨n,tx,prev,4,oid,zeroS,a,next,[],none,0⟩)).toArray rfl rfl ((HB.out _ hBL).1.there 0 _ (by show 0+15≤15;decide)) HI.out HO.out ?_
 have HW:Hid (u1.setCells w.heap.size 0 (RecA.cells (⟨n,tx,prev,4,oid,zeroS,a,next,[],none,0⟩)).toArray.toList=WF):=hWF.out
 rw [HW.out]
 refine hK.out _ _ HS.out (fun hHeld=>?_)
 refine wpAnyH_done (by kernel_rfl) ?_ _
 clear hwF hWF HW hK K HS
 go_wp2
 exact bodyPost_ret (v:=.agg (RecA.cells (⟨n,tx,prev,4,oid,zeroS,a,next,[],none,0⟩)).toArray) (results_one Tryz.results130 rfl HLD.out) rfl ⟨rfl,HF.out⟩
theorem recOf_end (n:Int) (tx prev:Int) (w:World):
  Calls Tryz.prog 130 #[.int .i64 n,isendDeed (linkD tx prev)] w fun e w'=>e=.returned (.agg (RecA.cells (recA n tx prev 5)).toArray)∧Below w.heap.size w w':=by
 obtain ⟨W,hW,b0,b1,hbW,hsW⟩:=boxes2 w [.int .i64 0,.int .i64 0,.int .i64 0,.int .i64 0,.int .i64 0,.bool false,.int .i64 0,.slice none 0 0,.slice none 0 0,.bool false,.int .i64 0,.slice none 0 0,.slice none 0 0,.int .i64 0,.slice none 0 0] [.int .i64 tx,.int .i64 prev] 100 182
 simp only [isendDeed,linkD]
 have a_setDeed:=fun W=>no_setDeed W 182 (.agg #[.int .i64 tx,.int .i64 prev]) (by decide)
 have a_commitDeed:=fun W=>no_commitDeed W 182 (.agg #[.int .i64 tx,.int .i64 prev]) (by decide)
 have a_abortDeed:=fun W=>no_abortDeed W 182 (.agg #[.int .i64 tx,.int .i64 prev]) (by decide)
 have a_backDeed:=fun W=>no_backDeed W 182 (.agg #[.int .i64 tx,.int .i64 prev]) (by decide)
 have a_endDeed:=fun W=>yes_endDeed W (.agg #[.int .i64 tx,.int .i64 prev])
 have HB:Hid (∀ u,Below W.heap.size W u→Box u w.heap.size [.int .i64 0,.int .i64 0,.int .i64 0,.int .i64 0,.int .i64 0,.bool false,.int .i64 0,.slice none 0 0,.slice none 0 0,.bool false,.int .i64 0,.slice none 0 0,.slice none 0 0,.int .i64 0,.slice none 0 0] 100∧Box u (w.heap.size+1) [.int .i64 tx,.int .i64 prev] 182):=fun u hu=>⟨b0.below hu b0.lt,b1.below hu b1.lt⟩
 have HC:Hid (∀ w',Box w' (w.heap.size+1) [.int .i64 tx,.int .i64 prev] 182→w'.cell? ⟨w.heap.size+1,0,none⟩=some (.int .i64 tx)∧w'.cell? ⟨w.heap.size+1,1,none⟩=some (.int .i64 prev)):=fun w' b=>⟨b.cell 0 _ rfl,b.cell 1 _ rfl⟩
 have hh:=HC.out W b1
 have hlt:=b1.lt
 have HI:Hid ((Tryz.prog.info? 100).map (·.size)=some 15):=by rw [Hid];kernel_rfl
 have HO:Hid (_):=all_oneCell_toArray (oneR (recA n tx prev 5))
 clear hsW b0 b1
 go_enter Tryz.func130,Tryz.ntmps130
 go_wp2_with fail
 rw [hW.out]
 clear hW a_setDeed a_commitDeed a_abortDeed a_backDeed a_endDeed
 refine wp_region_held_drew (S:=fun w'=>w'.cell? ⟨w.heap.size+1,0,none⟩=some (.int .i64 tx)∧w'.cell? ⟨w.heap.size+1,1,none⟩=some (.int .i64 prev)) (by kernel_rfl) (HC.out _ (HB.out _ (Below.refl _ _).drew).2) (fun hHeld=>?_)
 refine tq 0 (v:=.int .i64 n) rfl hHeld ?_
 try simp only [zz]
 refine tq 1 (v:=.pointer (some ⟨w.heap.size+1,0,none⟩)) rfl hHeld ?_
 try simp only [zz]
 refine tq 2 (v:=.agg #[.int .i64 tx,.int .i64 prev]) rfl hHeld ?_
 try simp only [zz]
 refine tq 3 (v:=.agg #[.int .i64 tx,.int .i64 prev]) rfl hHeld ?_
 try simp only [zz]
 refine wpAnyH_ready (rs:=[4]) (by kernel_rfl) (by simp) ?_
 refine AllReadyH.cons rfl (fun K hK=>?_) AllReadyH.nil
 go_simp
 refine (kind_endDeed tx prev _).mono ?_
 rintro e u1 ⟨rfl,hb1⟩
 have hB1:Below W.heap.size W u1:=((Below.refl _ _).drew).trans hb1
 refine hK.out _ _ (HC.out _ (HB.out _ hB1).2) (fun hHeld=>?_)
 clear hK K
 try simp only [zz]
 refine wpAnyH_ready (rs:=[5]) (by kernel_rfl) (by simp) ?_
 refine AllReadyH.cons rfl (fun K hK=>?_) AllReadyH.nil
 go_simp
 refine (recAt_any n tx prev 5 _).mono ?_
 rintro e u2 ⟨rfl,hb2⟩
 have hBL:Below W.heap.size W u2:=hB1.trans (hb2.mono hB1.size)
 refine hK.out _ _ (HC.out _ (HB.out _ hBL).2) (fun hHeld=>?_)
 clear hK K
 try simp only [zz]
 obtain ⟨WF,hWF,bF,hwF,hsF⟩:=range_fill [] [.int .i64 0,.int .i64 0,.int .i64 0,.int .i64 0,.int .i64 0,.bool false,.int .i64 0,.slice none 0 0,.slice none 0 0,.bool false,.int .i64 0,.slice none 0 0,.slice none 0 0,.int .i64 0,.slice none 0 0] (RecA.cells (recA n tx prev 5)) [] (by simpa using (HB.out _ hBL).1) rfl
 have HF:Hid (Below w.heap.size w WF):=(hbW.trans (hBL.mono hbW.size)).trans (hwF.below (by omega) (by have:=hBL.size;omega))
 have HLD:Hid (_=_):=rec_load (recA n tx prev 5) (by simpa using bF)
 have HS:Hid (WF.cell? ⟨w.heap.size+1,0,none⟩=some (.int .i64 tx)∧WF.cell? ⟨w.heap.size+1,1,none⟩=some (.int .i64 prev)):=HC.out _ ((HB.out _ hBL).2.within hwF (by omega))
 refine wpAnyH_ready (rs:=[6]) (by kernel_rfl) (by simp) ?_
 refine AllReadyH.cons rfl (fun K hK=>?_) AllReadyH.nil
 rw [if_pos (by rfl)]
 refine wp_store_mid 100 (.tmp 4) (.tmp 76) rfl w.heap.size 0 (RecA.cells (recA n tx prev 5)).toArray rfl rfl ((HB.out _ hBL).1.there 0 _ (by show 0+15≤15;decide)) HI.out HO.out ?_
 have HW:Hid (u2.setCells w.heap.size 0 (RecA.cells (recA n tx prev 5)).toArray.toList=WF):=hWF.out
 rw [HW.out]
 refine hK.out _ _ HS.out (fun hHeld=>?_)
 refine wpAnyH_done (by kernel_rfl) ?_ _
 clear hwF hWF HW hK K HS
 go_wp2
 exact bodyPost_ret (v:=.agg (RecA.cells (recA n tx prev 5)).toArray) (results_one Tryz.results130 rfl HLD.out) rfl ⟨rfl,HF.out⟩
theorem recOf_check (n:Int) (ls:List LiveV) (aL:Option Addr) (cL:Nat) (w:World):
  Calls Tryz.prog 130 #[.int .i64 n,ischeckDeed (checkD ls aL cL)] w fun e w'=>e=.returned (.agg (RecA.cells (⟨n,0,0,6,0,zeroS,zeroS,0,ls,aL,cL⟩)).toArray)∧Below w.heap.size w w':=by
 obtain ⟨W,hW,b0,b1,hbW,hsW⟩:=boxes2 w [.int .i64 0,.int .i64 0,.int .i64 0,.int .i64 0,.int .i64 0,.bool false,.int .i64 0,.slice none 0 0,.slice none 0 0,.bool false,.int .i64 0,.slice none 0 0,.slice none 0 0,.int .i64 0,.slice none 0 0] [.slice aL ls.length cL] 100 184
 simp only [ischeckDeed,checkD]
 have a_setDeed:=fun W=>no_setDeed W 184 (.agg #[.slice aL ls.length cL]) (by decide)
 have a_commitDeed:=fun W=>no_commitDeed W 184 (.agg #[.slice aL ls.length cL]) (by decide)
 have a_abortDeed:=fun W=>no_abortDeed W 184 (.agg #[.slice aL ls.length cL]) (by decide)
 have a_backDeed:=fun W=>no_backDeed W 184 (.agg #[.slice aL ls.length cL]) (by decide)
 have a_endDeed:=fun W=>no_endDeed W 184 (.agg #[.slice aL ls.length cL]) (by decide)
 have a_checkDeed:=fun W=>yes_checkDeed W (.agg #[.slice aL ls.length cL])
 have HB:Hid (∀ u,Below W.heap.size W u→Box u w.heap.size [.int .i64 0,.int .i64 0,.int .i64 0,.int .i64 0,.int .i64 0,.bool false,.int .i64 0,.slice none 0 0,.slice none 0 0,.bool false,.int .i64 0,.slice none 0 0,.slice none 0 0,.int .i64 0,.slice none 0 0] 100∧Box u (w.heap.size+1) [.slice aL ls.length cL] 184):=fun u hu=>⟨b0.below hu b0.lt,b1.below hu b1.lt⟩
 have HC:Hid (∀ w',Box w' (w.heap.size+1) [.slice aL ls.length cL] 184→w'.cell? ⟨w.heap.size+1,0,none⟩=some (.slice aL ls.length cL)):=fun w' b=>b.cell 0 _ rfl
 have hh:=HC.out W b1
 have hlt:=b1.lt
 have HI:Hid ((Tryz.prog.info? 100).map (·.size)=some 15):=by rw [Hid];kernel_rfl
 have HO:Hid (_):=all_oneCell_toArray (oneR (⟨n,0,0,6,0,zeroS,zeroS,0,ls,aL,cL⟩))
 clear hsW b0 b1
 go_enter Tryz.func130,Tryz.ntmps130
 go_wp2_with fail
 rw [hW.out]
 clear hW a_setDeed a_commitDeed a_abortDeed a_backDeed a_endDeed a_checkDeed
 refine wp_region_held_drew (S:=fun w'=>w'.cell? ⟨w.heap.size+1,0,none⟩=some (.slice aL ls.length cL)) (by kernel_rfl) (HC.out _ (HB.out _ (Below.refl _ _).drew).2) (fun hHeld=>?_)
 refine tq 0 (v:=.int .i64 n) rfl hHeld ?_
 try simp only [zz]
 refine tq 1 (v:=.agg #[.slice aL ls.length cL]) rfl hHeld ?_
 try simp only [zz]
 refine tq 3 (v:=.pointer (some ⟨w.heap.size+1,0,none⟩)) rfl hHeld ?_
 try simp only [zz]
 refine tq 4 (v:=.slice aL ls.length cL) rfl hHeld ?_
 try simp only [zz]
 refine wpAnyH_ready (rs:=[2]) (by kernel_rfl) (by simp) ?_
 refine AllReadyH.cons rfl (fun K hK=>?_) AllReadyH.nil
 go_simp
 refine (kind_checkDeed ls aL cL _).mono ?_
 rintro e u1 ⟨rfl,hb1⟩
 have hB1:Below W.heap.size W u1:=((Below.refl _ _).drew).trans hb1
 refine hK.out _ _ (HC.out _ (HB.out _ hB1).2) (fun hHeld=>?_)
 clear hK K
 try simp only [zz]
 have hBL:=hB1
 refine tq 5 (v:=.agg (RecA.cells (⟨n,0,0,6,0,zeroS,zeroS,0,ls,aL,cL⟩)).toArray) rfl hHeld ?_
 try simp only [zz]
 obtain ⟨WF,hWF,bF,hwF,hsF⟩:=range_fill [] [.int .i64 0,.int .i64 0,.int .i64 0,.int .i64 0,.int .i64 0,.bool false,.int .i64 0,.slice none 0 0,.slice none 0 0,.bool false,.int .i64 0,.slice none 0 0,.slice none 0 0,.int .i64 0,.slice none 0 0] (RecA.cells (⟨n,0,0,6,0,zeroS,zeroS,0,ls,aL,cL⟩)) [] (by simpa using (HB.out _ hBL).1) rfl
 have HF:Hid (Below w.heap.size w WF):=(hbW.trans (hBL.mono hbW.size)).trans (hwF.below (by omega) (by have:=hBL.size;omega))
 have HLD:Hid (_=_):=rec_load (⟨n,0,0,6,0,zeroS,zeroS,0,ls,aL,cL⟩) (by simpa using bF)
 have HS:Hid (WF.cell? ⟨w.heap.size+1,0,none⟩=some (.slice aL ls.length cL)):=HC.out _ ((HB.out _ hBL).2.within hwF (by omega))
 refine wpAnyH_ready (rs:=[6]) (by kernel_rfl) (by simp) ?_
 refine AllReadyH.cons rfl (fun K hK=>?_) AllReadyH.nil
 rw [if_pos (by rfl)]
 refine wp_store_mid 100 (.tmp 4) (.tmp 85) rfl w.heap.size 0 (RecA.cells (⟨n,0,0,6,0,zeroS,zeroS,0,ls,aL,cL⟩)).toArray rfl rfl ((HB.out _ hBL).1.there 0 _ (by show 0+15≤15;decide)) HI.out HO.out ?_
 have HW:Hid (u1.setCells w.heap.size 0 (RecA.cells (⟨n,0,0,6,0,zeroS,zeroS,0,ls,aL,cL⟩)).toArray.toList=WF):=hWF.out
 rw [HW.out]
 refine hK.out _ _ HS.out (fun hHeld=>?_)
 refine wpAnyH_done (by kernel_rfl) ?_ _
 clear hwF hWF HW hK K HS
 go_wp2
 exact bodyPost_ret (v:=.agg (RecA.cells (⟨n,0,0,6,0,zeroS,zeroS,0,ls,aL,cL⟩)).toArray) (results_one Tryz.results130 rfl HLD.out) rfl ⟨rfl,HF.out⟩
theorem recOf_nil (n:Int) (w:World):Calls Tryz.prog 130 #[.int .i64 n,.nilIface] w fun e w'=>e=.returned (.agg (recA 0 0 0 0).cells.toArray)∧Below w.heap.size w w':=by
 obtain ⟨W,hW,b1,hbW,hsW⟩:=boxes1 w (recA 0 0 0 0).cells 100
 have HL:Hid (_=_):=rec_load (recA 0 0 0 0) b1
 simp only [recA,RecA.cells,zeroS,List.length_nil] at hW
 clear hsW b1
 have a_setDeed:=nil_setDeed
 have a_commitDeed:=nil_commitDeed
 have a_abortDeed:=nil_abortDeed
 have a_backDeed:=nil_backDeed
 have a_endDeed:=nil_endDeed
 have a_checkDeed:=nil_checkDeed
 go_enter Tryz.func130,Tryz.ntmps130
 go_wp2
 refine bodyPost_ret (v:=.agg (recA 0 0 0 0).cells.toArray) (results_one Tryz.results130 rfl ?_) rfl ⟨rfl,?_⟩
 ·rw [show _=W from hW.out];exact HL.out
 ·rw [show _=W from hW.out];exact hbW
theorem zero_own (w:World) (lo hi:Nat) (h:hi≤w.heap.size):zeroS.own w lo hi:=⟨ownI_nil _ _ _ h,ownI_nil _ _ _ h,fun k hk=>by cases hk⟩
theorem own_zeroR (w:World) (lo hi:Nat) (h:hi≤w.heap.size):zeroR.own w lo hi:=⟨zero_own w lo hi h,zero_own w lo hi h,ownL_nil w lo hi h,by decide⟩
theorem rec_out {w:World} {C:Nat} (q:RecA) (old:List Value) (ho:old.length=15) (bC:Box w C old 100):
  ∃ WF,Hid (w.setCells C 0 q.cells=WF)∧Within C (C+1) w WF∧WF.heap.size=w.heap.size∧Hid (w.there C 0 q.cells.toArray.size)∧Hid ((loadVar 100 ⟨C,0,none⟩).run Tryz.prog WF=.ok (.agg q.cells.toArray) WF)∧Box WF C q.cells 100:=by
 obtain ⟨WF,hWF,bF,hwF,hsF⟩:=range_fill [] old q.cells [] (by simpa using bC) (by rw [ho];rfl)
 have bF':Box WF C q.cells 100:=by simpa using bF
 exact ⟨WF,hWF,hwF,hsF,bC.there 0 _ (by rw [ho];show 0+15≤15;decide),rec_load q bF',bF'⟩
theorem rec_info (q:RecA):(Tryz.prog.info? 100).map (·.size)=some q.cells.length:=by show _=some 15;kernel_rfl
theorem rec_one (q:RecA):q.cells.toArray.all (·.oneCell')=true:=all_oneCell_toArray (oneR q)
end Go.Proofs.YtcoeamamaifoeaaGreatDoor
namespace Go.Proofs.YtcoeamamaifoeaaGreatDoor
open Go.RowKit
theorem Tryz.infoRec:(Tryz.prog.info? 100).map (fun i=>(i.zero,i.size,i.bytes))=some (some (.agg zeroR.cells.toArray),15,200):=by kernel_rfl
theorem ownsRow_at {w:World} {base:Nat} {e:TypeId} {size n:Nat} {v:Value} {xs:List Value} (h:w.ownsRow base e size v n xs) {k:Nat} (hk:v.ownBlock=some k):∃ cur,w.heap[k]? =some (.cells cur e (0,0)):=by
 rcases h.2 with ⟨rfl,_⟩ | ⟨g,cap,cur,rfl,_,hg,_⟩
 ·cases hk
 ·cases hk
  exact ⟨cur,hg⟩
theorem row_apart {w:World} {base lo hi n:Nat} {v:Value} {xs:List Value} {r:RecA} (h:w.ownsRow base 100 15 v n xs) (hr:r.own w lo hi):∀ k,v.ownBlock=some k→k∉r.blocks:=by
 intro k hk hm
 obtain ⟨cur,hc⟩:=ownsRow_at h hk
 simp only [RecA.blocks,SlotA.blocks,List.mem_append,Option.mem_toList] at hm
 have no:∀ {b2 s2 n2:Nat} {e2:TypeId} {v2:Value} {x2:List Value},w.ownsRow b2 e2 s2 v2 n2 x2→v2.ownBlock=some k→e2=100:=by
  intro b2 s2 n2 e2 v2 x2 h2 hk2
  obtain ⟨cur2,hc2⟩:=ownsRow_at h2 hk2
  rw [hc] at hc2
  simp only [Option.some.injEq,Obj.cells.injEq] at hc2
  exact hc2.2.1.symm
 rcases hm with (h1 | h1) | (h1 | h1) | h1
 ·have:=no hr.bf.ints.1 h1;cases this
 ·have:=no hr.bf.refs.1 h1;cases this
 ·have:=no hr.af.ints.1 h1;cases this
 ·have:=no hr.af.refs.1 h1;cases this
 ·have:=no hr.txs.1 h1;cases this
end Go.Proofs.YtcoeamamaifoeaaGreatDoor