/- Several texts in one, in their order. -/
import Derived.Test.YtcoeamamaifoeaaGreatDoorPCrashx11
import Derived.Test.YtcoeamamaifoeaaGreatDoorPCrashx6
import Derived.Deep.RegionLaw
import Derived.Deep.DrawnRows
import Derived.Deep.RegionHeld3
import Derived.Test.YtcoeamamaifoeaaGreatDoorPCrashx8
import Derived.Test.YtcoeamamaifoeaaGreatDoorPCrashx10
import Derived.Test.YtcoeamamaifoeaaGreatDoorPCrashx1
set_option maxHeartbeats 8000000
set_option maxRecDepth 100000
namespace Go.Proofs.YtcoeamamaifoeaaGreatDoor
open Go.RowKit
attribute [local go_sem ↓] Go.wp_at_zero Go.wp_at_succ
theorem copyRec_own (r:RecA) (w:World) (hr:r.reads w) (hl:r.short 1099511627776) (hc:r.aL=none→r.cL=0):
  Calls Tryz.prog 103 #[.agg r.cells.toArray] w fun e w'=>∃ t:RecA,e=.returned (.agg t.cells.toArray)∧Hid (t.v=r.v)∧t.own w' w.heap.size w'.heap.size∧Below w.heap.size w w':=by
 obtain ⟨W,hW,b0,b1,hbW,hsW⟩:=boxes2 w r.cells [.int .i64 0,.int .i64 0,.int .i64 0,.int .i64 0,.int .i64 0,.bool false,.int .i64 0,.slice none 0 0,.slice none 0 0,.bool false,.int .i64 0,.slice none 0 0,.slice none 0 0,.int .i64 0,.slice none 0 0] 100 100
 have hs0:w.heap.size+1<W.heap.size:=by omega
 clear hsW
 have HC1:Hid (∀ u,Below W.heap.size W u→Calls _ _ _ _ _):=fun u hu=>copySlot_own r.bf u (ReadsO.below hr.bf (hbW.trans (hu.mono (by omega)))) hl.bf.1 hl.bf.2
 have HC2:Hid (∀ u,Below W.heap.size W u→Calls _ _ _ _ _):=fun u hu=>copySlot_own r.af u (ReadsO.below hr.af (hbW.trans (hu.mono (by omega)))) hl.af.1 hl.af.2
 have HC:Hid (r.aL=none→r.cL=0):=hc
 have HWV:Hid (∀ (t1 t2:SlotA) (aL:Option Addr) (cL:Nat),t1.v=r.bf.v→t2.v=r.af.v→(r.with t1 t2 aL cL).v=r.v):=fun t1 t2 aL cL h1 h2=>with_v h1 h2
 have HWC:Hid (∀ (t1 t2:SlotA) (aL:Option Addr) (cL:Nat),(r.with t1 t2 aL cL).cells=[.int .i64 r.lsn,.int .i64 r.tx,.int .i64 r.prev,.int .i64 r.kind,.int .i64 r.oid,.bool t1.v.has,.int .i64 t1.v.o.kind,.slice t1.aI t1.v.o.ints.length t1.cI,.slice t1.aR t1.v.o.refs.length t1.cR,.bool t2.v.has,.int .i64 t2.v.o.kind,.slice t2.aI t2.v.o.ints.length t2.cI,.slice t2.aR t2.v.o.refs.length t2.cR,.int .i64 r.next,.slice aL r.txs.length cL]):=fun _ _ _ _=>rfl
 simp only [RecA.cells] at b0 hW ⊢
 simp only [SlotA.cells] at HC1 HC2
 clear hc
 go_enter Tryz.func103,Tryz.ntmps103
 go_wp2_with fail
 rw [hW.out]
 clear hW
 have x5:=b0.cell 5 _ rfl
 have x6:=b0.cell 6 _ rfl
 have x7:=b0.cell 7 _ rfl
 have x8:=b0.cell 8 _ rfl
 have x9:=b0.cell 9 _ rfl
 have x10:=b0.cell 10 _ rfl
 have x11:=b0.cell 11 _ rfl
 have x12:=b0.cell 12 _ rfl
 have HBX:Hid (∀ u,Below W.heap.size W u→Box u w.heap.size _ _):=fun u hu=>b0.below hu b0.lt
 have HBY:Hid (∀ u,Below W.heap.size W u→Box u (w.heap.size+1) _ _):=fun u hu=>b1.below hu b1.lt
 clear b0 b1
 go_region_law ((first
  | (go_simp;go_at_call 93;refine (HC1.out _ (Below.refl _ _).drew).mono ?_;clear HC1;rintro e u1 ⟨t1,rfl,hv1,ho1,hb1⟩;have hb1':=(Below.refl W.heap.size W).drew.trans hb1;have z9:=(HBX.out u1 hb1').cell 9 _ rfl;have z10:=(HBX.out u1 hb1').cell 10 _ rfl;have z11:=(HBX.out u1 hb1').cell 11 _ rfl;have z12:=(HBX.out u1 hb1').cell 12 _ rfl)
  | (go_simp;go_at_call 93;refine (HC2.out _ hb1').mono ?_;clear HC2;rintro e u2 ⟨t2,rfl,hv2,ho2,hb2⟩;have hb2':=hb1'.trans (hb2.mono hb1'.size);have y5:=(HBX.out u2 hb2').cell 5 _ rfl;have y6:=(HBX.out u2 hb2').cell 6 _ rfl;have y7:=(HBX.out u2 hb2').cell 7 _ rfl;have y8:=(HBX.out u2 hb2').cell 8 _ rfl;have y9:=(HBX.out u2 hb2').cell 9 _ rfl;have y10:=(HBX.out u2 hb2').cell 10 _ rfl;have y11:=(HBX.out u2 hb2').cell 11 _ rfl;have y12:=(HBX.out u2 hb2').cell 12 _ rfl;have g5:=(HBX.out u2 hb2').frozen 5;have g6:=(HBX.out u2 hb2').frozen 6;have g7:=(HBX.out u2 hb2').frozen 7;have g8:=(HBX.out u2 hb2').frozen 8;have g9:=(HBX.out u2 hb2').frozen 9;have g10:=(HBX.out u2 hb2').frozen 10;have g11:=(HBX.out u2 hb2').frozen 11;have g12:=(HBX.out u2 hb2').frozen 12)
  | fail))
 all_goals
  have hs1:=hb1'.size
  have hs2:=hb2.size
  have b02:=HBX.out u2 hb2'
  have b12:=HBY.out u2 hb2'
  have hB2:Below w.heap.size w u2:=hbW.trans (hb2'.mono (by omega))
  have ho12:t1.own u2 W.heap.size u1.heap.size:=OwnO.below ho1 hb2
  obtain ⟨Wa,hWa,b0a,hwa,hsa⟩:=box_quad b02 5 6 7 8 (.bool t1.v.has) (.int .i64 t1.v.o.kind) (.slice t1.aI t1.v.o.ints.length t1.cI) (.slice t1.aR t1.v.o.refs.length t1.cR)
  obtain ⟨Wb,hWb,b0b,hwb,hsb⟩:=box_quad b0a 9 10 11 12 (.bool t2.v.has) (.int .i64 t2.v.o.kind) (.slice t2.aI t2.v.o.ints.length t2.cI) (.slice t2.aR t2.v.o.refs.length t2.cR)
  have hsaa:=Nat.le_of_eq hsa
  have hsab:=Nat.le_of_eq hsa.symm
  have hsba:=Nat.le_of_eq hsb
  have hsbb:=Nat.le_of_eq hsb.symm
  simp only [List.set] at b0b
  rw [hWa.out,hWb.out]
  have b1b:=(b12.within hwa (by omega)).within hwb (by omega)
  have hoA:=OwnO.within (OwnO.within ho12 hwa (.inr (by omega))) hwb (.inr (by omega))
  have hoB:=OwnO.within (OwnO.within ho2 hwa (.inr (by omega))) hwb (.inr (by omega))
  have hB4:Below w.heap.size w Wb:=(hB2.trans (hwa.below (by omega) (by omega))).trans (hwb.below (by omega) (by omega))
  clear hWa hWb b02 b12 b0a hwa hwb hsa hsb ho1 ho2 ho12 hb1 hb2 hb1' hb2' x5 x6 x7 x8 x9 x10 x11 x12 z9 z10 z11 z12 y5 y6 y7 y8 y9 y10 y11 y12 g5 g6 g7 g8 g9 g10 g11 g12 HBX HBY hB2
  have x14:=b0b.cell 14 _ rfl
  have hA1:([]:List LiveV).length+r.txs.length≤1099511627776:=by have:=hl.txs;simp only [List.length_nil];omega
  have hrt:ReadsL Wb r.aL r.txs:=hr.txs.below hB4
  have oE:=ownL_nil Wb Wb.heap.size Wb.heap.size (Nat.le_refl _)
  go_wp2_with (at_builtin;refine append_lives rfl _ _ rfl Wb.heap.size _ none 0 [] rfl oE r.aL r.cL r.txs rfl hrt HC.out hA1 (Nat.le_refl _) ?_)
  intro aL cL ys w6 hys o6 g6
  have hw6:Within Wb.heap.size Wb.heap.size Wb w6:=Within.of_grown g6 (fun j hj=>by cases hj)
  have hs6:=hw6.size
  have b06:=b0b.within hw6 (by omega)
  have b16:=b1b.within hw6 (by omega)
  have hoA6:=OwnO.within hoA hw6 (.inl (by omega))
  have hoB6:=OwnO.within hoB hw6 (.inl (by omega))
  have hB6:Below w.heap.size w w6:=hB4.trans (hw6.below (by omega) (by omega))
  obtain rfl:ys=r.txs:=hys.out.trans (List.nil_append _)
  clear hys g6 hw6 oE b0b b1b hoA hoB x14 hrt
  have HAP:Hid ((t1.blocks++(t2.blocks++(Value.slice aL r.txs.length cL).ownBlock.toList)).Nodup):=rec_apart (c:=Wb.heap.size) hoA6 (OwnO.widen hoB6 (Nat.le_refl _) (show _≤Wb.heap.size by omega) (by omega)) o6 (by omega)
  have x14:=b06.cell 14 _ rfl
  have f14:=b06.frozen 14
  obtain ⟨W7,hW7,b07,hw7,hs7⟩:=box_set b06 14 (.slice aL r.txs.length cL)
  have hs7a:=Nat.le_of_eq hs7
  have hs7b:=Nat.le_of_eq hs7.symm
  clear hs7
  simp only [List.set] at b07
  have b17:=b16.within hw7 (by omega)
  have b07':Box W7 w.heap.size (r.with t1 t2 aL cL).cells 100:=by rw [HWC.out];exact b07
  have hoA7:=OwnO.within hoA6 hw7 (.inr (by omega))
  have hoB7:=OwnO.within hoB6 hw7 (.inr (by omega))
  have o7:=o6.within hw7 (.inr (by omega))
  have hB7:Below w.heap.size w W7:=hB6.trans (hw7.below (by omega) (by omega))
  clear hw7 b06 b16 hoA6 hoB6 o6
  go_upto_region 3 with fail
  rw [hW7.out]
  clear x14 f14 hW7
  obtain ⟨WF,hWF,hwF,hsF,HTF,HLF,bF⟩:=rec_out (r.with t1 t2 aL cL) _ rfl b17
  have hsFa:=Nat.le_of_eq hsF
  have hsFb:=Nat.le_of_eq hsF.symm
  clear hsF
  have hoF:(r.with t1 t2 aL cL).own WF w.heap.size WF.heap.size:=⟨OwnO.widen (OwnO.within hoA7 hwF (.inr (by omega))) (by omega) (by omega) (Nat.le_refl _),OwnO.widen (OwnO.within hoB7 hwF (.inr (by omega))) (by omega) (by omega) (Nat.le_refl _),(o7.within hwF (.inr (by omega))).widen (by omega) (by omega) (Nat.le_refl _),HAP.out⟩
  have hbF:Below w.heap.size w WF:=hB7.trans (hwF.below (by omega) (by omega))
  have HF:Hid (_∧_∧_):=⟨HWV.out t1 t2 aL cL hv1.out hv2.out,hoF,hbF⟩
  have rT:W7.rangeAt w.heap.size 0 (r.with t1 t2 aL cL).cells:=Box.range [] _ [] (by simpa using b07')
  clear hoF hbF bF hwF b07 b07' b17 hoA7 hoB7 o7 HAP HWC HWV
  generalize r.with t1 t2 aL cL=TT at*
  go_wp2_with (first | (guard_target=wpList _ _ _ (Oper.mk (some 15) _ _ _ _ _::_) _ _;refine wpList_load_mid rfl 100 (.tmp 1) rfl w.heap.size 0 rfl TT.cells _ rT Tryz.underlying100 rfl (rec_info _) ?_) | (guard_target=wpList _ _ _ (Oper.mk none (Op.store _ (Operand.tmp 2) _) _ _ _ _::_) _ _;refine wpList_store_mid rfl 100 (.tmp 2) (.tmp 15) rfl (w.heap.size+1) 0 TT.cells.toArray rfl rfl HTF.out (rec_info _) (rec_one _) ?_) | fail)
  rw [hWF.out]
  exact bodyPost_ret (v:=.agg TT.cells.toArray) (results_one Tryz.results103 rfl HLF.out) rfl ⟨TT,rfl,HF.out.1,HF.out.2.1,HF.out.2.2⟩
end Go.Proofs.YtcoeamamaifoeaaGreatDoor
namespace Go.Proofs.YtcoeamamaifoeaaGreatDoor
open Go.RowKit
theorem rep_len (n:Nat) (r:RecA):(List.replicate n r).length=n:=by simp
theorem zero_cellsRs (n:Nat):(madeCells (Value.agg zeroR.cells.toArray).cells (n*15)).toList=cellsRs (List.replicate n zeroR):=by
 apply List.ext_getElem?
 intro i
 by_cases h:i<n*15
 ·have e:=cellsRs_at (List.replicate n zeroR) (i / 15) (i % 15) (by simp;omega) (Nat.mod_lt _ (by omega))
  rw [show i / 15*15+i % 15=i by omega] at e
  rw [e]
  have hg:(List.replicate n zeroR).getD (i / 15) zeroR=zeroR:=by simp [List.getD,show i / 15<n by omega]
  rw [hg]
  simp only [madeCells,Array.toList_map,List.getElem?_map,Array.toList_range,List.getElem?_range h,Option.map_some]
  have hm:i % 15<15:=Nat.mod_lt _ (by omega)
  have hz:∀ j,j<15→some ((Value.agg zeroR.cells.toArray).cells[j]!)=zeroR.cells[j]? :=by
   intro j hj
   rcases (by omega:j=0∨j=1∨j=2∨j=3∨j=4∨j=5∨j=6∨j=7∨j=8∨j=9∨j=10∨j=11∨j=12∨j=13∨j=14) with rfl | rfl | rfl | rfl | rfl | rfl | rfl | rfl | rfl | rfl | rfl | rfl | rfl | rfl | rfl<;>rfl
  exact hz _ hm
 ·rw [List.getElem?_eq_none (by simp [size_madeCells];omega),List.getElem?_eq_none (by rw [cellsRs_len];simp;omega)]
theorem own_zeroRs {w:World} {lo hi g c:Nat} (n:Nat) (h:w.ownsRow lo 100 15 (.slice (some ⟨g,0,none⟩) n c) n (cellsRs (List.replicate n zeroR))) (ht:hi≤w.heap.size) (hg:g<hi):OwnRs w lo hi (some ⟨g,0,none⟩) c (List.replicate n zeroR):=by
 refine ⟨by rw [rep_len];exact h,ht,fun k hk=>by cases hk;exact hg,fun r hr=>?_,?_⟩
 ·rw [(List.mem_replicate.1 hr).2]
  exact own_zeroR w lo hi ht
 ·have e:(List.replicate n zeroR).flatMap RecA.blocks=[]:=by
   rw [List.flatMap_eq_nil_iff]
   intro r hr
   rw [(List.mem_replicate.1 hr).2]
   rfl
  rw [e]
  simp [Value.ownBlock]
def Came (rs ts:List RecA) (k:Nat):Prop:=ts.length=k∧ts.map RecA.v=(rs.take k).map RecA.v
theorem came_none (rs:List RecA):Came rs [] 0:=⟨rfl,by simp⟩
theorem Came.snoc {rs ts:List RecA} {k:Nat} (h:Came rs ts k) (hk:k<rs.length) {q:RecA} (hq:q.v=(rs.getD k zeroR).v):Came rs (ts++[q]) (k+1):=by
 refine ⟨by simp [h.1],?_⟩
 have e:rs.getD k zeroR=rs[k]:=by simp [List.getD,hk]
 rw [List.map_append,h.2,List.take_succ_eq_append_getElem hk,List.map_append,List.map_singleton,List.map_singleton,hq,e]
theorem Came.all {rs ts:List RecA} (h:Came rs ts rs.length):ts.map RecA.v=rs.map RecA.v:=by
 have:=h.2
 rwa [List.take_length] at this
theorem range_below {w w':World} {b o:Nat} {r:RecA} (h:w.rangeAt b o r.cells) (hb:Below w.heap.size w w'):w'.rangeAt b o r.cells:=rangeAt_below h hb (rangeR_lt h)
theorem toRecS_any (a:Option Addr) (cap:Nat) (rs:List RecA) (w:World) (hr:ReadsRs w a rs) (hl:rs.length≤1048576) (hs:∀ r∈rs,r.short 1048576):
  Calls Tryz.prog 58 #[.slice a rs.length cap] w fun e w'=>∃ a' c' ts,e=.returned (.slice a' ts.length c')∧Hid (ts.map RecA.v=rs.map RecA.v)∧OwnRs w' w.heap.size w'.heap.size a' c' ts∧Below w.heap.size w w':=by
 obtain ⟨i0,hi,hz0,hz1,hz2⟩:=info_parts Tryz.infoRec
 have HI:Hid ((Tryz.prog.info? 131).map (·.size)=some 15):=by rw [Hid];kernel_rfl
 have HJ:Hid ((Tryz.prog.info? 100).map (·.size)=some 15):=by rw [Hid];kernel_rfl
 rcases hr.cases with rfl | ⟨b,off,rfl,hpos,hcell⟩
 ·go_enter Tryz.func58,Tryz.ntmps58
  go_wp2_with (at_make;refine wpList_make_full _ rfl _ _ 52 rfl w.heap.size 100 i0 (.agg zeroR.cells.toArray) 15 Tryz.underlying52 hi hz0 hz1 _ _ _ _ 0 rfl rfl (by simp) (by simp) (by omega) (by simp [maxLen]) (Nat.le_refl _) ?_)
  intro w0 hown0 hgrow0
  have hB:Below w.heap.size w w0:=(Below.refl _ _).grown hgrow0 (Nat.le_refl _) (fun k h=>by cases h)
  have ho:w0.ownsRow w.heap.size 100 15 (.slice (some ⟨w.heap.size,0,none⟩) 0 0) 0 (cellsRs (List.replicate 0 zeroR)):=by
   rw [← zero_cellsRs]
   exact hown0
  have HO:Hid (OwnRs w0 w.heap.size w0.heap.size (some ⟨w.heap.size,0,none⟩) 0 []):=own_zeroRs 0 ho (Nat.le_refl _) (ho.lt _ rfl).2
  clear hown0 hgrow0 ho
  go_wp2
  refine wp_loop_rounds 1 ?_
  rw [rounds_succ]
  go_wp2
  go_ret
  exact ⟨_,_,[],rfl,rfl,HO.out,hB⟩
 ·have hbB:b<w.heap.size:=rangeR_lt (hcell 0 hpos).1
  go_enter Tryz.func58,Tryz.ntmps58
  go_wp2_with (at_make;refine wpList_make_full _ rfl _ _ 52 rfl w.heap.size 100 i0 (.agg zeroR.cells.toArray) 15 Tryz.underlying52 hi hz0 hz1 _ _ _ _ rs.length rfl rfl rfl rfl (by rw [hz2];omega) (by simp [maxLen];omega) (Nat.le_refl _) ?_)
  intro w0 hown0 hgrow0
  have hb0:Below w.heap.size w w0:=(Below.refl _ _).grown hgrow0 (Nat.le_refl _) (fun k h=>by cases h)
  have ho:w0.ownsRow w.heap.size 100 15 (.slice (some ⟨w.heap.size,0,none⟩) rs.length rs.length) rs.length (cellsRs (List.replicate rs.length zeroR)):=by
   rw [← zero_cellsRs]
   exact hown0
  have HO:Hid (OwnRs w0 w.heap.size w0.heap.size (some ⟨w.heap.size,0,none⟩) rs.length (List.replicate rs.length zeroR)):=own_zeroRs _ ho (Nat.le_refl _) (ho.lt _ rfl).2
  clear hown0 hgrow0 ho
  go_wp2
  go_loopw [4] (fun i wr=>∃ (k:Nat) (ts:List RecA),k≤rs.length∧i=.int .i64 k∧Hid (Came rs ts k)∧Hid (OwnRs wr w.heap.size wr.heap.size (some ⟨w.heap.size,0,none⟩) rs.length (ts++List.replicate (rs.length-k) zeroR))∧Below w.heap.size w wr)
   (fun i _=>rs.length-(intOf i).toNat)
  case atStart=>exact ⟨0,[],Nat.zero_le _,rfl,came_none rs,HO,hb0⟩
  case round=>
   obtain ⟨k,ts,hk,rfl,hc,hown,hnx⟩:=hrel
   by_cases hlt:k<rs.length
   ·obtain ⟨c0,c1⟩:=hcell k hlt
    have HR:Hid (wr.rangeAt b (off+k*15) (rs.getD k zeroR).cells):=rangeAt_below c0 hnx hbB
    have hrd:(rs.getD k zeroR).reads wr:=c1.below hnx
    have hsh:(rs.getD k zeroR).short 1048576:=hs _ (recD_mem rs k hlt)
    have C:=toRec_law (rs.getD k zeroR) wr hrd hsh
    have HS:Hid (∀ q:RecA,q.v=(rs.getD k zeroR).v→Came rs (ts++[q]) (k+1)):=fun q hq=>hc.out.snoc hlt hq
    have HP:Hid (ts++List.replicate (rs.length-k) zeroR=ts++zeroR::List.replicate (rs.length-(k+1)) zeroR∧(ts++zeroR::List.replicate (rs.length-(k+1)) zeroR).length=rs.length∧ts.length=k):=by
     have e:rs.length-k=(rs.length-(k+1))+1:=by omega
     refine ⟨by rw [e,List.replicate_succ],?_,hc.out.1⟩
     have:=hc.out.1
     simp
     omega
    clear c0 c1 hcell hb0 HO hs hrd hsh
    generalize rs.getD k zeroR=z at*
    go_wp2_with (first | (guard_target=wpList _ _ _ (Oper.mk (some 19) _ _ _ _ _::_) _ _;refine wpList_load_mid rfl 131 (.tmp 18) rfl b (off+k*15) rfl z.cells _ HR.out Tryz.underlying131 rfl HI.out ?_) | fail)
    refine C.mono ?_
    clear C HR
    rintro e w1 ⟨q,rfl,hq,hqo,hb1⟩
    have hs1:=hb1.size
    have ho1:=hown.out.below hb1
    rw [HP.out.1] at ho1
    obtain ⟨W2,hW2,ho2,ht2,hs2⟩:=ho1.fill q hqo (Nat.le_refl _) (by have:=hnx.size;omega) (Nat.le_refl _)
    rw [HP.out.2.2] at hW2
    have HT:Hid (w1.there w.heap.size (k*15) 15):=(row_rec ho1.row rfl k (by rw [HP.out.2.1];exact hlt)).2
    have hB2:Below w.heap.size w W2:=(hnx.trans (hb1.mono hnx.size)).trans ((ht2.within (lo:=w.heap.size) (hi:=w.heap.size+1) (fun j hj=>by obtain rfl:=List.mem_singleton.1 hj;omega)).below (Nat.le_refl _) (by have:=hnx.size;omega))
    have HH:Hid (OwnRs W2 w.heap.size W2.heap.size (some ⟨w.heap.size,0,none⟩) rs.length ((ts++[q])++List.replicate (rs.length-(k+1)) zeroR)):=by
     have:=ho2.widen (Nat.le_refl _) (show max wr.heap.size w1.heap.size≤W2.heap.size by omega) (Nat.le_refl _)
     rw [List.append_assoc,List.singleton_append]
     exact this
    have HB:Hid _:=hB2
    have HC:=HS.out q hq.out
    have HO1:=rec_one q
    clear ho1 ho2 ht2 hs2 hB2 hqo hb1 hnx hown hq HS hs1
    go_wp2_with (first | (guard_target=wpList _ _ _ (Oper.mk none (Op.store _ (Operand.tmp 21) _) _ _ _ _::_) _ _;refine wpList_store_mid rfl 100 (.tmp 21) (.tmp 20) rfl w.heap.size (k*15) q.cells.toArray rfl rfl HT.out HJ.out HO1 ?_) | fail)
    rw [hW2.out]
    go_roundw
    case rel=>exact ⟨k+1,ts++[q],by omega,by go_num,HC,HH,HB.out⟩
    case measure=>simp [intOf];omega
   ·have HE:Hid (ts.map RecA.v=rs.map RecA.v∧OwnRs wr w.heap.size wr.heap.size (some ⟨w.heap.size,0,none⟩) rs.length ts∧ts.length=rs.length):=by
     have e:k=rs.length:=by omega
     rw [e] at hown hc
     rw [Nat.sub_self,List.replicate_zero,List.append_nil] at hown
     exact ⟨hc.out.all,hown.out,hc.out.1⟩
    go_wp2
    go_ret
    exact ⟨some ⟨w.heap.size,0,none⟩,rs.length,ts,by rw [HE.out.2.2];rfl,HE.out.1,HE.out.2.1,hnx⟩
theorem mapV_nil {ts:List RecA} (h:ts.map RecA.v=([]:List RecA).map RecA.v):ts=[]:=by simpa using h
theorem toLog_any (l:LogA) (w:World) (hr:l.reads w) (hl:l.short 1048576):
  Calls Tryz.prog 22 #[.agg l.cells.toArray] w fun e w'=>∃ t:LogA,e=.returned (.agg t.cells.toArray)∧Hid (t.v=l.v)∧t.own w' w.heap.size w'.heap.size∧Below w.heap.size w w':=by
 obtain ⟨rs,s,a,c⟩:=l
 obtain ⟨hl1,hl2⟩:=hl
 simp only [LogA.reads,LogA.cells,LogA.own] at*
 obtain ⟨W,hW,b0,b1,b2,hbW,hsW⟩:=boxes3 w [.slice a rs.length c,.int .i64 s] [.slice none 0 0,.int .i64 0] [.slice none 0 0,.int .i64 0] 36 54 54
 have C:=toRecS_any a c rs W (hr.below hbW) hl1 hl2
 go_enter Tryz.func22,Tryz.ntmps22
 go_wp2_with fail
 rw [hW.out]
 clear hW
 have hs0:w.heap.size+1+1<W.heap.size:=by omega
 clear hsW
 refine C.mono ?_
 clear C
 rintro e w1 ⟨a',c',ts,rfl,hv,ho1,hb1⟩
 have hs1:=hb1.size
 have b01:=b0.below hb1 b0.lt
 have b11:=b1.below hb1 b1.lt
 have b21:=b2.below hb1 b2.lt
 have x1:=b01.cell 1 _ rfl
 have y0:=b21.cell 0 _ rfl
 have y1:=b21.cell 1 _ rfl
 have f0:=b21.frozen 0
 have f1:=b21.frozen 1
 have z0:=b11.cell 0 _ rfl
 have z1:=b11.cell 1 _ rfl
 have g0:=b11.frozen 0
 have g1:=b11.frozen 1
 obtain ⟨W2,hW2,b22,hw2,hs2⟩:=box_set b21 0 (.slice a' ts.length c')
 obtain ⟨W3,hW3,b23,hw3,hs3⟩:=box_set b22 1 (.int .i64 s)
 have b13:=(b11.within hw2 (by omega)).within hw3 (by omega)
 obtain ⟨W4,hW4,b14,hw4,hs4⟩:=box_set b13 0 (.slice a' ts.length c')
 obtain ⟨W5,hW5,b15,hw5,hs5⟩:=box_set b14 1 (.int .i64 s)
 simp only [List.set] at b15
 have q0:=b15.cell 0 _ rfl
 have q1:=b15.cell 1 _ rfl
 have hB5:Below w.heap.size w W5:=((((hbW.trans (hb1.mono (by omega))).trans (hw2.below (by omega) (by omega))).trans (hw3.below (by omega) (by omega))).trans (hw4.below (by omega) (by omega))).trans (hw5.below (by omega) (by omega))
 have ho5:=((((ho1.within hw2 (.inr (by omega))).within hw3 (.inr (by omega))).within hw4 (.inr (by omega))).within hw5 (.inr (by omega))).widen (show w.heap.size≤W.heap.size by omega) (show w1.heap.size≤W5.heap.size by omega) (Nat.le_refl _)
 have HH:Hid (_∧_∧_):=⟨ho5,hB5,hv.out⟩
 clear ho5 hB5 hv ho1 hb1 hw2 hw3 hw4 hw5 hs2 hs3 hs4 hs5 b01 b11 b21 b22 b23 b13 b14 b15 b0 b1 b2 hbW
 have h34:Hid (((((w1.setCell ⟨w.heap.size+1+1,0,none⟩ (.slice a' ts.length c')).setCell ⟨w.heap.size+1+1,1,none⟩ (.int .i64 s)).setCell ⟨w.heap.size+1,0,none⟩ (.slice a' ts.length c')).setCell ⟨w.heap.size+1,1,none⟩ (.int .i64 s))=W5):=by rw [Hid,hW2.out,hW3.out,hW4.out,hW5.out]
 clear hW2 hW3 hW4 hW5
 go_wp2
 rw [h34.out]
 exact bodyPost_ret (v:=.agg #[.slice a' ts.length c',.int .i64 s]) (by simp [results,Tryz.results22,go_sem,q0,q1]) rfl ⟨⟨ts,s,a',c'⟩,rfl,by simp only [Hid,LogA.v];rw [HH.out.2.2],HH.out.1,HH.out.2.1⟩
theorem eqRecS_same (a b:Option Addr) (ca cb:Nat) (rs ts:List RecA) (he:ts.map RecA.v=rs.map RecA.v) (w:World) (ha:ReadsRs w a rs) (hb:ReadsRs w b ts) (hl:rs.length≤1099511627776) (hs:∀ r∈rs,r.short 1099511627776):
  Calls Tryz.prog 70 #[.slice a rs.length ca,.slice b ts.length cb] w fun e w'=>e=.returned (.bool true)∧Below w.heap.size w w':=by
 rcases ha.cases with rfl | ⟨b1,o1,rfl,hpos,hc1⟩
 ·obtain rfl:=mapV_nil he
  go_enter Tryz.func70,Tryz.ntmps70
  go_wp2
  refine wp_loop_rounds 1 ?_
  rw [rounds_succ]
  go_wp2
  go_ret
  exact ⟨rfl,Below.refl _ _⟩
 ·have hlen:=mapV_len he
  rcases hb.cases with rfl | ⟨b2,o2,rfl,_,hc2⟩
  ·simp at hlen;omega
  ·have HV:Hid (∀ k,k<rs.length→(ts.getD k zeroR).v=(rs.getD k zeroR).v):=fun k hk=>mapV_at he k hk
   have HS:Hid (∀ k,k<rs.length→(rs.getD k zeroR).short 1099511627776):=fun k hk=>hs _ (recD_mem rs k hk)
   have HI:Hid ((Tryz.prog.info? 100).map (·.size)=some 15):=by rw [Hid];kernel_rfl
   have hu:=Tryz.underlying100
   rw [hlen] at hc2 ⊢
   clear he hs hlen
   go_enter Tryz.func70,Tryz.ntmps70
   go_wp2
   go_loopw [5] (fun i wr=>∃ k:Nat,k≤rs.length∧i=.int .i64 k∧Below w.heap.size w wr) (fun i _=>rs.length-(intOf i).toNat)
   case atStart=>exact ⟨0,Nat.zero_le _,rfl,Below.refl _ _⟩
   case round=>
    obtain ⟨k,hk,rfl,hbl⟩:=hrel
    by_cases hlt:k<rs.length
    ·obtain ⟨h1,r1⟩:=hc1 k hlt
     obtain ⟨h2,r2⟩:=hc2 k hlt
     have hv:=HV.out k hlt
     have hsh:=HS.out k hlt
     clear hc1 hc2
     generalize rs.getD k zeroR=z at*
     generalize ts.getD k zeroR=y at*
     have HR:Hid (∀ w1,Below w.heap.size w w1→w1.rangeAt b1 (o1+k*15) z.cells∧w1.rangeAt b2 (o2+k*15) y.cells):=fun w1 hh=>⟨range_below h1 hh,range_below h2 hh⟩
     have HD:Hid (∀ w1,Below w.heap.size w w1→z.reads w1∧y.reads w1):=fun w1 hh=>⟨r1.below hh,r2.below hh⟩
     clear h1 h2 r1 r2
     go_wp2_with fail
     refine wp_region_held_drew (S:=fun w'=>w'.rangeAt b1 (o1+k*15) z.cells∧w'.rangeAt b2 (o2+k*15) y.cells) (by kernel_rfl) ?_ (fun hHeld=>?_)
     ·exact HR.out _ hbl.drew
     refine tq 0 (v:=.slice (some ⟨b1,o1,none⟩) rs.length ca) rfl hHeld ?_
     try simp only [zz]
     refine tq 1 (v:=.int .i64 k) rfl hHeld ?_
     try simp only [zz]
     refine tq 2 (v:=.pointer (some ⟨b1,o1+k*15,none⟩)) rfl hHeld ?_
     try simp only [zz]
     refine tk 3 rfl (yieldsIf_load_mid (by rfl) _ _ rfl _ _ rfl z.cells _ (fun _ h=>h.1) Tryz.underlying100 rfl HI.out) hHeld ?_
     try simp only [zz]
     refine tq 4 (v:=.slice (some ⟨b2,o2,none⟩) rs.length cb) rfl hHeld ?_
     try simp only [zz]
     refine tq 5 (v:=.int .i64 k) rfl hHeld ?_
     try simp only [zz]
     refine tq 6 (v:=.pointer (some ⟨b2,o2+k*15,none⟩)) rfl hHeld ?_
     try simp only [zz]
     refine tk 7 rfl (yieldsIf_load_mid (by rfl) _ _ rfl _ _ rfl y.cells _ (fun _ h=>h.2) Tryz.underlying100 rfl HI.out) hHeld ?_
     try simp only [zz]
     refine wpAnyH_ready (rs:=[8]) (by kernel_rfl) (by simp) ?_
     refine AllReadyH.cons rfl (fun K hK=>?_) AllReadyH.nil
     go_simp
     refine (eqRec_same z y hv _ (HD.out _ hbl.drew).1 (HD.out _ hbl.drew).2 hsh).mono ?_
     rintro e w2 ⟨rfl,hb2⟩
     have hw2:Below w.heap.size w w2:=(hbl.drew).trans (hb2.mono hbl.size)
     refine hK.out _ _ (HR.out _ hw2) (fun hHeld=>?_)
     clear hK K
     try simp only [zz]
     refine tq 9 (v:=.bool false) rfl hHeld ?_
     try simp only [zz]
     refine wpAnyH_done (by kernel_rfl) ?_ _
     go_wp2_with fail
     go_roundw
     case rel=>exact ⟨k+1,by omega,by go_num,hw2⟩
     case measure=>simp [intOf];omega
    ·go_wp2
     go_ret
     exact ⟨rfl,hbl⟩
theorem eqLog_same (l t:LogA) (he:t.v=l.v) (w:World) (hr:l.reads w) (ht:t.reads w) (hl:l.short 1099511627776):
  Calls Tryz.prog 31 #[.agg l.cells.toArray,.agg t.cells.toArray] w fun e w'=>e=.returned (.bool true)∧Below w.heap.size w w':=by
 obtain ⟨rs,s,a,c⟩:=l
 obtain ⟨ts,s',a',c'⟩:=t
 obtain ⟨hl1,hl2⟩:=hl
 simp only [LogA.v,LogV.mk.injEq] at he
 obtain ⟨he,rfl⟩:=he
 simp only [LogA.reads,LogA.cells] at*
 obtain ⟨W,hW,b0,b1,hbW,hsW⟩:=boxes2 w [.slice a rs.length c,.int .i64 s'] [.slice a' ts.length c',.int .i64 s'] 54 54
 have C:=eqRecS_same a a' c c' rs ts he W (hr.below hbW) (ht.below hbW) hl1 hl2
 clear hsW he hl1 hl2 hr ht
 go_enter Tryz.func31,Tryz.ntmps31
 go_wp2_with fail
 rw [hW.out]
 clear hW
 refine C.mono ?_
 clear C
 rintro e w1 ⟨rfl,hb1⟩
 have x1:=(b0.below hb1 b0.lt).cell 1 _ rfl
 have y1:=(b1.below hb1 b1.lt).cell 1 _ rfl
 clear b0 b1
 go_wp2
 go_ret
 exact ⟨rfl,hbW.trans (hb1.mono hbW.size)⟩
theorem szRecS_any (a:Option Addr) (cap:Nat) (rs:List RecA) (left:Int) (w:World) (hr:ReadsRs w a rs) (hn:rs.length≤9223372036854775807) (hs:∀ r∈rs,r.short 9223372036854775807) (hl:0≤left∧left≤1048576):
  Calls Tryz.prog 46 #[.slice a rs.length cap,.int .i64 left] w fun e w'=>∃ z:Int,e=.returned (.int .i64 z)∧(z<0∨(0≤z∧z≤left∧rs.length≤1048576∧∀ r∈rs,r.short 1048576))∧Below w.heap.size w w':=by
 have HI:Hid ((Tryz.prog.info? 131).map (·.size)=some 15):=by rw [Hid];kernel_rfl
 by_cases hle:left-rs.length<0
 ·go_enter Tryz.func46,Tryz.ntmps46
  go_wp2
  go_ret
  exact ⟨-1,rfl,.inl (by omega),Below.refl _ _⟩
 have HS:Hid (∀ k,k<rs.length→(rs.getD k zeroR).short 9223372036854775807):=fun k hk=>hs _ (recD_mem rs k hk)
 have hlen:rs.length≤1048576:=by omega
 have HC:Hid (∀ k,k<rs.length→∃ b off,a=some ⟨b,off,none⟩∧w.rangeAt b (off+k*15) (rs.getD k zeroR).cells):=fun k hk=>by
  obtain ⟨b,off,ha,hc⟩:=hr (by intro e;rw [e] at hk;simp at hk)
  exact ⟨b,off,ha,(hc k hk).1⟩
 have HA:Hid ((∀ k,k<rs.length→(rs.getD k zeroR).short 1048576)→∀ r∈rs,r.short 1048576):=by
  intro h r hr
  obtain ⟨k,hk,rfl⟩:=List.getElem_of_mem hr
  have:=h k hk
  simpa [List.getD,hk] using this
 clear hr hs
 go_enter Tryz.func46,Tryz.ntmps46
 go_wp2
 go_loopw [1,5] (fun v i wr=>∃ (k:Nat) (z:Int),k≤rs.length∧i=.int .i64 k∧v=.int .i64 z∧0≤z∧z≤left∧Hid (∀ j,j<k→(rs.getD j zeroR).short 1048576)∧Below w.heap.size w wr) (fun _ i _=>rs.length-(intOf i).toNat)
 case atStart=>exact ⟨0,left-rs.length,Nat.zero_le _,rfl,by go_num,by omega,by omega,fun j hj=>by omega,Below.refl _ _⟩
 case round=>
  obtain ⟨k,z,hk,rfl,rfl,hz0,hz1,hsh,hbl⟩:=hrel
  by_cases hlt:k<rs.length
  ·obtain ⟨b,off,rfl,hcell⟩:=HC.out k hlt
   have HR:Hid (wr.rangeAt b (off+k*15) (rs.getD k zeroR).cells):=range_below hcell hbl
   have C:=szRec_any (rs.getD k zeroR) z wr (HS.out k hlt) (by omega)
   clear hcell HC
   have HN:Hid ((rs.getD k zeroR).short 1048576→∀ j,j<k+1→(rs.getD j zeroR).short 1048576):=fun h j hj=>by
    by_cases e:j=k
    ·rw [e];exact h
    ·exact hsh.out j (by omega)
   generalize rs.getD k zeroR=y at*
   go_wp2_with (first | (guard_target=wpList _ _ _ (Oper.mk (some 21) _ _ _ _ _::_) _ _;refine wpList_load_mid rfl 131 (.tmp 20) rfl b (off+k*15) rfl y.cells _ HR.out Tryz.underlying131 rfl HI.out ?_) | fail)
   refine C.mono ?_
   clear C HR
   rintro e w1 ⟨z1,rfl,hz,hb1⟩
   have hB1:Below w.heap.size w w1:=hbl.trans (hb1.mono hbl.size)
   rcases hz with hneg | ⟨g0,g1,g2⟩
   ·go_wp2
    go_ret
    exact ⟨-1,rfl,.inl (by omega),hB1⟩
   ·have hzn:¬ z1<0:=by omega
    have HH:=HN.out g2
    go_wp2
    go_roundw
    case rel=>exact ⟨k+1,z1,by omega,by go_num,rfl,g0,by omega,HH,hB1⟩
    case measure=>simp [intOf];omega
  ·have HE:Hid (∀ r∈rs,r.short 1048576):=HA.out (fun j hj=>hsh.out j (by omega))
   go_wp2
   go_ret
   exact ⟨z,rfl,.inr ⟨hz0,hz1,hlen,HE.out⟩,hbl⟩
theorem szLog_any (l:LogA) (left:Int) (w:World) (hr:l.reads w) (hs:l.short 9223372036854775807) (hl:0≤left∧left≤1048576):
  Calls Tryz.prog 13 #[.agg l.cells.toArray,.int .i64 left] w fun e w'=>∃ z:Int,e=.returned (.int .i64 z)∧(z<0∨(0≤z∧z≤left∧l.short 1048576))∧Below w.heap.size w w':=by
 obtain ⟨rs,s,a,c⟩:=l
 obtain ⟨hl1,hl2⟩:=hs
 simp only [LogA.reads,LogA.cells] at*
 obtain ⟨W,hW,b0,hbW,hsW⟩:=boxes1 w [.slice a rs.length c,.int .i64 s] 36
 have C:=szRecS_any a c rs left W (hr.below hbW) hl1 hl2 hl
 clear hsW hr hl1 hl2
 go_enter Tryz.func13,Tryz.ntmps13
 go_wp2_with fail
 rw [hW.out]
 clear hW
 refine C.mono ?_
 clear C
 rintro e w1 ⟨z,rfl,hz,hb1⟩
 have hB:Below w.heap.size w w1:=hbW.trans (hb1.mono hbW.size)
 rcases hz with hneg | ⟨h0,h1,h2,h3⟩
 ·go_wp2
  go_ret
  exact ⟨-1,rfl,.inl (by omega),hB⟩
 ·have hzn:¬ z<0:=by omega
  go_wp2
  go_ret
  exact ⟨z,rfl,.inr ⟨h0,h1,h2,h3⟩,hB⟩
end Go.Proofs.YtcoeamamaifoeaaGreatDoor
namespace Go.Proofs.YtcoeamamaifoeaaGreatDoor
open Go.ChangeShapes Go.WideShapes Go.ChangeAt Go.RowKit
structure InLog (w:World) (l:LogA):Prop where
 recs:ReadsRs w l.a l.recs
 each:∀ r∈l.recs,InRec w r
 len:l.recs.length≤maxLen
 num:InI64 l.sure
theorem InLog.short {w:World} {l:LogA} (h:InLog w l):l.short 9223372036854775807:=⟨by have:=h.len;simp only [maxLen] at this;omega,fun r hr=>(h.each r hr).short⟩
section
variable {H:Type} {enc:TypeId × Value→H} {w:World} {base:Nat} {spare:Nat→Bool} {held:Bool}
theorem Tryz.cellsRcs:Tryz.prog.cellsOf 34=1:=by kernel_rfl
theorem Tryz.cellsLg:Tryz.prog.cellsOf 36=2:=by kernel_rfl
theorem trod_recs {fuel:Nat} {cs:List Value} {x:DataW H × List MemPlace} (h:DataW.trod enc Tryz.prog w base spare held fuel 34 cs=some x):
  ∃ (a:Option Addr) (c:Nat) (rs:List RecA),cs=[.slice a rs.length c]∧ReadsRs w a rs∧(∀ r∈rs,InRec w r)∧rs.length≤maxLen:=by
 rcases DataW.trod_slice Tryz.underlying34 h with ⟨rfl,_⟩ | ⟨a,len,cap,elems,rest,n,_,rfl,_,_,hl,hm,hlen,hel,_,_⟩
 ·exact ⟨none,0,[],rfl,ReadsRs.nil _ _,fun r hr=>by simp at hr,by simp⟩
 rw [Tryz.cellsRc] at hel
 have each:∀ i,i<len→∃ t:RecA,w.cells? base (a.add (i*15)) 15=some t.cells∧InRec w t:=by
  intro i hi
  have hy:=hel i hi
  rw [List.getElem?_eq_getElem (by omega:i<elems.length),Option.bind_eq_some_iff] at hy
  obtain ⟨cs',hcs,hy'⟩:=hy
  obtain ⟨t,e,ht⟩:=trod_rec hy'
  exact ⟨t,by rw [hcs,e],ht⟩
 obtain ⟨f,hf⟩:∃ f:Nat→RecA,∀ i,i<len→w.cells? base (a.add (i*15)) 15=some (f i).cells∧InRec w (f i):=by
  refine ⟨fun i=>if h:i<len then (each i h).choose else zeroR,fun i hi=>?_⟩
  simp only [dif_pos hi]
  exact (each i hi).choose_spec
 refine ⟨some a,cap,(List.range len).map f,by simp,?_,?_,by simp;omega⟩
 ·intro hne
  have hpos:=List.length_pos_iff.2 hne
  simp only [List.length_map,List.length_range] at hpos ⊢
  obtain ⟨b,off,spot⟩:=a
  have c0:=(World.cells?_some (hf 0 hpos).1).2.2 0 (by decide)
  have hspot:spot=none:=by simpa [Addr.add] using World.cell?_spot c0
  subst hspot
  refine ⟨b,off,rfl,fun k hk=>?_⟩
  have e:((List.range len).map f).getD k zeroR=f k:=by simp [List.getD,hk]
  rw [e]
  have hc:=(World.cells?_some (hf k hk).1).2.2
  refine ⟨fun j v hv=>?_,(hf k hk).2.reads⟩
  have hj:j<15:=by have:=(List.getElem?_eq_some_iff.1 hv).1;rwa [cellsR_len] at this
  have d:=hc j (by simpa using hj)
  simp only [Addr_add] at d
  rw [d,hv]
 ·intro r hr
  obtain ⟨k,hk,rfl⟩:=List.mem_map.1 hr
  exact (hf k (List.mem_range.1 hk)).2
theorem trod_log {fuel:Nat} {cs:List Value} {x:DataW H × List MemPlace} (h:DataW.trod enc Tryz.prog w base spare held fuel 36 cs=some x):
  ∃ l:LogA,cs=l.cells∧InLog w l:=by
 obtain ⟨xs,n,_,_,hlen,hxl,hf⟩:=DataW.trod_struct Tryz.underlying36 h
 rw [Tryz.cellsLg] at hlen
 match cs,hlen with
 | [v0,v1],_=>
  have f0:=hf 0 _ rfl
  have f1:=hf 1 _ rfl
  obtain ⟨y0,hx0⟩:=some_at xs 0 (by rw [hxl];decide)
  rw [hx0] at f0
  obtain ⟨y1,hx1⟩:=some_at xs 1 (by rw [hxl];decide)
  rw [hx1] at f1
  simp only [List.getElem_toArray,List.getElem_cons_zero,List.getElem_cons_succ,Tryz.cellsI,Tryz.cellsRcs,List.drop,List.take] at f0 f1
  obtain ⟨a,c,rs,e0,h0,h1,h2⟩:=trod_recs f0
  obtain ⟨m,e1,w1⟩:=trod_num f1
  simp only [List.cons.injEq,and_true] at e0 e1
  subst e0 e1
  exact ⟨⟨rs,m,a,c⟩,rfl,h0,h1,h2,w1⟩
end
end Go.Proofs.YtcoeamamaifoeaaGreatDoor
namespace Go.Proofs.YtcoeamamaifoeaaGreatDoor
open Go.RowKit
theorem LogA.reads.below {w w':World} {l:LogA} (h:l.reads w) (hb:Below w.heap.size w w'):l.reads w':=ReadsRs.below h hb
theorem LogA.own.reads {w:World} {lo hi:Nat} {l:LogA} (h:l.own w lo hi):l.reads w:=OwnRs.reads h
theorem LogA.own.below {w w':World} {lo hi:Nat} {l:LogA} (h:l.own w lo hi) (hb:Below w.heap.size w w'):l.own w' lo hi:=OwnRs.below h hb
theorem LogA.own.within {w w':World} {lo hi a b:Nat} {l:LogA} (h:l.own w lo hi) (hw:Within a b w w') (hd:hi≤a∨b≤lo):l.own w' lo hi:=OwnRs.within h hw hd
theorem LogA.own.widen {w:World} {lo hi lo' hi':Nat} {l:LogA} (h:l.own w lo hi) (h1:lo'≤lo) (h2:hi≤hi') (h3:hi'≤w.heap.size):l.own w lo' hi':=OwnRs.widen h h1 h2 h3
def LogA.blocks (l:LogA):List Nat:=blocksRs l.a l.c l.recs
theorem LogA.own.blocks_lt {w:World} {lo hi:Nat} {l:LogA} (h:l.own w lo hi):∀ k∈l.blocks,lo≤k∧k<hi:=OwnRs.blocks_lt h
theorem LogA.own.touch {w w':World} {lo hi:Nat} {l:LogA} {bl:List Nat} (h:l.own w lo hi) (ht:Touch bl w w') (hd:∀ k∈l.blocks,k∉bl):l.own w' lo hi:=OwnRs.touch h ht hd
theorem oneLog (l:LogA):∀ v∈l.cells,v.oneCell'=true:=by
 intro v hv
 simp only [LogA.cells,List.mem_cons,List.not_mem_nil,or_false] at hv
 rcases hv with rfl | rfl<;>rfl
theorem InLog.reads {w:World} {l:LogA} (h:InLog w l):l.reads w:=h.recs
theorem log_one (q:LogA):q.cells.toArray.all (·.oneCell')=true:=all_oneCell_toArray (oneLog q)
theorem log_info (q:LogA):(Tryz.prog.info? 54).map (·.size)=some q.cells.length:=by show _=some 2;kernel_rfl
theorem box2_fill {w:World} {B:Nat} {x0 x1:Value} {t:TypeId} (b:Box w B [x0,x1] t) (v0 v1:Value):
  ∃ W,Hid ((w.setCell ⟨B,0,none⟩ v0).setCell ⟨B,1,none⟩ v1=W)∧Box W B [v0,v1] t∧Within B (B+1) w W∧W.heap.size=w.heap.size:=by
 refine ⟨_,rfl,by simpa using (b.set 0 v0).set 1 v1,(within_set w B 0 v0 (by omega)).trans (within_set _ B 1 v1 (by omega)),by simp⟩
theorem copyRecs_any (a:Option Addr) (cap:Nat) (rs:List RecA) (w:World) (hr:ReadsRs w a rs) (hl:rs.length≤1048576) (hs:∀ r∈rs,r.short 1099511627776) (hcp:∀ r∈rs,r.aL=none→r.cL=0):
  Calls Tryz.prog 67 #[.slice a rs.length cap] w fun e w'=>∃ a' c' ts,e=.returned (.slice a' ts.length c')∧Hid (ts.map RecA.v=rs.map RecA.v)∧OwnRs w' w.heap.size w'.heap.size a' c' ts∧Below w.heap.size w w':=by
 obtain ⟨i0,hi,hz0,hz1,hz2⟩:=info_parts Tryz.infoRec
 have HJ:Hid ((Tryz.prog.info? 100).map (·.size)=some 15):=by rw [Hid];kernel_rfl
 rcases hr.cases with rfl | ⟨b,off,rfl,hpos,hcell⟩
 ·have HO:Hid (OwnRs w w.heap.size w.heap.size none 0 []):=ownRs_nil w _ _ (Nat.le_refl _)
  go_enter Tryz.func67,Tryz.ntmps67
  go_wp2
  go_ret
  exact ⟨none,0,[],rfl,rfl,HO.out,Below.refl _ _⟩
 ·have hbB:b<w.heap.size:=rangeR_lt (hcell 0 hpos).1
  have hne:((rs.length:Int) == 0)=false:=by simp;intro h;rw [h] at hpos;simp at hpos
  go_enter Tryz.func67,Tryz.ntmps67
  go_wp2_with (at_make;refine wpList_make_full _ rfl _ _ 52 rfl w.heap.size 100 i0 (.agg zeroR.cells.toArray) 15 Tryz.underlying52 hi hz0 hz1 _ _ _ _ rs.length rfl rfl rfl rfl (by rw [hz2];omega) (by simp [maxLen];omega) (Nat.le_refl _) ?_)
  intro w0 hown0 hgrow0
  have hb0:Below w.heap.size w w0:=(Below.refl _ _).grown hgrow0 (Nat.le_refl _) (fun k h=>by cases h)
  have ho:w0.ownsRow w.heap.size 100 15 (.slice (some ⟨w.heap.size,0,none⟩) rs.length rs.length) rs.length (cellsRs (List.replicate rs.length zeroR)):=by
   rw [← zero_cellsRs]
   exact hown0
  have HO:Hid (OwnRs w0 w.heap.size w0.heap.size (some ⟨w.heap.size,0,none⟩) rs.length (List.replicate rs.length zeroR)):=own_zeroRs _ ho (Nat.le_refl _) (ho.lt _ rfl).2
  clear hown0 hgrow0 ho
  go_wp2
  go_loopw [14] (fun i wr=>∃ (k:Nat) (ts:List RecA),k≤rs.length∧i=.int .i64 k∧Hid (Came rs ts k)∧Hid (OwnRs wr w.heap.size wr.heap.size (some ⟨w.heap.size,0,none⟩) rs.length (ts++List.replicate (rs.length-k) zeroR))∧Below w.heap.size w wr)
   (fun i _=>rs.length-(intOf i).toNat)
  case atStart=>exact ⟨0,[],Nat.zero_le _,rfl,came_none rs,HO,hb0⟩
  case round=>
   obtain ⟨k,ts,hk,rfl,hc,hown,hnx⟩:=hrel
   by_cases hlt:k<rs.length
   ·obtain ⟨c0,c1⟩:=hcell k hlt
    have HR:Hid (wr.rangeAt b (off+k*15) (rs.getD k zeroR).cells):=rangeAt_below c0 hnx hbB
    have hrd:(rs.getD k zeroR).reads wr:=c1.below hnx
    have hsh:(rs.getD k zeroR).short 1099511627776:=hs _ (recD_mem rs k hlt)
    have hnc:=hcp _ (recD_mem rs k hlt)
    have HS:Hid (∀ q:RecA,q.v=(rs.getD k zeroR).v→Came rs (ts++[q]) (k+1)):=fun q hq=>hc.out.snoc hlt hq
    have HP:Hid (ts++List.replicate (rs.length-k) zeroR=ts++zeroR::List.replicate (rs.length-(k+1)) zeroR∧(ts++zeroR::List.replicate (rs.length-(k+1)) zeroR).length=rs.length∧ts.length=k):=by
     have e:rs.length-k=(rs.length-(k+1))+1:=by omega
     refine ⟨by rw [e,List.replicate_succ],?_,hc.out.1⟩
     have:=hc.out.1
     simp
     omega
    clear c0 c1 hcell hb0 HO hs hcp
    generalize rs.getD k zeroR=z at*
    obtain ⟨W1,hW1,b1,hb1,hs1⟩:=boxes1 wr [.int .i64 0,.int .i64 0,.int .i64 0,.int .i64 0,.int .i64 0,.bool false,.int .i64 0,.slice none 0 0,.slice none 0 0,.bool false,.int .i64 0,.slice none 0 0,.slice none 0 0,.int .i64 0,.slice none 0 0] 100
    obtain ⟨W2,hW2,hw2,hs2,HT2,_,b2⟩:=rec_out z _ rfl b1
    have B2:Below wr.heap.size wr W2:=hb1.trans (hw2.below (Nat.le_refl _) (by omega))
    have R2:Hid (W2.rangeAt wr.heap.size 0 z.cells):=Box.range [] z.cells [] (by simpa using b2)
    have C:=copyRec_own z W2 (hrd.below B2) hsh hnc
    have N2:Below w.heap.size w W2:=hnx.trans (B2.mono hnx.size)
    have O2:Hid _:=hown.out.below B2
    have hOz:=rec_one z
    have hsw2:=B2.size
    have hszw:=hnx.size
    clear hs1 hs2 b1 b2 hb1 hw2 hrd hsh hnc hown hnx B2
    go_wp2_with (first | (guard_target=wpList _ _ _ (Oper.mk (some 18) _ _ _ _ _::_) _ _;refine wpList_load_mid rfl 100 (.tmp 17) rfl b (off+k*15) rfl z.cells _ HR.out Tryz.underlying100 rfl HJ.out ?_) | (guard_target=wpList _ _ _ (Oper.mk none (Op.store _ (Operand.tmp 5) _) _ _ _ _::_) _ _;refine wpList_store_mid rfl 100 (.tmp 5) (.tmp 18) rfl wr.heap.size 0 z.cells.toArray rfl rfl (by rw [hW1.out];exact HT2.out) HJ.out hOz ?_) | (guard_target=wpList _ _ _ (Oper.mk (some 21) _ _ _ _ _::_) _ _;refine wpList_load_mid rfl 100 (.tmp 5) rfl wr.heap.size 0 rfl z.cells _ (by rw [hW1.out,hW2.out];exact R2.out) Tryz.underlying100 rfl HJ.out ?_) | fail)
    rw [hW1.out,hW2.out]
    refine C.mono ?_
    clear C HR hW1 hW2 HT2 R2 hOz
    rintro e w3 ⟨q,rfl,hq,hqo,hb3⟩
    have hs3:=hb3.size
    have ho1:=O2.out.below hb3
    rw [HP.out.1] at ho1
    obtain ⟨W4,hW4,ho4,ht4,hs4⟩:=ho1.fill q hqo (by omega) (by omega) (Nat.le_refl _)
    rw [HP.out.2.2] at hW4
    have HT:Hid (w3.there w.heap.size (k*15) 15):=(row_rec ho1.row rfl k (by rw [HP.out.2.1];exact hlt)).2
    have hB4:Below w.heap.size w W4:=(N2.trans (hb3.mono (by omega))).trans ((ht4.within (lo:=w.heap.size) (hi:=w.heap.size+1) (fun j hj=>by obtain rfl:=List.mem_singleton.1 hj;omega)).below (Nat.le_refl _) (by omega))
    have HH:Hid (OwnRs W4 w.heap.size W4.heap.size (some ⟨w.heap.size,0,none⟩) rs.length ((ts++[q])++List.replicate (rs.length-(k+1)) zeroR)):=by
     have:=ho4.widen (Nat.le_refl _) (show max wr.heap.size w3.heap.size≤W4.heap.size by omega) (Nat.le_refl _)
     rw [List.append_assoc,List.singleton_append]
     exact this
    have HB:Hid _:=hB4
    have HC:=HS.out q hq.out
    have HO1:=rec_one q
    clear ho1 ho4 ht4 hs4 hB4 hqo hb3 N2 O2 hq HS hs3 hsw2 hszw
    go_wp2_with (first | (guard_target=wpList _ _ _ (Oper.mk none (Op.store _ (Operand.tmp 23) _) _ _ _ _::_) _ _;refine wpList_store_mid rfl 100 (.tmp 23) (.tmp 22) rfl w.heap.size (k*15) q.cells.toArray rfl rfl HT.out HJ.out HO1 ?_) | fail)
    rw [hW4.out]
    go_roundw
    case rel=>exact ⟨k+1,ts++[q],by omega,by go_num,HC,HH,HB.out⟩
    case measure=>simp [intOf];omega
   ·have HE:Hid (ts.map RecA.v=rs.map RecA.v∧OwnRs wr w.heap.size wr.heap.size (some ⟨w.heap.size,0,none⟩) rs.length ts∧ts.length=rs.length):=by
     have e:k=rs.length:=by omega
     rw [e] at hown hc
     rw [Nat.sub_self,List.replicate_zero,List.append_nil] at hown
     exact ⟨hc.out.all,hown.out,hc.out.1⟩
    go_wp2
    go_ret
    exact ⟨some ⟨w.heap.size,0,none⟩,rs.length,ts,by rw [HE.out.2.2];rfl,HE.out.1,HE.out.2.1,hnx⟩
theorem OwnRs.caps {w:World} {lo hi:Nat} {a:Option Addr} {c:Nat} {rs:List RecA} (h:OwnRs w lo hi a c rs):∀ r∈rs,r.aL=none→r.cL=0:=fun r hr=>(h.each r hr).txs.nocap
theorem copyLog_any (l:LogA) (w:World) (hr:l.reads w) (hl:l.short 1048576) (hcp:∀ r∈l.recs,r.aL=none→r.cL=0):
  Calls Tryz.prog 63 #[.agg l.cells.toArray] w fun e w'=>∃ t:LogA,e=.returned (.agg t.cells.toArray)∧Hid (t.v=l.v)∧t.own w' w.heap.size w'.heap.size∧Below w.heap.size w w':=by
 obtain ⟨rs,s,a,c⟩:=l
 obtain ⟨hl1,hl2⟩:=LogA.short_wide hl
 have hl0:=hl.len
 simp only [LogA.reads,LogA.cells,LogA.own] at*
 obtain ⟨W,hW,b0,b1,hbW,hsW⟩:=boxes2 w [.slice a rs.length c,.int .i64 s] [.slice none 0 0,.int .i64 0] 54 54
 have hs0:w.heap.size+1<W.heap.size:=by omega
 clear hsW
 have HC:Hid (∀ u,Below W.heap.size W u→Calls _ _ _ _ _):=fun u hu=>copyRecs_any a c rs u (hr.below (hbW.trans (hu.mono (by omega)))) hl0 hl2 hcp
 have HBX:Hid (∀ u,Below W.heap.size W u→Box u w.heap.size _ _):=fun u hu=>b0.below hu b0.lt
 have HBY:Hid (∀ u,Below W.heap.size W u→Box u (w.heap.size+1) _ _):=fun u hu=>b1.below hu b1.lt
 have x0:=b0.cell 0 _ rfl
 have x1:=b0.cell 1 _ rfl
 clear b0 b1 hr hl hl0 hl1 hl2 hcp
 go_enter Tryz.func63,Tryz.ntmps63
 go_wp2_with fail
 rw [hW.out]
 clear hW
 go_region_law ((first
  | (go_simp;go_at_call 67;refine (HC.out _ (Below.refl _ _).drew).mono ?_;clear HC;rintro e u1 ⟨a',c',ts,rfl,hv1,ho1,hb1⟩;have hb1':=(Below.refl W.heap.size W).drew.trans hb1;have z1:=(HBX.out u1 hb1').cell 1 _ rfl;have y0:=(HBY.out u1 hb1').cell 0 _ rfl;have y1:=(HBY.out u1 hb1').cell 1 _ rfl;have g0:=(HBY.out u1 hb1').frozen 0;have g1:=(HBY.out u1 hb1').frozen 1)
  | fail))
 all_goals
  have hs1:=hb1'.size
  obtain ⟨WF,hWF,bF,hwF,hsF⟩:=box2_fill (HBY.out u1 hb1') (.slice a' ts.length c') (.int .i64 s)
  have q0:=bF.cell 0 _ rfl
  have q1:=bF.cell 1 _ rfl
  have ho1':OwnRs u1 W.heap.size u1.heap.size a' c' ts:=ho1
  have hoF:=(ho1'.within hwF (.inr (by omega))).widen (show w.heap.size≤W.heap.size by omega) (show u1.heap.size≤WF.heap.size by omega) (Nat.le_refl _)
  have hbF:Below w.heap.size w WF:=(hbW.trans (hb1'.mono (by omega))).trans (hwF.below (by omega) (by omega))
  rw [hWF.out]
  clear hwF hsF bF ho1 ho1' z1 y0 y1 g0 g1
  go_wp2
  exact bodyPost_ret (v:=.agg #[.slice a' ts.length c',.int .i64 s]) (by simp [results,Tryz.results63,go_sem,q0,q1]) rfl ⟨⟨ts,s,a',c'⟩,rfl,by simp only [Hid,LogA.v];rw [hv1.out],hoF,hbF⟩
end Go.Proofs.YtcoeamamaifoeaaGreatDoor
namespace Go.Proofs.YtcoeamamaifoeaaGreatDoor
open Go.RowKit
theorem run_append_rec {w:World} (ty:TypeId) (lo hi:Nat) (a:Option Addr) (c:Nat) (rs:List RecA) (hown:OwnRs w lo hi a c rs)
  (b off:Nat) (sc:Nat) (q:RecA) (hr:w.rangeAt b off q.cells) (l u:Nat) (hq:q.own w l u) (hl:hi≤l) (hu:u≤w.heap.size)
  (hb:rs.length+1≤68719476736) (hlo:lo≤hi):
  ∃ a' c' w',(Builtin.append_ #[52,52] ty #[.slice a rs.length c,.slice (some ⟨b,off,none⟩) 1 sc]).run Tryz.prog w=.ok (.slice a' (rs++[q]).length c') w'∧OwnRs w' lo w'.heap.size a' c' (rs++[q])∧w.grownBy w' (Value.slice a rs.length c).ownBlock:=by
 obtain ⟨i0,hi0,hz0,hz1,hz2⟩:=info_parts Tryz.infoRec
 have hqb:=hq.blocks_lt
 have htop:=hown.top
 obtain ⟨v',w',hrun,h1,h2,_,_⟩:=run_append_own_at (P:=Tryz.prog) w lo 52 ty 100 i0 (.agg zeroR.cells.toArray) 15 200 Tryz.underlying52 hi0 hz0 hz1 hz2 rfl (by decide) _ _ _ hown.row ⟨b,off,none⟩ 1 sc q.cells (by rfl) (by
  intro j v hj
  rw [Addr_add]
  exact hr j v hj) (oneR q) (by simp only [maxLen];omega) (by omega) (by omega)
 have e:cellsRs rs++q.cells=cellsRs (rs++[q]):=by rw [cellsRs_app,cellsRs_cons];simp [cellsRs]
 have e2:rs.length+1=(rs++[q]).length:=by simp
 rw [e,e2] at h1
 have sh:∃ a' c',v'=.slice a' (rs++[q]).length c':=by
  rcases h1.2 with ⟨rfl,h0⟩ | ⟨g,cap,cur,rfl,_⟩
  ·simp at h0
  ·exact ⟨_,_,rfl⟩
 obtain ⟨a',c',rfl⟩:=sh
 have hsz:=h2.size
 have ht:Touch (Value.slice a rs.length c).ownBlock.toList w w':=Touch.of_grown h2 (fun k hk=>Option.mem_toList.2 hk)
 have hrow:=h1.lt
 have hold:∀ r∈rs,r.own w' lo w'.heap.size:=fun r hr=>((hown.each r hr).touch ht (fun k hk hk'=>(List.nodup_append.1 hown.apart).2.2 k hk' k (List.mem_flatMap.2 ⟨r,hr,hk⟩) rfl)).widen (Nat.le_refl _) (by omega) (Nat.le_refl _)
 have hnew:q.own w' lo w'.heap.size:=(hq.touch ht (fun k hk hk'=>by have:=hqb k hk;have:=hown.blk k (Option.mem_toList.1 hk');omega)).widen (by omega) (by omega) (Nat.le_refl _)
 refine ⟨a',c',w',hrun,⟨h1,Nat.le_refl _,fun k hk=>(hrow k hk).2,fun r hr=>?_,?_⟩,h2⟩
 ·rcases List.mem_append.1 hr with hr | hr
  ·exact hold r hr
  ·obtain rfl:=List.mem_singleton.1 hr
   exact hnew
 ·rw [List.flatMap_append,List.nodup_append,List.nodup_append]
  have hap:=(List.nodup_append.1 hown.apart).2.1
  have hin:∀ x∈rs.flatMap RecA.blocks,lo≤x∧x<hi:=fun x hx=>by
   obtain ⟨r,hr,hx⟩:=List.mem_flatMap.1 hx
   exact (hown.each r hr).blocks_lt x hx
  refine ⟨by cases (Value.slice a' (rs++[q]).length c').ownBlock<;>simp,⟨hap,by simpa using hq.apart,fun x hx y hy e=>?_⟩,fun x hx y hy e=>?_⟩
  ·have:=hin x hx
   simp only [List.flatMap_cons,List.flatMap_nil,List.append_nil] at hy
   have:=hqb y hy
   omega
  ·have hx':=Option.mem_toList.1 hx
   subst e
   rcases List.mem_append.1 hy with hy | hy
   ·obtain ⟨r,hr,hy⟩:=List.mem_flatMap.1 hy
    exact row_apart h1 (hold r hr) x hx' hy
   ·simp only [List.flatMap_cons,List.flatMap_nil,List.append_nil] at hy
    exact row_apart h1 hnew x hx' hy
theorem step_append_rec {w:World} {ops:Array Oper} {o:Oper} {act:Act} {K:Act→World→Prop} {Q:Exit→Act→World→Prop} {E:Prop} (hgd:o.guard=none) (s x:Operand)
  (ho:o.op=.call { callee:=.builtin .append,args:=#[s,x],argTypes:=#[52,52] })
  (lo hi:Nat) (a:Option Addr) (c:Nat) (rs:List RecA) (hs:act.eval s=.slice a rs.length c) (hown:OwnRs w lo hi a c rs)
  (b off:Nat) (sc:Nat) (q:RecA) (hx:act.eval x=.slice (some ⟨b,off,none⟩) 1 sc) (hr:w.rangeAt b off q.cells) (l u:Nat) (hq:q.own w l u) (hl:hi≤l) (hu:u≤w.heap.size)
  (hb:rs.length+1≤68719476736) (hlo:lo≤hi)
  (h:∀ a' c' w',OwnRs w' lo w'.heap.size a' c' (rs++[q])→w.grownBy w' (Value.slice a rs.length c).ownBlock→K (act.put o.dst (.slice a' (rs++[q]).length c')) w'):
  if Region.wanted o (yielded ops act.tmps)=true then Oper.wp Tryz.prog o act w K Q else E:=by
 have hw:Region.wanted o (yielded ops act.tmps)=true:=by simp [Region.wanted,hgd]
 rw [if_pos hw]
 obtain ⟨a',c',w',hrun,h2,h3⟩:=run_append_rec (w:=w) o.type lo hi a c rs hown b off sc q hr l u hq hl hu hb hlo
 unfold Oper.wp
 simp [execOp,ho,resolve,invoke,builtin,hs,hx,hrun,Result.andThen]
 have:=h a' c' w' h2 h3
 rw [List.length_append,List.length_singleton] at this
 exact this
end Go.Proofs.YtcoeamamaifoeaaGreatDoor