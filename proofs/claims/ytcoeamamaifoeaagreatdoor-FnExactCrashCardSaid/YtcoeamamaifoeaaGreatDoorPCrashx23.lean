/- Several texts in one, in their order. -/
import Derived.Test.YtcoeamamaifoeaaGreatDoorPCrashx6
import Derived.Test.YtcoeamamaifoeaaGreatDoorPCrashx9
import Derived.Test.YtcoeamamaifoeaaGreatDoorPCrashx16
import Derived.Test.YtcoeamamaifoeaaGreatDoorPCrashx12
import Derived.Test.YtcoeamamaifoeaaGreatDoorPCrashx15
import Derived.Test.YtcoeamamaifoeaaGreatDoorPCrashx11
import Derived.Test.YtcoeamamaifoeaaGreatDoorPCrashx19
import Derived.Test.YtcoeamamaifoeaaGreatDoorPCrashx22
import Derived.Test.YtcoeamamaifoeaaGreatDoorPCrashx5
import Derived.Deep.Cut
import Derived.Test.YtcoeamamaifoeaaGreatDoorPCrashx18
import Derived.Test.YtcoeamamaifoeaaGreatDoorPCrashx17
import Derived.Test.YtcoeamamaifoeaaGreatDoorPCrashx1
set_option maxHeartbeats 8000000
set_option maxRecDepth 100000
namespace Go.Proofs.YtcoeamamaifoeaaGreatDoor
open Go.RowKit
theorem copyPage_own (p:PageA) (h4:p.ss.length=4) (w:World) (hr:ReadsS w p.ss) (hl:Fit p.ss):
  Calls Tryz.prog 61 #[.agg p.cells.toArray] w fun e w'=>∃ ts:List SlotA,e=.returned (.agg (PageA.cells ⟨p.lsn,ts⟩).toArray)∧Hid (ts.map (·.v)=p.ss.map (·.v))∧OwnS w' w.heap.size w'.heap.size ts∧Below w.heap.size w w':=by
 obtain ⟨n,ss⟩:=p
 simp only [PageA.cells] at*
 obtain ⟨W,hW,b0,b1,b2,hbW,hsW⟩:=boxes3 w (.int .i64 n::cellsS ss) [.int .i64 0,.bool false,.int .i64 0,.slice none 0 0,.slice none 0 0,.bool false,.int .i64 0,.slice none 0 0,.slice none 0 0,.bool false,.int .i64 0,.slice none 0 0,.slice none 0 0,.bool false,.int .i64 0,.slice none 0 0,.slice none 0 0] [.int .i64 n,.bool false,.int .i64 0,.slice none 0 0,.slice none 0 0,.bool false,.int .i64 0,.slice none 0 0,.slice none 0 0,.bool false,.int .i64 0,.slice none 0 0,.slice none 0 0,.bool false,.int .i64 0,.slice none 0 0,.slice none 0 0] 47 47 47
 have b1':Box W (w.heap.size+1) ([]++((.int .i64 0::cellsS zero4)++[])) 47:=b1
 have b2':Box W (w.heap.size+1+1) (.int .i64 n::cellsS ([]++List.replicate (4-0) zeroS)) 47:=b2
 have hsW':w.heap.size+1+1<W.heap.size:=by omega
 have hc0:(((w.alloc (.cells (.int .i64 n::cellsS ss).toArray 47)).alloc (.cells #[.int .i64 0,.bool false,.int .i64 0,.slice none 0 0,.slice none 0 0,.bool false,.int .i64 0,.slice none 0 0,.slice none 0 0,.bool false,.int .i64 0,.slice none 0 0,.slice none 0 0,.bool false,.int .i64 0,.slice none 0 0,.slice none 0 0] 47))).cell? ⟨w.heap.size,0,none⟩=some (.int .i64 n):=((box_new w (.int .i64 n::cellsS ss) 47).alloc _).cell 0 _ rfl
 have hrg0:W.rangeAt w.heap.size 1 (cellsS ss):=Box.range [.int .i64 n] (cellsS ss) [] (by simpa using b0)
 have hi0:(Tryz.prog.info? 45).map (·.size)=some (cellsS ss).length:=by rw [cellsS_len,h4];kernel_rfl
 have HX:=run_index_slot ss h4
 have H4:Hid (ss.length=4):=h4
 clear b1 b2 hsW h4
 go_enter Tryz.func61,Tryz.ntmps61
 go_wp2_with (first | (guard_target=wpList _ _ _ (Oper.mk (some 10) _ _ _ _ _::_) _ _;refine wpList_load_mid rfl 45 (.tmp 9) rfl w.heap.size 1 rfl (cellsS ss) _ (by rw [hW.out];exact hrg0) Tryz.underlying45 rfl hi0 ?_) | fail)
 rw [hW.out]
 clear hW hrg0 hi0 hc0
 go_loopw [11] (fun i wr=>∃ (k:Nat) (ts:List SlotA),i=.int .i64 k∧k≤4∧Hid (ts.length=k∧ts.map (·.v)=(ss.take k).map (·.v))∧OwnS wr W.heap.size wr.heap.size ts∧Box wr (w.heap.size+1+1) (.int .i64 n::cellsS (ts++List.replicate (4-k) zeroS)) 47∧Below (w.heap.size+1+1) W wr)
  (fun i _=>4-(intOf i).toNat)
 case atStart=>exact ⟨0,[],rfl,by omega,⟨rfl,rfl⟩,OwnS.nil _ _ _,b2',Below.refl _ _⟩
 case round=>
  obtain ⟨k,ts,rfl,hk,hts,hown,hbox,hbl⟩:=hrel
  clear b2'
  have b1r:=b1'.below hbl (by omega)
  have hsr:=hbl.size
  have hsz:=hbox.lt
  by_cases hlt:k<4
  ·have hkl:k<ss.length:=by rw [H4.out];exact hlt
   have hx:=HX k hlt
   clear HX
   have hrk:=(hr _ (getD_mem hkl)).below (hbW.trans (hbl.mono (by omega)))
   have hlk:=hl _ (getD_mem hkl)
   have HV:Hid ((ss.take (k+1)).map (·.v)=(ss.take k).map (·.v)++[(ss.getD k zeroS).v]):=by
    rw [Hid,List.take_add_one,List.map_append]
    simp [List.getD,hkl]
   generalize ss.getD k zeroS=s at*
   simp only [SlotA.cells] at hx
   obtain ⟨W1,hW1,bx,hbx1,hsx1⟩:=boxes1 wr [.bool s.v.has,.int .i64 s.v.o.kind,.slice s.aI s.v.o.ints.length s.cI,.slice s.aR s.v.o.refs.length s.cR] 44
   have C:=copySlot_own s W1 (ReadsO.below hrk hbx1) hlk.1 hlk.2
   simp only [SlotA.cells] at C
   go_wp2_with fail
   rw [hW1.out]
   refine C.mono ?_
   clear C hx hrk hlk
   rintro e w1 ⟨t,rfl,hv,ho,hb1⟩
   have hs1:=hb1.size
   have N1:Below wr.heap.size wr w1:=hbx1.trans (hb1.mono (by omega))
   have hbx:=hbox.below N1 hsz
   have hkt:k<(ts++List.replicate (4-k) zeroS).length:=by have:=hts.out.1;simp;omega
   obtain ⟨W2,hW2,b2,hw2,hs2⟩:=pslot_fill hbx k hkt t
   obtain ⟨x0,x1,x2,x3,hfz⟩:=hbx.pslot k hkt
   have f0:=hfz (1+k*4)
   have f1:=hfz (1+k*4+1)
   have f2:=hfz (1+k*4+2)
   have f3:=hfz (1+k*4+3)
   generalize (ts++List.replicate (4-k) zeroS).getD k zeroS=old at*
   have b2':Box W2 (w.heap.size+1+1) (.int .i64 n::cellsS ((ts++[t])++List.replicate (4-(k+1)) zeroS)) 47:=by
    rw [show 4-k=(4-(k+1))+1 by omega] at b2
    have e:=set_snoc ts (4-(k+1)) t
    rw [hts.out.1] at e
    rw [e] at b2
    exact b2
   have hown1:OwnS w1 W.heap.size W1.heap.size ts:=(hown.below N1).widen (Nat.le_refl _) (by omega) (by omega)
   have hO1:OwnS w1 W.heap.size w1.heap.size (ts++[t]):=hown1.snoc ho (by omega) hs1 (Nat.le_refl _)
   have hO2:OwnS W2 W.heap.size W2.heap.size (ts++[t]):=(hO1.within hw2 (.inr (by omega))).widen (Nat.le_refl _) (by omega) (Nat.le_refl _)
   have hB2:Below (w.heap.size+1+1) W W2:=(hbl.trans (N1.mono (by omega))).trans (hw2.below (Nat.le_refl _) (by omega))
   have HT:Hid ((ts++[t]).length=k+1∧(ts++[t]).map (·.v)=(ss.take (k+1)).map (·.v)):=by
    refine ⟨by have:=hts.out.1;simp;omega,?_⟩
    rw [HV.out,List.map_append,hts.out.2,← hv.out]
    rfl
   have hi0:(0:Int)≤(k:Int):=by omega
   have hi4:(k:Int)<4:=by omega
   clear hfz hs2 hw2 b2 hO1 hown hown1 hbox hbx hts HV hkt hb1 ho N1 hbx1
   go_wp2_with fail
   rw [hW2.out]
   go_roundw
   case rel=>exact ⟨k+1,ts++[t],by go_num,by omega,HT,hO2,b2',hB2⟩
   case measure=>simp [intOf];omega
  ·obtain rfl:k=4:=by omega
   have hkk:¬ ((4:Nat):Int)<4:=by omega
   have hrp:ts++List.replicate (4-4) zeroS=ts:=by simp
   rw [hrp] at hbox
   have htl:ts.length=4:=hts.out.1
   have HMV:Hid (ts.map (·.v)=ss.map (·.v)):=by rw [Hid,hts.out.2,List.take_of_length_le (by rw [H4.out];omega)]
   obtain ⟨WF,hWF,bF,hwF,hsF⟩:=range_fill [] (.int .i64 0::cellsS zero4) (.int .i64 n::cellsS ts) [] b1r (by simp only [List.length_cons,cellsS_len,htl];rfl)
   have HWF:Hid (wr.setCells (w.heap.size+1) 0 (.int .i64 n::cellsS ts)=WF):=hWF.out
   have HR2:Hid (wr.rangeAt (w.heap.size+1+1) 0 (.int .i64 n::cellsS ts)):=Box.range [] (.int .i64 n::cellsS ts) [] (by simpa using hbox)
   have HTF:Hid (wr.there (w.heap.size+1) 0 (.int .i64 n::cellsS ts).toArray.size):=b1r.there 0 _ (by simp only [List.size_toArray,cellsS_len,htl,List.length_append,List.length_cons,List.length_nil];decide)
   have hrF:WF.rangeAt (w.heap.size+1) 0 (.int .i64 n::cellsS ts):=Box.range [] (.int .i64 n::cellsS ts) [] (by simpa using bF)
   have HI:Hid ((Tryz.prog.info? 47).map (·.size)=some (.int .i64 n::cellsS ts).length):=by rw [Hid,List.length_cons,cellsS_len,htl];kernel_rfl
   have HO:Hid (_):=all_oneCell_toArray (oneP ⟨n,ts⟩)
   have HLF:Hid (_):=run_loadVar_mid (P:=Tryz.prog) _ (w.heap.size+1) 0 47 (.int .i64 n::cellsS ts) _ hrF Tryz.underlying47 rfl HI.out
   have HOF:Hid (OwnS WF w.heap.size WF.heap.size ts):=(hown.within hwF (.inr (by omega))).widen (by omega) (by omega) (Nat.le_refl _)
   have HBF:Hid (Below w.heap.size w WF):=(hbW.trans (hbl.mono (by omega))).trans (hwF.below (by omega) (by omega))
   simp only [PageA.cells] at HO
   clear hWF bF hwF hsF hrF hrp htl hbox hown HX hts
   go_wp2_with (first | (guard_target=wpList _ _ _ (Oper.mk (some 21) _ _ _ _ _::_) _ _;refine wpList_load_mid rfl 47 (.tmp 3) rfl (w.heap.size+1+1) 0 rfl (.int .i64 n::cellsS ts) _ HR2.out Tryz.underlying47 rfl HI.out ?_) | (guard_target=wpList _ _ _ (Oper.mk none (Op.store _ (Operand.tmp 2) _) _ _ _ _::_) _ _;refine wpList_store_mid rfl 47 (.tmp 2) (.tmp 21) rfl (w.heap.size+1) 0 (.int .i64 n::cellsS ts).toArray rfl rfl HTF.out (by rw [List.size_toArray];exact HI.out) HO.out ?_) | fail)
   rw [HWF.out]
   exact bodyPost_ret (v:=.agg (.int .i64 n::cellsS ts).toArray) (results_one Tryz.results61 rfl HLF.out) rfl ⟨ts,rfl,HMV,HOF.out,HBF.out⟩
theorem build_seats1 {w:World} {ops:Array Oper} {rest:List Oper} {dst:Option Nat} {ty:TypeId} {pos:String} {aft:Array Edge} {act:Act} {Q:Exit→Act→World→Prop} (x:Operand)
  (q:SeatA) (hx:act.eval x=.agg q.cells.toArray)
  (h:wpList Tryz.prog ops Q rest (act.put dst (.slice (some ⟨w.heap.size,0,none⟩) 1 1)) (w.alloc (.cells q.cells.toArray 103))):
  wpList Tryz.prog ops Q ({ dst:=dst,op:=.buildSlice 49 1 #[(0,x)],type:=ty,pos:=pos,after:=aft,guard:=none }::rest) act w:=by
 refine wpList_plain rfl fun K hK=>?_
 unfold Oper.wp execOp
 simp only [List.map_toArray,List.map_cons,List.map_nil,hx]
 go_simp
 simp only [cellsSt_len,lit_seat,not_true_eq_false,Nat.lt_irrefl,or_self,if_false]
 go_simp
 exact hK _ _ h
theorem copyPool_any (l:PoolA) (w:World) (hr:l.reads w) (hl:l.short 1048576):
  Calls Tryz.prog 62 #[.agg l.cells.toArray] w fun e w'=>∃ t:PoolA,e=.returned (.agg t.cells.toArray)∧Hid (t.v=l.v)∧t.own w' w.heap.size w'.heap.size∧Below w.heap.size w w':=by
 obtain ⟨rs,s,a,c⟩:=l
 have hl2:=(PoolA.short_wide hl).each
 have hl0:=hl.len
 simp only [PoolA.reads,PoolA.cells,PoolA.own] at*
 obtain ⟨W,hW,b0,b1,b2,hbW,hsW⟩:=boxes3 w [.slice a rs.length c,.int .i64 s] [.slice none 0 0,.int .i64 0] [.slice none 0 0,.int .i64 s] 51 51 51
 have hs0:w.heap.size+1+1<W.heap.size:=by omega
 clear hsW
 have x0:=b0.cell 0 _ rfl
 have HC:Hid (∀ k,k<rs.length→∃ b off,a=some ⟨b,off,none⟩∧w.rangeAt b (off+k*20) (rs.getD k zeroSt).cells∧(rs.getD k zeroSt).reads w∧(rs.getD k zeroSt).short 1099511627776):=fun k hk=>by
  obtain ⟨b,off,ha,hc⟩:=hr (by intro e;rw [e] at hk;simp at hk)
  exact ⟨b,off,ha,(hc k hk).1,(hc k hk).2,hl2 _ (seatD_mem rs k hk)⟩
 have HJ:Hid ((Tryz.prog.info? 103).map (·.size)=some 20):=by rw [Hid];kernel_rfl
 clear hr hl hl2
 go_enter Tryz.func62,Tryz.ntmps62
 go_wp2_with fail
 rw [hW.out]
 clear hW x0
 go_loopw [12] (fun i wr=>∃ (k:Nat) (ts:List SeatA) (a':Option Addr) (c':Nat),k≤rs.length∧i=.int .i64 k∧Hid (CameSt rs ts k)∧Box wr (w.heap.size+1+1) [.slice a' ts.length c',.int .i64 s] 51∧Box wr (w.heap.size+1) [.slice none 0 0,.int .i64 0] 51∧OwnSts wr W.heap.size wr.heap.size a' c' ts∧Below w.heap.size w wr∧W.heap.size≤wr.heap.size)
  (fun i _=>rs.length-(intOf i).toNat)
 case atStart=>exact ⟨0,[],none,0,Nat.zero_le _,rfl,cameSt_none rs,b2,b1,ownSts_nil _ _ _ (Nat.le_refl _),hbW,Nat.le_refl _⟩
 case round=>
  obtain ⟨k,ts,a',c',hk,rfl,hc,k2,k1,hown,hnx,hsz⟩:=hrel
  clear b0 b1 b2 hbW
  by_cases hlt:k<rs.length
  ·obtain ⟨b,off,rfl,hcell,hrd,hsh⟩:=HC.out k hlt
   have hnw:=hnx.size
   have HRG:Hid (wr.rangeAt b (off+k*20) (rs.getD k zeroSt).cells):=rangeAt_below hcell hnx (rangeSt_lt hcell)
   have HS:Hid (∀ q:SeatA,q.v=(rs.getD k zeroSt).v→CameSt rs (ts++[q]) (k+1)):=fun q hq=>hc.out.snoc hlt hq
   have hll:ts.length+1≤68719476736:=by have:=hc.out.1;omega
   have hrdw:=hrd.below hnx
   have hkk:(k:Int)<(rs.length:Int):=by omega
   have hk0:(0:Int)≤(k:Int):=by omega
   clear hcell HC hrd hc
   generalize rs.getD k zeroSt=z at*
   obtain ⟨W1,hW1,d1,hb1,hs1⟩:=boxes1 wr [.int .i64 0,.int .i64 0,.bool false,.int .i64 0,.slice none 0 0,.slice none 0 0,.bool false,.int .i64 0,.slice none 0 0,.slice none 0 0,.bool false,.int .i64 0,.slice none 0 0,.slice none 0 0,.bool false,.int .i64 0,.slice none 0 0,.slice none 0 0,.bool false,.bool false] 103
   obtain ⟨W2,hW2,hw2,hs2,HT2,_,d2⟩:=seat_out z _ rfl d1
   have hB2:Below wr.heap.size wr W2:=hb1.trans (hw2.below (Nat.le_refl _) (by omega))
   have xp:W2.rangeAt wr.heap.size 1 z.page.cells:=seat_page z d2
   have HIP:=Tryz.infoPg z.page rfl
   have C:=copyPage_own z.page rfl W2 (hrdw.below hB2) hsh
   have HW2:Hid (W1.setCells wr.heap.size 0 z.cells.toArray.toList=W2):=hW2.out
   have hOz:=seat_one z
   have k22:=k2.below hB2 k2.lt
   have k12:=k1.below hB2 k1.lt
   have o2:=hown.below hB2
   have hn2:Below w.heap.size w W2:=hnx.trans (hB2.mono hnw)
   have hs2':=hB2.size
   have hd2:=d2.lt
   clear hs1 hs2 d1 hb1 hw2 hW2 hrdw hsh k2 k1 hown hnx
   generalize hpc:z.page.cells=pc at*
   go_wp2_with (first | (guard_target=wpList _ _ _ (Oper.mk (some 15) _ _ _ _ _::_) _ _;refine wpList_load_mid rfl 103 (.tmp 14) rfl b (off+k*20) rfl z.cells _ HRG.out Tryz.underlying103 rfl HJ.out ?_) | (guard_target=wpList _ _ _ (Oper.mk none (Op.store _ (Operand.tmp 5) _) _ _ _ _::_) _ _;refine wpList_store_mid rfl 103 (.tmp 5) (.tmp 15) rfl wr.heap.size 0 z.cells.toArray rfl rfl (by rw [hW1.out];exact HT2.out) HJ.out hOz ?_;rw [hW1.out,HW2.out]) | (guard_target=wpList _ _ _ (Oper.mk (some 17) _ _ _ _ _::_) _ _;refine wpList_load_mid rfl 47 (.tmp 16) rfl wr.heap.size 1 rfl pc _ xp Tryz.underlying47 rfl HIP ?_) | fail)
   refine C.mono ?_
   clear C xp HIP HRG hW1 HW2 HT2 hpc
   rintro e w3 ⟨us,rfl,hv,ho,hb3⟩
   obtain ⟨y0,y1,y2,y3,rfl⟩:=four_slots' (ts:=us) (by have:=congrArg List.length hv.out;simpa [SeatA.page,SeatA.ss] using this)
   have hs3:=hb3.size
   have d3:=d2.below hb3 d2.lt
   obtain ⟨W4,hW4,d4,hw4,hs4,hth4⟩:=seat_fill z d3 z.page.lsn y0 y1 y2 y3
   obtain ⟨q,hq⟩:∃ q:SeatA,Hid ((⟨z.no,z.page.lsn,y0,y1,y2,y3,z.dirty,z.hot⟩:SeatA)=q):=⟨_,rfl⟩
   rw [hq.out] at d4
   have oq:q.own w3 W2.heap.size w3.heap.size:=by rw [← hq.out];exact ho
   have HV:Hid (q.v=z.v):=by rw [Hid,← hq.out];simp only [SeatA.v,SeatA.ss];rw [show List.map (fun x:SlotA=>x.v) [y0,y1,y2,y3]=z.page.ss.map (·.v) from hv.out];rfl
   have k24:=(k22.below hb3 k22.lt).within hw4 (by omega)
   have k14:=(k12.below hb3 k12.lt).within hw4 (by omega)
   have o4:=(o2.below hb3).within hw4 (.inl (by omega))
   have oq4:=oq.within hw4 (.inr (by omega))
   have hn4:Below w.heap.size w W4:=(hn2.trans (hb3.mono hn2.size)).trans (hw4.below (by omega) (by omega))
   have rq:W4.rangeAt wr.heap.size 0 q.cells:=Box.range [] q.cells [] (by simpa using d4)
   have HI1:=Tryz.infoPg ⟨z.page.lsn,[y0,y1,y2,y3]⟩ rfl
   have HO1:=page_one ⟨z.page.lsn,[y0,y1,y2,y3]⟩
   have HI2:=seat_info q
   have HW4:Hid (w3.setCells wr.heap.size 1 (PageA.cells ⟨z.page.lsn,[y0,y1,y2,y3]⟩).toArray.toList=W4):=hW4.out
   have e0:=k24.cell 0 _ rfl
   have hs4a:=Nat.le_of_eq hs4
   have hs4b:=Nat.le_of_eq hs4.symm
   obtain ⟨W5,hW5,d5,hb5,hs5⟩:=boxes1 W4 q.cells 103
   have k25:=k24.below hb5 k24.lt
   have k15:=k14.below hb5 k14.lt
   have o5:=o4.below hb5
   have oq5:=oq4.below hb5
   have hn5:Below w.heap.size w W5:=hn4.trans (hb5.mono hn4.size)
   have r5:W5.rangeAt W4.heap.size 0 q.cells:=Box.range [] q.cells [] (by simpa using d5)
   have hs5':=hb5.size
   clear hW4 hq hs4 hw4 d3 d4 d2 oq ho hv hb3 k22 k12 o2 k24 k14 o4 oq4 hn2 hn4 hb5 d5 hs5
   generalize PageA.cells ⟨z.page.lsn,[y0,y1,y2,y3]⟩=pc2 at*
   go_wp2_with (first | (guard_target=wpList _ _ _ (Oper.mk none (Op.store _ (Operand.tmp 19) _) _ _ _ _::_) _ _;refine wpList_store_mid rfl 47 (.tmp 19) (.tmp 18) rfl wr.heap.size 1 pc2.toArray rfl rfl hth4 (by rw [List.size_toArray];exact HI1) HO1 ?_;rw [HW4.out]) | (guard_target=wpList _ _ _ (Oper.mk (some 22) _ _ _ _ _::_) _ _;refine wpList_load_mid rfl 103 (.tmp 5) rfl wr.heap.size 0 rfl q.cells _ rq Tryz.underlying103 rfl HI2 ?_) | (guard_target=wpList _ _ _ (Oper.mk (some 23) _ _ _ _ _::_) _ _;refine build_seats1 (.tmp 22) q rfl ?_;rw [hW5.out]) | (guard_target=wpList _ _ _ (Oper.mk (some 24) _ _ _ _ _::_) _ _;refine append_seat rfl _ _ rfl W.heap.size wr.heap.size a' c' ts rfl o5 W4.heap.size 0 1 q rfl r5 W2.heap.size w3.heap.size oq5 (by omega) (by omega) hll (by omega) ?_) | fail)
   intro a9 c9 w9 o9 g9
   have HCM:=HS.out q HV.out
   obtain ⟨ys,hys⟩:∃ ys,Hid (ts++[q]=ys):=⟨_,rfl⟩
   have hyl:ts.length+1=ys.length:=by rw [← hys.out];simp
   rw [hys.out] at o9 HCM
   rw [hyl]
   clear hyl
   have hw9:Within W.heap.size wr.heap.size W5 w9:=Within.of_grown g9 (fun j hj=>⟨(o5.row.lt j hj).1,o5.blk j hj⟩)
   have hs9:=hw9.size
   have hn9:Below w.heap.size w w9:=hn5.trans (hw9.below (by omega) (by omega))
   have k29:=k25.within hw9 (by omega)
   have k19:=k15.within hw9 (by omega)
   have m0:=k29.cell 0 _ rfl
   have mf0:=k29.frozen 0
   obtain ⟨WF,hWF,kF,hwF,hsF⟩:=box_set k29 0 (.slice a9 ys.length c9)
   simp only [List.set] at kF
   have hsFa:=Nat.le_of_eq hsF
   have hsFb:=Nat.le_of_eq hsF.symm
   have k1F:=k19.within hwF (by omega)
   have oF:=(o9.within hwF (.inr (by omega))).widen (Nat.le_refl _) hsFb (Nat.le_refl _)
   have hnF:Below w.heap.size w WF:=hn9.trans (hwF.below (by omega) (by omega))
   clear hwF k29 k19 o9 hsF g9 hw9 e0 k25 k15 o5 oq5 r5 rq HW4 hW5
   go_wp2_with fail
   rw [hWF.out]
   go_roundw
   case rel=>exact ⟨k+1,ys,a9,c9,by omega,by go_num,HCM,kF,k1F,oF,hnF,by omega⟩
   case measure=>simp [intOf];omega
  ·have HE:Hid (ts.map SeatA.v=rs.map SeatA.v):=by
    have e:k=rs.length:=by omega
    rw [e] at hc
    exact hc.out.all
   have e0:=k2.cell 0 _ rfl
   have e1:=k2.cell 1 _ rfl
   have m0:=k1.cell 0 _ rfl
   have m1:=k1.cell 1 _ rfl
   have mf0:=k1.frozen 0
   have mf1:=k1.frozen 1
   obtain ⟨WF,hWF,bF,hwF,hsF⟩:=box2_fill k1 (.slice a' ts.length c') (.int .i64 s)
   have q0:=bF.cell 0 _ rfl
   have q1:=bF.cell 1 _ rfl
   have hoF:=(hown.within hwF (.inr (by omega))).widen (show w.heap.size≤W.heap.size by omega) (show wr.heap.size≤WF.heap.size by omega) (Nat.le_refl _)
   have hbF:Below w.heap.size w WF:=hnx.trans (hwF.below (by omega) (by have:=hnx.size;omega))
   clear hwF hsF bF
   go_wp2
   rw [hWF.out]
   exact bodyPost_ret (v:=.agg #[.slice a' ts.length c',.int .i64 s]) (by simp [results,Tryz.results62,go_sem,q0,q1]) rfl ⟨⟨ts,s,a',c'⟩,rfl,by simp only [Hid,PoolA.v];rw [HE.out],hoF,hbF⟩
structure EngA.caps (e:EngA):Prop where
 txs:e.aT=none→e.cT=0
 holds:e.aH=none→e.cH=0
 recs:∀ r∈e.log.recs,r.aL=none→r.cL=0
theorem copyEngine_any (e:EngA) (se:e.shape) (w:World) (re:e.reads w) (hl:e.short 1048576) (hc:e.caps):
  Calls Tryz.prog 25 #[.agg e.cells.toArray] w fun r w'=>∃ t:EngA,r=.returned (.agg t.cells.toArray)∧t.shape∧Hid (t.v=e.v)∧t.own w' w.heap.size w'.heap.size∧Below w.heap.size w w':=by
 obtain ⟨Z,hZ⟩:∃ Z,Hid (zeroE=Z):=⟨_,rfl⟩
 have sZ:Z.shape:=by rw [← hZ.out];exact zeroE_shape
 have HZ:=Tryz.zeroEng
 rw [hZ.out] at HZ
 obtain ⟨W,hW,b1,b2,hbW,hsW⟩:=boxes2 w e.cells Z.cells 58 58
 have hs0:w.heap.size+1<W.heap.size:=by omega
 have HE:Hid (∀ u,Below w.heap.size w u→e.reads u):=fun u hu=>re.below hu
 have hix0:=run_index_page e.disk se.disk8
 have HIX:Hid (_):=hix0
 clear hix0
 have HFD:Hid (∀ p∈e.disk,Fit p.ss):=fun p hp s hs=>by have:=hl.disk p hp s hs;omega
 have hid:=disk8_info se.disk8
 have HD8:Hid (e.disk.length=8):=se.eight
 have p0:=(eng_parts se b1).1
 go_enter Tryz.func25,Tryz.ntmps25
 go_wp2_with (first | (guard_target=wpList _ _ _ (Oper.mk _ (Op.alloc _) _ _ _ _::_) _ _;refine alloc_of 58 Z.cells HZ ?_) | (guard_target=wpList _ _ _ (Oper.mk (some 6) _ _ _ _ _::_) _ _;refine wpList_load_mid rfl 48 (.tmp 5) rfl w.heap.size 0 rfl (cellsPs e.disk) _ (by rw [hW.out];exact p0) Tryz.underlying48 rfl hid ?_) | fail)
 rw [hW.out]
 clear hW p0 hid hsW
 have b1':Box W w.heap.size (cellsPs ([]++e.disk.drop 0)++e.tail) 58:=b1
 clear b1
 go_loopw [7] (fun i wr=>∃ (k:Nat) (ts:List PageA),k≤8∧i=.int .i64 (k:Int)∧Hid (ts.length=k∧(∀ p∈ts,p.ss.length=4)∧ts.map pgv=(e.disk.take k).map pgv)∧OwnS wr W.heap.size wr.heap.size (slots8 ts)∧Box wr w.heap.size (cellsPs (ts++e.disk.drop k)++e.tail) 58∧Box wr (w.heap.size+1) Z.cells 58∧Below w.heap.size w wr∧W.heap.size≤wr.heap.size) (fun i _=>8-(intOf i).toNat)
 case atStart=>exact ⟨0,[],Nat.zero_le _,rfl,⟨rfl,fun p hp=>by (simp at hp),rfl⟩,OwnS.nil _ _ _,b1',b2,hbW,Nat.le_refl _⟩
 case round=>
  obtain ⟨k,ts,hk,rfl,hts,hown,c1,c2,hnx,hsr⟩:=hrel
  clear b1' b2
  by_cases hlt:k<8
  ·have hkl:k<e.disk.length:=by rw [HD8.out];exact hlt
   have HP4:=se.disk8.at hlt
   have F1:=HFD.out _ (pageD_mem (k:=k) hkl)
   have R1:=(HE.out _ hnx).disk _ (pageD_mem (k:=k) hkl)
   have HTK:Hid ((e.disk.take (k+1)).map pgv=(e.disk.take k).map pgv++[pgv (e.disk.getD k zeroP)]):=by rw [Hid,List.take_succ_eq_append_getElem hkl,pageD_eq hkl,List.map_append];rfl
   have HDR:e.disk.drop k=e.disk.getD k zeroP::e.disk.drop (k+1):=by rw [← pageD_eq hkl];exact List.drop_eq_getElem_cons hkl
   have hix:=HIX.out k hlt
   rw [HDR] at c1
   clear HDR
   generalize e.disk.getD k zeroP=p at*
   have HIp:=page_infoP p HP4
   have HOp:=all_oneCell_toArray (oneP p)
   obtain ⟨ZV,hZV,bZ,hbZ,hsZ⟩:=boxes1 wr [.int .i64 0,.bool false,.int .i64 0,.slice none 0 0,.slice none 0 0,.bool false,.int .i64 0,.slice none 0 0,.slice none 0 0,.bool false,.int .i64 0,.slice none 0 0,.slice none 0 0,.bool false,.int .i64 0,.slice none 0 0,.slice none 0 0] 47
   obtain ⟨V,hV,hwS,hsS,HT,_,bS⟩:=page_out (C:=wr.heap.size) (T:=47) p HP4 _ rfl bZ Tryz.underlying47 rfl (by kernel_rfl)
   have nb:Below wr.heap.size wr V:=hbZ.trans (hwS.below (Nat.le_refl _) (by omega))
   have rS:V.rangeAt wr.heap.size 0 p.cells:=Box.range [] p.cells [] (by simpa using bS)
   have EV:Hid (ZV.setCells wr.heap.size 0 p.cells.toArray.toList=V):=hV.out
   have C1:=copyPage_own p HP4 V (R1.below nb) F1
   have hlV:=bS.lt
   have sV:=nb.size
   have hi0:(0:Int)≤(k:Int):=by omega
   have hi8:(k:Int)<8:=by omega
   clear bZ hbZ hsZ hwS hsS hV bS R1
   go_wp2_with (first | (guard_target=wpList _ _ _ (Oper.mk none (Op.store _ (Operand.tmp 4) _) _ _ _ _::_) _ _;refine wpList_store_mid rfl 47 (.tmp 4) (.tmp 10) rfl wr.heap.size 0 p.cells.toArray rfl rfl (by rw [hZV.out];exact HT.out) (by rw [List.size_toArray];exact HIp) HOp ?_) | (guard_target=wpList _ _ _ (Oper.mk (some 12) _ _ _ _ _::_) _ _;refine wpList_load_mid rfl 47 (.tmp 4) rfl wr.heap.size 0 rfl (p.cells) _ (by rw [hZV.out,EV.out];exact rS) Tryz.underlying47 rfl HIp ?_) | fail)
   rw [hZV.out,EV.out]
   clear hZV EV HT rS hix
   refine C1.mono ?_
   clear C1
   rintro r w1 ⟨us,rfl,hv,ho1,hb1⟩
   have hu4:us.length=4:=by have:=congrArg List.length hv.out;simp only [List.length_map] at this;omega
   have s1:=hb1.size
   obtain ⟨q,hq⟩:∃ q:PageA,Hid ((⟨p.lsn,us⟩:PageA)=q):=⟨_,rfl⟩
   have hq4:q.ss.length=4:=by rw [← hq.out];exact hu4
   have oq:OwnS w1 V.heap.size w1.heap.size q.ss:=by rw [← hq.out];exact ho1
   have HQV:Hid (pgv q=pgv p):=by rw [Hid,← hq.out];simp only [pgv];rw [hv.out]
   rw [hq.out]
   clear hq hv ho1 hu4
   have nb1:Below wr.heap.size wr w1:=nb.trans (hb1.mono nb.size)
   replace c1:=c1.below nb1 c1.lt
   replace c2:=c2.below nb1 c2.lt
   have hown1:=hown.below nb1
   replace hnx:=hnx.trans (nb1.mono hnx.size)
   rw [cellsPs_app,cellsPs_cons,List.append_assoc,List.append_assoc] at c1
   obtain ⟨W2,hW2,d3,hw2,hs2⟩:=range_fill (cellsPs ts) p.cells q.cells (cellsPs (e.disk.drop (k+1))++e.tail) c1 (by rw [page_len q hq4,page_len p HP4])
   have hl3:(cellsPs ts).length=k*17:=by rw [cellsPs_len _ hts.out.2.1,hts.out.1]
   rw [hl3] at hW2
   have HTH:Hid (w1.there w.heap.size (k*17) q.cells.toArray.size):=c1.there _ _ (by rw [List.size_toArray,page_len q hq4,List.length_append,List.length_append,hl3,page_len p HP4];omega)
   have s2:=hw2.size
   have d3':Box W2 w.heap.size (cellsPs ((ts++[q])++e.disk.drop (k+1))++e.tail) 58:=by
    rw [List.append_assoc,cellsPs_app,List.singleton_append,cellsPs_cons,List.append_assoc,List.append_assoc];exact d3
   have c2':=c2.within hw2 (by omega)
   have HOW:Hid (OwnS W2 W.heap.size W2.heap.size (slots8 (ts++[q]))):=by
    rw [Hid,slots8_app,slots8_cons]
    have o:=((hown1.widen (Nat.le_refl _) sV (by omega)).snocs oq (by omega) (by omega) (Nat.le_refl _))
    simpa [slots8] using (o.within hw2 (.inr (by omega))).widen (Nat.le_refl _) s2 (Nat.le_refl _)
   have HTS:Hid ((ts++[q]).length=k+1∧(∀ p∈ts++[q],p.ss.length=4)∧(ts++[q]).map pgv=(e.disk.take (k+1)).map pgv):=by
    refine ⟨by rw [List.length_append,hts.out.1];rfl,fun x hx=>?_,?_⟩
    ·rcases List.mem_append.1 hx with h | h
     ·exact hts.out.2.1 x h
     ·rw [List.mem_singleton.1 h];exact hq4
    ·rw [HTK.out,List.map_append,hts.out.2.2,← HQV.out];rfl
   have HN:Hid (Below w.heap.size w W2∧W.heap.size≤W2.heap.size):=⟨hnx.trans (hw2.below (Nat.le_refl _) (by omega)),by omega⟩
   have HIq:Hid ((Tryz.prog.info? 47).map (·.size)=some q.cells.toArray.size):=page_infoP q hq4
   have HOq:=all_oneCell_toArray (oneP q)
   have HW2:Hid (w1.setCells w.heap.size (k*17) q.cells.toArray.toList=W2):=hW2.out
   clear c1 c2 d3 hown hown1 oq hw2 hs2 hW2 hnx hts HTK HQV hl3 hb1 nb nb1
   go_wp2_with (first | (guard_target=wpList _ _ _ (Oper.mk none (Op.store _ (Operand.tmp 15) _) _ _ _ _::_) _ _;refine wpList_store_mid rfl 47 (.tmp 15) (.tmp 13) rfl w.heap.size (k*17) (q.cells).toArray rfl rfl HTH.out HIq.out HOq ?_) | fail)
   rw [HW2.out]
   go_roundw
   case rel=>exact ⟨k+1,ts++[q],by omega,by go_num,HTS,HOW.out,d3',c2',HN.out.1,HN.out.2⟩
   case measure=>simp [intOf];omega
  ·obtain rfl:k=8:=by omega
   have hkk:¬ ((8:Nat):Int)<8:=by omega
   have ht8:Disk8 ts:=⟨hts.out.1,hts.out.2.1⟩
   have hvd:Hid (ts.map pgv=e.disk.map pgv):=by rw [Hid,hts.out.2.2,← HD8.out,List.take_length]
   have b1:Box wr w.heap.size (cellsPs ts++[.slice e.aS e.seats.length e.cS,.int .i64 e.hand,.slice e.log.a e.log.recs.length e.log.c,.int .i64 e.log.sure,.slice e.aT e.txs.length e.cT,.slice e.aH e.holds.length e.cH,.int .i64 e.next,.bool e.down]) 58:=by
    have e0:e.disk.drop 8=[]:=List.drop_eq_nil_of_le (by rw [HD8.out];exact Nat.le_refl _)
    rw [e0,List.append_nil] at c1
    exact c1
   have HA:Hid ((cellsPs ts).length=136):=by rw [Hid,cellsPs_len _ ht8.four,ht8.eight]
   have b2:=c2
   have N:=hnx
   have od:=hown
   clear c1 c2 hnx hown hts
   have p1:wr.rangeAt w.heap.size 136 e.poolA.cells:=by
    have:=Box.range (cellsPs ts) e.poolA.cells [.slice e.log.a e.log.recs.length e.log.c,.int .i64 e.log.sure,.slice e.aT e.txs.length e.cT,.slice e.aH e.holds.length e.cH,.int .i64 e.next,.bool e.down] b1
    rwa [HA.out] at this
   have C:=copyPool_any e.poolA wr (HE.out _ N).pool hl.pool
   go_wp2_with (first | (guard_target=wpList _ _ _ (Oper.mk (some 18) _ _ _ _ _::_) _ _;refine wpList_load_mid rfl 51 (.tmp 17) rfl w.heap.size 136 rfl (e.poolA.cells) _ p1 Tryz.underlying51 rfl (pool_info _) ?_) | fail)
   refine C.mono ?_
   clear C p1
   rintro r w3 ⟨q,rfl,hvp,op,hb⟩
   have s3:=hb.size
   replace b1:=b1.below hb b1.lt
   replace b2:=b2.below hb b2.lt
   replace N:=N.trans (hb.mono N.size)
   replace od:=od.below hb
   clear hb
   obtain ⟨w4,h4,c3,hw,hs⟩:=range_fill (cellsPs ts) e.poolA.cells q.cells [.slice e.log.a e.log.recs.length e.log.c,.int .i64 e.log.sure,.slice e.aT e.txs.length e.cT,.slice e.aH e.holds.length e.cH,.int .i64 e.next,.bool e.down] b1 rfl
   rw [HA.out] at h4
   have HT:Hid (w3.there w.heap.size 136 q.cells.toArray.size):=b1.there _ _ (by rw [List.length_append,HA.out];show 136+2≤_;simp)
   have sy4:=hw.size
   replace b2:=b2.within hw (by omega)
   replace N:=N.trans (hw.below (Nat.le_refl _) (by have:=N.size;omega))
   replace od:=od.within hw (.inr (by omega))
   replace op:=op.within hw (.inr (by omega))
   clear hw hs b1
   have E4:Hid (w3.setCells w.heap.size 136 q.cells.toArray.toList=w4):=h4.out
   have b1:Box w4 w.heap.size ((cellsPs ts++q.cells)++[.slice e.log.a e.log.recs.length e.log.c,.int .i64 e.log.sure,.slice e.aT e.txs.length e.cT,.slice e.aH e.holds.length e.cH,.int .i64 e.next,.bool e.down]) 58:=by rw [List.append_assoc];exact c3
   clear c3 h4
   have HA2:Hid ((cellsPs ts++q.cells).length=138):=by rw [Hid,List.length_append,HA.out];rfl
   have p2:w4.rangeAt w.heap.size 138 e.log.cells:=by
    have:=Box.range (cellsPs ts++q.cells) e.log.cells [.slice e.aT e.txs.length e.cT,.slice e.aH e.holds.length e.cH,.int .i64 e.next,.bool e.down] b1
    rwa [HA2.out] at this
   have C:=copyLog_any e.log w4 (HE.out _ N).log hl.log hc.recs
   go_wp2_with (first | (guard_target=wpList _ _ _ (Oper.mk none (Op.store _ (Operand.tmp 20) _) _ _ _ _::_) _ _;refine wpList_store_mid rfl 51 (.tmp 20) (.tmp 19) rfl w.heap.size 136 (q.cells).toArray rfl rfl HT.out (pool_info _) (all_oneCell_toArray (onePool q)) ?_) | (guard_target=wpList _ _ _ (Oper.mk (some 22) _ _ _ _ _::_) _ _;refine wpList_load_mid rfl 54 (.tmp 21) rfl w.heap.size 138 rfl (e.log.cells) _ (by rw [E4.out];exact p2) Tryz.underlying54 rfl (log_info _) ?_) | fail)
   rw [E4.out]
   refine C.mono ?_
   clear C p2 E4 HT
   rintro r w5 ⟨l,rfl,hvl,ol,hb⟩
   have s5:=hb.size
   replace b1:=b1.below hb b1.lt
   replace b2:=b2.below hb b2.lt
   replace N:=N.trans (hb.mono N.size)
   replace od:=od.below hb
   replace op:=op.below hb
   clear hb
   obtain ⟨w6,h6,c3,hw,hs⟩:=range_fill (cellsPs ts++q.cells) e.log.cells l.cells [.slice e.aT e.txs.length e.cT,.slice e.aH e.holds.length e.cH,.int .i64 e.next,.bool e.down] b1 rfl
   rw [HA2.out] at h6
   have HT:Hid (w5.there w.heap.size 138 l.cells.toArray.size):=b1.there _ _ (by rw [List.length_append,HA2.out];show 138+2≤_;simp)
   have sy6:=hw.size
   replace b2:=b2.within hw (by omega)
   replace N:=N.trans (hw.below (Nat.le_refl _) (by have:=N.size;omega))
   replace od:=od.within hw (.inr (by omega))
   replace op:=op.within hw (.inr (by omega))
   replace ol:=ol.within hw (.inr (by omega))
   clear hw hs b1
   have E6:Hid (w5.setCells w.heap.size 138 l.cells.toArray.toList=w6):=h6.out
   have b1:Box w6 w.heap.size (cellsPs ts++[.slice q.a q.seats.length q.c,.int .i64 q.hand,.slice l.a l.recs.length l.c,.int .i64 l.sure,.slice e.aT e.txs.length e.cT,.slice e.aH e.holds.length e.cH,.int .i64 e.next,.bool e.down]) 58:=by rw [List.append_assoc] at c3;exact c3
   clear c3 h6
   go_upto_region 8 with (first | (guard_target=wpList _ _ _ (Oper.mk none (Op.store _ (Operand.tmp 24) _) _ _ _ _::_) _ _;refine wpList_store_mid rfl 54 (.tmp 24) (.tmp 23) rfl w.heap.size 138 (l.cells).toArray rfl rfl HT.out (log_info _) (all_oneCell_toArray (oneLog l)) ?_) | fail)
   rw [E6.out]
   clear E6 HT
   have HX:Hid (∀ u,Below w6.heap.size w6 u→u.cell? ⟨w.heap.size,140,none⟩=some (.slice e.aT e.txs.length e.cT)∧u.frozen? ⟨w.heap.size,140,none⟩=false):=fun u hu=>by
    have bu:=b1.below hu b1.lt
    exact ⟨bu.cell 140 (.slice e.aT e.txs.length e.cT) (by rw [List.getElem?_append_right (by rw [HA.out];omega),HA.out];rfl),bu.frozen 140⟩
   obtain ⟨x0,f0⟩:=HX.out _ (Below.refl _ _)
   have HRD:=(HE.out _ N).txs
   have HLN:([]:List LiveV).length+e.txs.length≤1099511627776:=by have:=hl.txs;simp only [List.length_nil];omega
   go_upto_region 9 with (first | (guard_target=wpList _ _ _ (Oper.mk (some 27) _ _ _ _ _::_) _ _;refine append_lives rfl (.const (.slice none 0 0)) (.tmp 26) rfl w6.heap.size w6.heap.size none 0 [] rfl (ownL_nil _ _ _ (Nat.le_refl _)) e.aT e.cT e.txs rfl HRD hc.txs HLN (Nat.le_refl _) ?_;intro a7 c7 y7 w7 hy7 ot g7;have hb7:Below w6.heap.size w6 w7:=(Below.refl _ _).grown g7 (Nat.le_refl _) (fun j hj=>by cases hj);obtain ⟨x7,f7⟩:=HX.out _ hb7) | fail)
   have hyy:y7=e.txs:=hy7.out
   subst hyy
   have s7:=hb7.size
   replace b1:=b1.below hb7 b1.lt
   replace b2:=b2.below hb7 b2.lt
   replace N:=N.trans (hb7.mono N.size)
   replace od:=od.below hb7
   replace op:=op.below hb7
   replace ol:=ol.below hb7
   clear x0 f0 x7 f7 HRD HLN g7 hy7 hb7 HX
   obtain ⟨w8,hw8,c3,hw,hs⟩:=tail_fill b1 HA.out 4 (.slice a7 e.txs.length c7)
   rw [show w.heap.size=w.heap.size from rfl,hw8.out]
   have syw8:=hw.size
   replace b2:=b2.within hw (by omega)
   replace N:=N.trans (hw.below (Nat.le_refl _) (by have:=N.size;omega))
   replace od:=od.within hw (.inr (by omega))
   replace op:=op.within hw (.inr (by omega))
   replace ol:=ol.within hw (.inr (by omega))
   replace ot:=ot.within hw (.inr (by omega))
   clear hw hs hw8 b1
   have b1:Box w8 w.heap.size (cellsPs ts++[.slice q.a q.seats.length q.c,.int .i64 q.hand,.slice l.a l.recs.length l.c,.int .i64 l.sure,.slice a7 e.txs.length c7,.slice e.aH e.holds.length e.cH,.int .i64 e.next,.bool e.down]) 58:=c3
   clear c3
   have HX:Hid (∀ u,Below w8.heap.size w8 u→u.cell? ⟨w.heap.size,141,none⟩=some (.slice e.aH e.holds.length e.cH)∧u.frozen? ⟨w.heap.size,141,none⟩=false):=fun u hu=>by
    have bu:=b1.below hu b1.lt
    exact ⟨bu.cell 141 (.slice e.aH e.holds.length e.cH) (by rw [List.getElem?_append_right (by rw [HA.out];omega),HA.out];rfl),bu.frozen 141⟩
   obtain ⟨x0,f0⟩:=HX.out _ (Below.refl _ _)
   have HRD:=(HE.out _ N).holds
   have HLN:([]:List HoldV).length+e.holds.length≤1099511627776:=by have:=hl.holds;simp only [List.length_nil];omega
   go_upto_region 10 with (first | (guard_target=wpList _ _ _ (Oper.mk (some 31) _ _ _ _ _::_) _ _;refine append_holds rfl (.const (.slice none 0 0)) (.tmp 30) rfl w8.heap.size w8.heap.size none 0 [] rfl (ownH_nil _ _ _ (Nat.le_refl _)) e.aH e.cH e.holds rfl HRD hc.holds HLN (Nat.le_refl _) ?_;intro a9 c9 y9 w9 hy9 oh g9;have hb9:Below w8.heap.size w8 w9:=(Below.refl _ _).grown g9 (Nat.le_refl _) (fun j hj=>by cases hj);obtain ⟨x9,f9⟩:=HX.out _ hb9) | fail)
   have hyy:y9=e.holds:=hy9.out
   subst hyy
   have s9:=hb9.size
   replace b1:=b1.below hb9 b1.lt
   replace b2:=b2.below hb9 b2.lt
   replace N:=N.trans (hb9.mono N.size)
   replace od:=od.below hb9
   replace op:=op.below hb9
   replace ol:=ol.below hb9
   replace ot:=ot.below hb9
   clear x0 f0 x9 f9 HRD HLN g9 hy9 hb9 HX
   obtain ⟨w10,hw10,c3,hw,hs⟩:=tail_fill b1 HA.out 5 (.slice a9 e.holds.length c9)
   rw [show w.heap.size=w.heap.size from rfl,hw10.out]
   have syw10:=hw.size
   replace b2:=b2.within hw (by omega)
   replace N:=N.trans (hw.below (Nat.le_refl _) (by have:=N.size;omega))
   replace od:=od.within hw (.inr (by omega))
   replace op:=op.within hw (.inr (by omega))
   replace ol:=ol.within hw (.inr (by omega))
   replace ot:=ot.within hw (.inr (by omega))
   replace oh:=oh.within hw (.inr (by omega))
   clear hw hs hw10 b1
   have b1:Box w10 w.heap.size (cellsPs ts++[.slice q.a q.seats.length q.c,.int .i64 q.hand,.slice l.a l.recs.length l.c,.int .i64 l.sure,.slice a7 e.txs.length c7,.slice a9 e.holds.length c9,.int .i64 e.next,.bool e.down]) 58:=c3
   clear c3
   obtain ⟨T,hT⟩:∃ T:EngA,Hid ((⟨ts,q.seats,q.a,q.c,q.hand,l,e.txs,a7,c7,e.holds,a9,c9,e.next,e.down⟩:EngA)=T):=⟨_,rfl⟩
   have sT:T.shape:=by rw [← hT.out];exact ⟨ht8.eight,ht8.four⟩
   have bT:Box w10 w.heap.size T.cells 58:=by rw [← hT.out];exact b1
   have HV:Hid (T.v=e.v):=by
    rw [Hid,← hT.out]
    have v1:=hvd.out
    have v2:=hvp.out
    have v3:=hvl.out
    simp only [PoolA.v,EngA.poolA,PoolV.mk.injEq] at v2
    simp only [EngA.v,v2.1,v2.2,v3]
    congr 1
   have oT:T.own w10 W.heap.size w10.heap.size:=by
    rw [← hT.out]
    exact eng_own_of (a0:=W.heap.size) (a1:=wr.heap.size) (a2:=w3.heap.size) (a3:=w5.heap.size) (a4:=w7.heap.size) (a5:=w10.heap.size) od op (OwnRs.widen ol (by omega) (Nat.le_refl _) (by omega)) (ot.widen (by omega) (Nat.le_refl _) (by omega)) (oh.widen (by omega) (by omega) (Nat.le_refl _)) (by omega) (by omega) (by omega) (by omega) (by omega) (Nat.le_refl _)
   clear od op ol ot oh b1 hT hvd hvp hvl
   obtain ⟨WF,hWF,hwF,hsF,HTF,bF⟩:=eng_out sT sZ b2
   have HLF':Hid (_=_):=eng_load sT bF
   have rT:w10.rangeAt w.heap.size 0 T.cells:=Box.range [] T.cells [] (by simpa using bT)
   have HEND:Hid (T.own WF w.heap.size WF.heap.size∧Below w.heap.size w WF):=⟨(oT.within hwF (.inr (by omega))).widen (by omega) (by omega) (Nat.le_refl _),N.trans (hwF.below (by omega) (by have:=N.size;omega))⟩
   have HI:=eng_info sT
   have HO:=all_oneCell_toArray (oneE T)
   clear hwF hsF bF oT bT b2
   go_wp2_with (first | (guard_target=wpList _ _ _ (Oper.mk (some 33) _ _ _ _ _::_) _ _;refine wpList_load_mid rfl 58 (.tmp 1) rfl w.heap.size 0 rfl (T.cells) _ rT Tryz.underlying58 rfl HI ?_) | (guard_target=wpList _ _ _ (Oper.mk none (Op.store _ (Operand.tmp 2) _) _ _ _ _::_) _ _;refine wpList_store_mid rfl 58 (.tmp 2) (.tmp 33) rfl (w.heap.size+1) 0 (T.cells).toArray rfl rfl HTF.out (by rw [List.size_toArray];exact HI) HO ?_) | fail)
   rw [hWF.out]
   exact bodyPost_ret (v:=.agg T.cells.toArray) (results_one Tryz.results25 rfl HLF'.out) rfl ⟨T,rfl,sT,HV,HEND.out.1,HEND.out.2⟩
theorem EngA.own.caps {w:World} {lo hi:Nat} {e:EngA} (h:e.own w lo hi):e.caps:=⟨h.txs.nocap,h.holds.nocap,OwnRs.caps h.log⟩
theorem touch_belowL {bl:List Nat} {W w w':World} (h:Touch bl w w') (hd:∀ k∈bl,W.heap.size≤k) (hs:W.heap.size≤w.heap.size):Below W.heap.size w w':=
 ⟨h.os,h.tape,h.output,h.size,fun k hk=>h.block k (by omega) (fun hm=>by have:=hd k hm;omega)⟩
theorem slots8_len {ps:List PageA} (h:∀ p∈ps,p.ss.length=4):(slots8 ps).length=ps.length*4:=by
 induction ps with
 | nil=>rfl
 | cons p r ih=>
  have h1:=ih (fun q hq=>h q (List.mem_cons_of_mem _ hq))
  have h2:=h p List.mem_cons_self
  simp only [slots8,List.flatMap_cons,List.length_append,List.length_cons] at h1 ⊢
  omega
theorem countSt_mid4 {t:PoolA} (h:t.short 1048576):(t.count:Int)≤4194304:=by
 have h2:=h.len
 have e:t.count=4*t.seats.length:=rfl
 rw [e]
 omega
theorem count_mid4 {t:LogA} (h:t.short 1048576):(t.count:Int)≤10995116277760:=by
 have h1:=countRs_bound t.recs 1048576 h.each
 have h2:=h.len
 have h3:t.recs.length*(10+7*1048576)≤1048576*(10+7*1048576):=Nat.mul_le_mul_right _ h2
 have e:t.count=countRs t.recs:=rfl
 rw [e]
 omega
theorem EngA.k_short {e:EngA} (se:e.shape) (h:e.short 1048576):e.kP 1≤10995116277760∧e.kE 1≤1152921504606846976:=by
 have h1:=countS_le (slots8 e.disk) 1048576 (fun s hs=>by
  obtain ⟨p,hp,hs⟩:=List.mem_flatMap.1 hs
  exact h.disk p hp s hs)
 rw [slots8_len se.four,se.eight] at h1
 have h2:=countSt_mid4 h.pool
 have h3:=count_mid4 h.log
 have h4:=h.txs
 have h5:=h.holds
 unfold EngA.kE EngA.kH EngA.kT EngA.kL EngA.kP
 omega
theorem EngA.k_pos (e:EngA):0≤e.kE 1:=by unfold EngA.kE EngA.kH EngA.kT EngA.kL EngA.kP;omega
end Go.Proofs.YtcoeamamaifoeaaGreatDoor
namespace Go.Proofs.YtcoeamamaifoeaaGreatDoor
open Go.RowKit
theorem l6CopySeat_own (s:SeatA) (w:World) (hr:s.reads w) (hl:s.short 1099511627776):
  Calls Tryz.prog 82 #[.agg s.cells.toArray] w fun e w'=>∃ t:SeatA,e=.returned (.agg t.cells.toArray)∧Hid (t.v=s.v)∧t.own w' w.heap.size w'.heap.size∧Below w.heap.size w w':=by
 obtain ⟨W,hW,b0,b1,hbW,hsW⟩:=boxes2 w s.cells [.int .i64 0,.int .i64 0,.bool false,.int .i64 0,.slice none 0 0,.slice none 0 0,.bool false,.int .i64 0,.slice none 0 0,.slice none 0 0,.bool false,.int .i64 0,.slice none 0 0,.slice none 0 0,.bool false,.int .i64 0,.slice none 0 0,.slice none 0 0,.bool false,.bool false] 103 103
 have b1':Box W (w.heap.size+1) zeroSt.cells 103:=b1
 have hs0:w.heap.size+1<W.heap.size:=by omega
 have hrg0:W.rangeAt w.heap.size 1 s.page.cells:=seat_page s b0
 have HL:=Tryz.infoPg s.page rfl
 have C:=l3Copy_own s.page rfl W (hr.below hbW) hl
 clear hsW b1
 go_enter Tryz.func82,Tryz.ntmps82
 go_upto_region 1 with fail
 rw [hW.out]
 clear hW
 go_wp2_with (first | (guard_target=wpList _ _ _ (Oper.mk (some 4) _ _ _ _ _::_) _ _;refine wpList_load_mid rfl 47 (.tmp 3) rfl w.heap.size 1 rfl s.page.cells _ hrg0 Tryz.underlying47 rfl HL ?_) | fail)
 clear hrg0 HL
 refine C.mono ?_
 clear C
 rintro e w1 ⟨ts,rfl,hv,ho,hb1⟩
 obtain ⟨y0,y1,y2,y3,rfl⟩:=four_slots' (ts:=ts) (by have:=congrArg List.length hv.out;simpa [SeatA.page,SeatA.ss] using this)
 have hs1:=hb1.size
 have b01:=b0.below hb1 b0.lt
 have b11:=b1'.below hb1 b1'.lt
 obtain ⟨W2,hW2,b02,hw2,hs2,hth2⟩:=seat_fill s b01 s.page.lsn y0 y1 y2 y3
 obtain ⟨q,hq⟩:∃ q:SeatA,Hid ((⟨s.no,s.page.lsn,y0,y1,y2,y3,s.dirty,s.hot⟩:SeatA)=q):=⟨_,rfl⟩
 rw [hq.out] at b02
 have b12:=b11.within hw2 (by omega)
 obtain ⟨WF,hWF,hwF,hsF,HTF,HLF,bF⟩:=seat_out q _ rfl b12
 have r4:W2.rangeAt w.heap.size 0 q.cells:=Box.range [] q.cells [] (by simpa using b02)
 have oq:q.own w1 W.heap.size w1.heap.size:=by rw [← hq.out];exact ho
 have HV:Hid (q.v=s.v):=by rw [Hid,← hq.out];simp only [SeatA.v,SeatA.ss];rw [show List.map (fun x:SlotA=>x.v) [y0,y1,y2,y3]=s.page.ss.map (·.v) from hv.out];rfl
 have HFIN:Hid (q.own WF w.heap.size WF.heap.size∧Below w.heap.size w WF):=⟨((oq.within hw2 (.inr (by omega))).within hwF (.inr (by omega))).widen (by omega) (by omega) (Nat.le_refl _),((hbW.trans (hb1.mono (by omega))).trans (hw2.below (by omega) (by omega))).trans (hwF.below (by omega) (by omega))⟩
 have HI1:=Tryz.infoPg ⟨s.page.lsn,[y0,y1,y2,y3]⟩ rfl
 have HO1:=page_one ⟨s.page.lsn,[y0,y1,y2,y3]⟩
 have HI2:=seat_info q
 have HO2:=seat_one q
 have HW2:Hid (w1.setCells w.heap.size 1 (PageA.cells ⟨s.page.lsn,[y0,y1,y2,y3]⟩).toArray.toList=W2):=hW2.out
 have HWF:Hid (W2.setCells (w.heap.size+1) 0 q.cells.toArray.toList=WF):=hWF.out
 have HTF':W2.there (w.heap.size+1) 0 q.cells.toArray.size:=HTF.out
 clear hW2 hWF HTF hq hs1 hs2 hsF hw2 hwF b01 b11 b02 b12 bF oq ho hv hb1 b0 b1' hbW
 generalize PageA.cells ⟨s.page.lsn,[y0,y1,y2,y3]⟩=pc at*
 go_wp2_with (first | (guard_target=wpList _ _ _ (Oper.mk none (Op.store _ (Operand.tmp 6) _) _ _ _ _::_) _ _;refine wpList_store_mid rfl 47 (.tmp 6) (.tmp 5) rfl w.heap.size 1 pc.toArray rfl rfl hth2 (by rw [List.size_toArray];exact HI1) HO1 ?_;rw [HW2.out]) | (guard_target=wpList _ _ _ (Oper.mk (some 7) _ _ _ _ _::_) _ _;refine wpList_load_mid rfl 103 (.tmp 1) rfl w.heap.size 0 rfl q.cells _ r4 Tryz.underlying103 rfl HI2 ?_) | (guard_target=wpList _ _ _ (Oper.mk none (Op.store _ (Operand.tmp 2) _) _ _ _ _::_) _ _;refine wpList_store_mid rfl 103 (.tmp 2) (.tmp 7) rfl (w.heap.size+1) 0 q.cells.toArray rfl rfl HTF' (by rw [List.size_toArray];exact HI2) HO2 ?_;rw [HWF.out]) | fail)
 exact bodyPost_ret (v:=.agg q.cells.toArray) (results_one Tryz.results82 rfl HLF.out) rfl ⟨q,rfl,HV,HFIN.out.1,HFIN.out.2⟩
end Go.Proofs.YtcoeamamaifoeaaGreatDoor