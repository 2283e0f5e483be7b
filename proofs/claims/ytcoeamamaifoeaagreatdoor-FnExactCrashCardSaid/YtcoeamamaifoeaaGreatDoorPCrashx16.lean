/- Several texts in one, in their order. -/
import Derived.Test.YtcoeamamaifoeaaGreatDoorPCrashx15
import Derived.Deep.RegionHeld3
import Derived.Test.YtcoeamamaifoeaaGreatDoorPCrashx8
import Derived.Test.YtcoeamamaifoeaaGreatDoorPCrashx11
import Derived.Test.YtcoeamamaifoeaaGreatDoorPCrashx3
import Derived.Deep.CutRange
import Derived.Test.YtcoeamamaifoeaaGreatDoorPCrashx1
set_option maxHeartbeats 8000000
set_option maxRecDepth 100000
namespace Go.Proofs.YtcoeamamaifoeaaGreatDoor
open Go.RowKit
theorem repSt_len (n:Nat) (r:SeatA):(List.replicate n r).length=n:=by simp
theorem zero_cellsSts (n:Nat):(madeCells (Value.agg zeroSt.cells.toArray).cells (n*20)).toList=cellsSts (List.replicate n zeroSt):=by
 apply List.ext_getElem?
 intro i
 by_cases h:i<n*20
 ·have e:=cellsSts_at (List.replicate n zeroSt) (i / 20) (i % 20) (by simp;omega) (Nat.mod_lt _ (by omega))
  rw [show i / 20*20+i % 20=i by omega] at e
  rw [e]
  have hg:(List.replicate n zeroSt).getD (i / 20) zeroSt=zeroSt:=by simp [List.getD,show i / 20<n by omega]
  rw [hg]
  simp only [madeCells,Array.toList_map,List.getElem?_map,Array.toList_range,List.getElem?_range h,Option.map_some]
  have hm:i % 20<20:=Nat.mod_lt _ (by omega)
  have hz:∀ j,j<20→some ((Value.agg zeroSt.cells.toArray).cells[j]!)=zeroSt.cells[j]? :=by
   intro j hj
   rcases (by omega:j=0∨j=1∨j=2∨j=3∨j=4∨j=5∨j=6∨j=7∨j=8∨j=9∨j=10∨j=11∨j=12∨j=13∨j=14∨j=15∨j=16∨j=17∨j=18∨j=19) with rfl | rfl | rfl | rfl | rfl | rfl | rfl | rfl | rfl | rfl | rfl | rfl | rfl | rfl | rfl | rfl | rfl | rfl | rfl | rfl<;>rfl
  exact hz _ hm
 ·rw [List.getElem?_eq_none (by simp [size_madeCells];omega),List.getElem?_eq_none (by rw [cellsSts_len];simp;omega)]
theorem own_zeroSts {w:World} {lo hi g c:Nat} (n:Nat) (h:w.ownsRow lo 103 20 (.slice (some ⟨g,0,none⟩) n c) n (cellsSts (List.replicate n zeroSt))) (ht:hi≤w.heap.size) (hg:g<hi):OwnSts w lo hi (some ⟨g,0,none⟩) c (List.replicate n zeroSt):=by
 refine ⟨by rw [repSt_len];exact h,ht,fun k hk=>by cases hk;exact hg,fun r hr=>?_,?_⟩
 ·rw [(List.mem_replicate.1 hr).2]
  exact zeroSt_own' w lo hi ht
 ·have e:(List.replicate n zeroSt).flatMap SeatA.blocks=[]:=by
   rw [List.flatMap_eq_nil_iff]
   intro r hr
   rw [(List.mem_replicate.1 hr).2]
   rfl
  rw [e]
  simp [Value.ownBlock]
def CameSt (rs ts:List SeatA) (k:Nat):Prop:=ts.length=k∧ts.map SeatA.v=(rs.take k).map SeatA.v
theorem cameSt_none (rs:List SeatA):CameSt rs [] 0:=⟨rfl,by simp⟩
theorem CameSt.snoc {rs ts:List SeatA} {k:Nat} (h:CameSt rs ts k) (hk:k<rs.length) {q:SeatA} (hq:q.v=(rs.getD k zeroSt).v):CameSt rs (ts++[q]) (k+1):=by
 refine ⟨by simp [h.1],?_⟩
 have e:rs.getD k zeroSt=rs[k]:=by simp [List.getD,hk]
 rw [List.map_append,h.2,List.take_succ_eq_append_getElem hk,List.map_append,List.map_singleton,List.map_singleton,hq,e]
theorem CameSt.all {rs ts:List SeatA} (h:CameSt rs ts rs.length):ts.map SeatA.v=rs.map SeatA.v:=by
 have:=h.2
 rwa [List.take_length] at this
theorem rangeSt_below {w w':World} {b o:Nat} {r:SeatA} (h:w.rangeAt b o r.cells) (hb:Below w.heap.size w w'):w'.rangeAt b o r.cells:=rangeAt_below h hb (rangeSt_lt h)
theorem toSeatS_any (a:Option Addr) (cap:Nat) (rs:List SeatA) (w:World) (hr:ReadsSts w a rs) (hl:rs.length≤1048576) (hs:∀ r∈rs,r.short 1048576):
  Calls Tryz.prog 57 #[.slice a rs.length cap] w fun e w'=>∃ a' c' ts,e=.returned (.slice a' ts.length c')∧Hid (ts.map SeatA.v=rs.map SeatA.v)∧OwnSts w' w.heap.size w'.heap.size a' c' ts∧Below w.heap.size w w':=by
 obtain ⟨i0,hi,hz0,hz1,hz2⟩:=info_parts Tryz.infoSeat
 have HI:Hid ((Tryz.prog.info? 128).map (·.size)=some 20):=by rw [Hid];kernel_rfl
 have HJ:Hid ((Tryz.prog.info? 103).map (·.size)=some 20):=by rw [Hid];kernel_rfl
 rcases hr.cases with rfl | ⟨b,off,rfl,hpos,hcell⟩
 ·go_enter Tryz.func57,Tryz.ntmps57
  go_wp2_with (at_make;refine wpList_make_full _ rfl _ _ 49 rfl w.heap.size 103 i0 (.agg zeroSt.cells.toArray) 20 Tryz.underlying49 hi hz0 hz1 _ _ _ _ 0 rfl rfl (by simp) (by simp) (by omega) (by simp [maxLen]) (Nat.le_refl _) ?_)
  intro w0 hown0 hgrow0
  have hB:Below w.heap.size w w0:=(Below.refl _ _).grown hgrow0 (Nat.le_refl _) (fun k h=>by cases h)
  have ho:w0.ownsRow w.heap.size 103 20 (.slice (some ⟨w.heap.size,0,none⟩) 0 0) 0 (cellsSts (List.replicate 0 zeroSt)):=by
   rw [← zero_cellsSts]
   exact hown0
  have HO:Hid (OwnSts w0 w.heap.size w0.heap.size (some ⟨w.heap.size,0,none⟩) 0 []):=own_zeroSts 0 ho (Nat.le_refl _) (ho.lt _ rfl).2
  clear hown0 hgrow0 ho
  go_wp2
  refine wp_loop_rounds 1 ?_
  rw [rounds_succ]
  go_wp2
  go_ret
  exact ⟨_,_,[],rfl,rfl,HO.out,hB⟩
 ·have hbB:b<w.heap.size:=rangeSt_lt (hcell 0 hpos).1
  go_enter Tryz.func57,Tryz.ntmps57
  go_wp2_with (at_make;refine wpList_make_full _ rfl _ _ 49 rfl w.heap.size 103 i0 (.agg zeroSt.cells.toArray) 20 Tryz.underlying49 hi hz0 hz1 _ _ _ _ rs.length rfl rfl rfl rfl (by rw [hz2];omega) (by simp [maxLen];omega) (Nat.le_refl _) ?_)
  intro w0 hown0 hgrow0
  have hb0:Below w.heap.size w w0:=(Below.refl _ _).grown hgrow0 (Nat.le_refl _) (fun k h=>by cases h)
  have ho:w0.ownsRow w.heap.size 103 20 (.slice (some ⟨w.heap.size,0,none⟩) rs.length rs.length) rs.length (cellsSts (List.replicate rs.length zeroSt)):=by
   rw [← zero_cellsSts]
   exact hown0
  have HO:Hid (OwnSts w0 w.heap.size w0.heap.size (some ⟨w.heap.size,0,none⟩) rs.length (List.replicate rs.length zeroSt)):=own_zeroSts _ ho (Nat.le_refl _) (ho.lt _ rfl).2
  clear hown0 hgrow0 ho
  go_wp2
  go_loopw [4] (fun i wr=>∃ (k:Nat) (ts:List SeatA),k≤rs.length∧i=.int .i64 k∧Hid (CameSt rs ts k)∧Hid (OwnSts wr w.heap.size wr.heap.size (some ⟨w.heap.size,0,none⟩) rs.length (ts++List.replicate (rs.length-k) zeroSt))∧Below w.heap.size w wr)
   (fun i _=>rs.length-(intOf i).toNat)
  case atStart=>exact ⟨0,[],Nat.zero_le _,rfl,cameSt_none rs,HO,hb0⟩
  case round=>
   obtain ⟨k,ts,hk,rfl,hc,hown,hnx⟩:=hrel
   by_cases hlt:k<rs.length
   ·obtain ⟨c0,c1⟩:=hcell k hlt
    have HR:Hid (wr.rangeAt b (off+k*20) (rs.getD k zeroSt).cells):=rangeAt_below c0 hnx hbB
    have hrd:(rs.getD k zeroSt).reads wr:=c1.below hnx
    have hsh:(rs.getD k zeroSt).short 1048576:=hs _ (seatD_mem rs k hlt)
    have C:=toSeat_any (rs.getD k zeroSt) wr hrd hsh
    have HS:Hid (∀ q:SeatA,q.v=(rs.getD k zeroSt).v→CameSt rs (ts++[q]) (k+1)):=fun q hq=>hc.out.snoc hlt hq
    have HP:Hid (ts++List.replicate (rs.length-k) zeroSt=ts++zeroSt::List.replicate (rs.length-(k+1)) zeroSt∧(ts++zeroSt::List.replicate (rs.length-(k+1)) zeroSt).length=rs.length∧ts.length=k):=by
     have e:rs.length-k=(rs.length-(k+1))+1:=by omega
     refine ⟨by rw [e,List.replicate_succ],?_,hc.out.1⟩
     have:=hc.out.1
     simp
     omega
    clear c0 c1 hcell hb0 HO hs hrd hsh
    generalize rs.getD k zeroSt=z at*
    go_wp2_with (first | (guard_target=wpList _ _ _ (Oper.mk (some 19) _ _ _ _ _::_) _ _;refine wpList_load_mid rfl 128 (.tmp 18) rfl b (off+k*20) rfl z.cells _ HR.out Tryz.underlying128 rfl HI.out ?_) | fail)
    refine C.mono ?_
    clear C HR
    rintro e w1 ⟨q,rfl,hq,hqo,hb1⟩
    have hs1:=hb1.size
    have ho1:=hown.out.below hb1
    rw [HP.out.1] at ho1
    obtain ⟨W2,hW2,ho2,ht2,hs2⟩:=ho1.fill q hqo (Nat.le_refl _) (by have:=hnx.size;omega) (Nat.le_refl _)
    rw [HP.out.2.2] at hW2
    have HT:Hid (w1.there w.heap.size (k*20) 20):=(row_seat ho1.row rfl k (by rw [HP.out.2.1];exact hlt)).2
    have hB2:Below w.heap.size w W2:=(hnx.trans (hb1.mono hnx.size)).trans ((ht2.within (lo:=w.heap.size) (hi:=w.heap.size+1) (fun j hj=>by obtain rfl:=List.mem_singleton.1 hj;omega)).below (Nat.le_refl _) (by have:=hnx.size;omega))
    have HH:Hid (OwnSts W2 w.heap.size W2.heap.size (some ⟨w.heap.size,0,none⟩) rs.length ((ts++[q])++List.replicate (rs.length-(k+1)) zeroSt)):=by
     have:=ho2.widen (Nat.le_refl _) (show max wr.heap.size w1.heap.size≤W2.heap.size by omega) (Nat.le_refl _)
     rw [List.append_assoc,List.singleton_append]
     exact this
    have HB:Hid _:=hB2
    have HC:=HS.out q hq.out
    have HO1:=seat_one' q
    clear ho1 ho2 ht2 hs2 hB2 hqo hb1 hnx hown hq HS hs1
    go_wp2_with (first | (guard_target=wpList _ _ _ (Oper.mk none (Op.store _ (Operand.tmp 21) _) _ _ _ _::_) _ _;refine wpList_store_mid rfl 103 (.tmp 21) (.tmp 20) rfl w.heap.size (k*20) q.cells.toArray rfl rfl HT.out HJ.out HO1 ?_) | fail)
    rw [hW2.out]
    go_roundw
    case rel=>exact ⟨k+1,ts++[q],by omega,by go_num,HC,HH,HB.out⟩
    case measure=>simp [intOf];omega
   ·have HE:Hid (ts.map SeatA.v=rs.map SeatA.v∧OwnSts wr w.heap.size wr.heap.size (some ⟨w.heap.size,0,none⟩) rs.length ts∧ts.length=rs.length):=by
     have e:k=rs.length:=by omega
     rw [e] at hown hc
     rw [Nat.sub_self,List.replicate_zero,List.append_nil] at hown
     exact ⟨hc.out.all,hown.out,hc.out.1⟩
    go_wp2
    go_ret
    exact ⟨some ⟨w.heap.size,0,none⟩,rs.length,ts,by rw [HE.out.2.2];rfl,HE.out.1,HE.out.2.1,hnx⟩
theorem mapSt_nil {ts:List SeatA} (h:ts.map SeatA.v=([]:List SeatA).map SeatA.v):ts=[]:=by simpa using h
theorem toPool_any (l:PoolA) (w:World) (hr:l.reads w) (hl:l.short 1048576):
  Calls Tryz.prog 21 #[.agg l.cells.toArray] w fun e w'=>∃ t:PoolA,e=.returned (.agg t.cells.toArray)∧Hid (t.v=l.v)∧t.own w' w.heap.size w'.heap.size∧Below w.heap.size w w':=by
 obtain ⟨rs,s,a,c⟩:=l
 obtain ⟨hl1,hl2⟩:=hl
 simp only [PoolA.reads,PoolA.cells,PoolA.own] at*
 obtain ⟨W,hW,b0,b1,b2,hbW,hsW⟩:=boxes3 w [.slice a rs.length c,.int .i64 s] [.slice none 0 0,.int .i64 0] [.slice none 0 0,.int .i64 0] 33 51 51
 have C:=toSeatS_any a c rs W (hr.below hbW) hl1 hl2
 go_enter Tryz.func21,Tryz.ntmps21
 go_wp2_with fail
 rw [hW.out]
 clear hW
 have hs0:w.heap.size+1+1<W.heap.size:=by omega
 clear hsW
 refine C.mono ?_
 clear C
 rintro e w1 ⟨a',c',ts,rfl,hv,ho1,hb1⟩
 have hs1:=hb1.size
 have b01:=b0.below hb1 b0.lt
 have b11:=b1.below hb1 b1.lt
 have b21:=b2.below hb1 b2.lt
 have x1:=b01.cell 1 _ rfl
 have y0:=b21.cell 0 _ rfl
 have y1:=b21.cell 1 _ rfl
 have f0:=b21.frozen 0
 have f1:=b21.frozen 1
 have z0:=b11.cell 0 _ rfl
 have z1:=b11.cell 1 _ rfl
 have g0:=b11.frozen 0
 have g1:=b11.frozen 1
 obtain ⟨W2,hW2,b22,hw2,hs2⟩:=box_set b21 0 (.slice a' ts.length c')
 obtain ⟨W3,hW3,b23,hw3,hs3⟩:=box_set b22 1 (.int .i64 s)
 have b13:=(b11.within hw2 (by omega)).within hw3 (by omega)
 obtain ⟨W4,hW4,b14,hw4,hs4⟩:=box_set b13 0 (.slice a' ts.length c')
 obtain ⟨W5,hW5,b15,hw5,hs5⟩:=box_set b14 1 (.int .i64 s)
 simp only [List.set] at b15
 have q0:=b15.cell 0 _ rfl
 have q1:=b15.cell 1 _ rfl
 have hB5:Below w.heap.size w W5:=((((hbW.trans (hb1.mono (by omega))).trans (hw2.below (by omega) (by omega))).trans (hw3.below (by omega) (by omega))).trans (hw4.below (by omega) (by omega))).trans (hw5.below (by omega) (by omega))
 have ho5:=((((ho1.within hw2 (.inr (by omega))).within hw3 (.inr (by omega))).within hw4 (.inr (by omega))).within hw5 (.inr (by omega))).widen (show w.heap.size≤W.heap.size by omega) (show w1.heap.size≤W5.heap.size by omega) (Nat.le_refl _)
 have HH:Hid (_∧_∧_):=⟨ho5,hB5,hv.out⟩
 clear ho5 hB5 hv ho1 hb1 hw2 hw3 hw4 hw5 hs2 hs3 hs4 hs5 b01 b11 b21 b22 b23 b13 b14 b15 b0 b1 b2 hbW
 have h34:Hid (((((w1.setCell ⟨w.heap.size+1+1,0,none⟩ (.slice a' ts.length c')).setCell ⟨w.heap.size+1+1,1,none⟩ (.int .i64 s)).setCell ⟨w.heap.size+1,0,none⟩ (.slice a' ts.length c')).setCell ⟨w.heap.size+1,1,none⟩ (.int .i64 s))=W5):=by rw [Hid,hW2.out,hW3.out,hW4.out,hW5.out]
 clear hW2 hW3 hW4 hW5
 go_wp2
 rw [h34.out]
 exact bodyPost_ret (v:=.agg #[.slice a' ts.length c',.int .i64 s]) (by simp [results,Tryz.results21,go_sem,q0,q1]) rfl ⟨⟨ts,s,a',c'⟩,rfl,by simp only [Hid,PoolA.v];rw [HH.out.2.2],HH.out.1,HH.out.2.1⟩
theorem eqSeatS_same (a b:Option Addr) (ca cb:Nat) (rs ts:List SeatA) (he:ts.map SeatA.v=rs.map SeatA.v) (w:World) (ha:ReadsSts w a rs) (hb:ReadsSts w b ts) (hl:rs.length≤1099511627776) (hs:∀ r∈rs,r.short 1099511627776):
  Calls Tryz.prog 69 #[.slice a rs.length ca,.slice b ts.length cb] w fun e w'=>e=.returned (.bool true)∧Below w.heap.size w w':=by
 rcases ha.cases with rfl | ⟨b1,o1,rfl,hpos,hc1⟩
 ·obtain rfl:=mapSt_nil he
  go_enter Tryz.func69,Tryz.ntmps69
  go_wp2
  refine wp_loop_rounds 1 ?_
  rw [rounds_succ]
  go_wp2
  go_ret
  exact ⟨rfl,Below.refl _ _⟩
 ·have hlen:=mapSt_len he
  rcases hb.cases with rfl | ⟨b2,o2,rfl,_,hc2⟩
  ·simp at hlen;omega
  ·have HV:Hid (∀ k,k<rs.length→(ts.getD k zeroSt).v=(rs.getD k zeroSt).v):=fun k hk=>mapSt_at he k hk
   have HS:Hid (∀ k,k<rs.length→(rs.getD k zeroSt).short 1099511627776):=fun k hk=>hs _ (seatD_mem rs k hk)
   have HI:Hid ((Tryz.prog.info? 103).map (·.size)=some 20):=by rw [Hid];kernel_rfl
   have hu:=Tryz.underlying103
   rw [hlen] at hc2 ⊢
   clear he hs hlen
   go_enter Tryz.func69,Tryz.ntmps69
   go_wp2
   go_loopw [5] (fun i wr=>∃ k:Nat,k≤rs.length∧i=.int .i64 k∧Below w.heap.size w wr) (fun i _=>rs.length-(intOf i).toNat)
   case atStart=>exact ⟨0,Nat.zero_le _,rfl,Below.refl _ _⟩
   case round=>
    obtain ⟨k,hk,rfl,hbl⟩:=hrel
    by_cases hlt:k<rs.length
    ·obtain ⟨h1,r1⟩:=hc1 k hlt
     obtain ⟨h2,r2⟩:=hc2 k hlt
     have hv:=HV.out k hlt
     have hsh:=HS.out k hlt
     clear hc1 hc2
     generalize rs.getD k zeroSt=z at*
     generalize ts.getD k zeroSt=y at*
     have HR:Hid (∀ w1,Below w.heap.size w w1→w1.rangeAt b1 (o1+k*20) z.cells∧w1.rangeAt b2 (o2+k*20) y.cells):=fun w1 hh=>⟨rangeSt_below h1 hh,rangeSt_below h2 hh⟩
     have HD:Hid (∀ w1,Below w.heap.size w w1→z.reads w1∧y.reads w1):=fun w1 hh=>⟨r1.below hh,r2.below hh⟩
     clear h1 h2 r1 r2
     go_wp2_with fail
     refine wp_region_held_drew (S:=fun w'=>w'.rangeAt b1 (o1+k*20) z.cells∧w'.rangeAt b2 (o2+k*20) y.cells) (by kernel_rfl) ?_ (fun hHeld=>?_)
     ·exact HR.out _ hbl.drew
     refine tq 0 (v:=.slice (some ⟨b1,o1,none⟩) rs.length ca) rfl hHeld ?_
     try simp only [zz]
     refine tq 1 (v:=.int .i64 k) rfl hHeld ?_
     try simp only [zz]
     refine tq 2 (v:=.pointer (some ⟨b1,o1+k*20,none⟩)) rfl hHeld ?_
     try simp only [zz]
     refine tk 3 rfl (yieldsIf_load_mid (by rfl) _ _ rfl _ _ rfl z.cells _ (fun _ h=>h.1) Tryz.underlying103 rfl HI.out) hHeld ?_
     try simp only [zz]
     refine tq 4 (v:=.slice (some ⟨b2,o2,none⟩) rs.length cb) rfl hHeld ?_
     try simp only [zz]
     refine tq 5 (v:=.int .i64 k) rfl hHeld ?_
     try simp only [zz]
     refine tq 6 (v:=.pointer (some ⟨b2,o2+k*20,none⟩)) rfl hHeld ?_
     try simp only [zz]
     refine tk 7 rfl (yieldsIf_load_mid (by rfl) _ _ rfl _ _ rfl y.cells _ (fun _ h=>h.2) Tryz.underlying103 rfl HI.out) hHeld ?_
     try simp only [zz]
     refine wpAnyH_ready (rs:=[8]) (by kernel_rfl) (by simp) ?_
     refine AllReadyH.cons rfl (fun K hK=>?_) AllReadyH.nil
     go_simp
     refine (eqSeat_same z y hv _ (HD.out _ hbl.drew).1 (HD.out _ hbl.drew).2 hsh).mono ?_
     rintro e w2 ⟨rfl,hb2⟩
     have hw2:Below w.heap.size w w2:=(hbl.drew).trans (hb2.mono hbl.size)
     refine hK.out _ _ (HR.out _ hw2) (fun hHeld=>?_)
     clear hK K
     try simp only [zz]
     refine tq 9 (v:=.bool false) rfl hHeld ?_
     try simp only [zz]
     refine wpAnyH_done (by kernel_rfl) ?_ _
     go_wp2_with fail
     go_roundw
     case rel=>exact ⟨k+1,by omega,by go_num,hw2⟩
     case measure=>simp [intOf];omega
    ·go_wp2
     go_ret
     exact ⟨rfl,hbl⟩
theorem eqPool_same (l t:PoolA) (he:t.v=l.v) (w:World) (hr:l.reads w) (ht:t.reads w) (hl:l.short 1099511627776):
  Calls Tryz.prog 30 #[.agg l.cells.toArray,.agg t.cells.toArray] w fun e w'=>e=.returned (.bool true)∧Below w.heap.size w w':=by
 obtain ⟨rs,s,a,c⟩:=l
 obtain ⟨ts,s',a',c'⟩:=t
 obtain ⟨hl1,hl2⟩:=hl
 simp only [PoolA.v,PoolV.mk.injEq] at he
 obtain ⟨he,rfl⟩:=he
 simp only [PoolA.reads,PoolA.cells] at*
 obtain ⟨W,hW,b0,b1,hbW,hsW⟩:=boxes2 w [.slice a rs.length c,.int .i64 s'] [.slice a' ts.length c',.int .i64 s'] 51 51
 have C:=eqSeatS_same a a' c c' rs ts he W (hr.below hbW) (ht.below hbW) hl1 hl2
 clear hsW he hl1 hl2 hr ht
 go_enter Tryz.func30,Tryz.ntmps30
 go_wp2_with fail
 rw [hW.out]
 clear hW
 refine C.mono ?_
 clear C
 rintro e w1 ⟨rfl,hb1⟩
 have x1:=(b0.below hb1 b0.lt).cell 1 _ rfl
 have y1:=(b1.below hb1 b1.lt).cell 1 _ rfl
 clear b0 b1
 go_wp2
 go_ret
 exact ⟨rfl,hbW.trans (hb1.mono hbW.size)⟩
theorem szSeatS_any (a:Option Addr) (cap:Nat) (rs:List SeatA) (left:Int) (w:World) (hr:ReadsSts w a rs) (hn:rs.length≤9223372036854775807) (hs:∀ r∈rs,r.short 9223372036854775807) (hl:0≤left∧left≤1048576):
  Calls Tryz.prog 45 #[.slice a rs.length cap,.int .i64 left] w fun e w'=>∃ z:Int,e=.returned (.int .i64 z)∧(z<0∨(0≤z∧z≤left∧rs.length≤1048576∧∀ r∈rs,r.short 1048576))∧Below w.heap.size w w':=by
 have HI:Hid ((Tryz.prog.info? 128).map (·.size)=some 20):=by rw [Hid];kernel_rfl
 by_cases hle:left-rs.length<0
 ·go_enter Tryz.func45,Tryz.ntmps45
  go_wp2
  go_ret
  exact ⟨-1,rfl,.inl (by omega),Below.refl _ _⟩
 have HS:Hid (∀ k,k<rs.length→(rs.getD k zeroSt).short 9223372036854775807):=fun k hk=>hs _ (seatD_mem rs k hk)
 have hlen:rs.length≤1048576:=by omega
 have HC:Hid (∀ k,k<rs.length→∃ b off,a=some ⟨b,off,none⟩∧w.rangeAt b (off+k*20) (rs.getD k zeroSt).cells):=fun k hk=>by
  obtain ⟨b,off,ha,hc⟩:=hr (by intro e;rw [e] at hk;simp at hk)
  exact ⟨b,off,ha,(hc k hk).1⟩
 have HA:Hid ((∀ k,k<rs.length→(rs.getD k zeroSt).short 1048576)→∀ r∈rs,r.short 1048576):=by
  intro h r hr
  obtain ⟨k,hk,rfl⟩:=List.getElem_of_mem hr
  have:=h k hk
  simpa [List.getD,hk] using this
 clear hr hs
 go_enter Tryz.func45,Tryz.ntmps45
 go_wp2
 go_loopw [1,5] (fun v i wr=>∃ (k:Nat) (z:Int),k≤rs.length∧i=.int .i64 k∧v=.int .i64 z∧0≤z∧z≤left∧Hid (∀ j,j<k→(rs.getD j zeroSt).short 1048576)∧Below w.heap.size w wr) (fun _ i _=>rs.length-(intOf i).toNat)
 case atStart=>exact ⟨0,left-rs.length,Nat.zero_le _,rfl,by go_num,by omega,by omega,fun j hj=>by omega,Below.refl _ _⟩
 case round=>
  obtain ⟨k,z,hk,rfl,rfl,hz0,hz1,hsh,hbl⟩:=hrel
  by_cases hlt:k<rs.length
  ·obtain ⟨b,off,rfl,hcell⟩:=HC.out k hlt
   have HR:Hid (wr.rangeAt b (off+k*20) (rs.getD k zeroSt).cells):=rangeSt_below hcell hbl
   have C:=szSeat_any (rs.getD k zeroSt) z wr (HS.out k hlt) (by omega)
   clear hcell HC
   have HN:Hid ((rs.getD k zeroSt).short 1048576→∀ j,j<k+1→(rs.getD j zeroSt).short 1048576):=fun h j hj=>by
    by_cases e:j=k
    ·rw [e];exact h
    ·exact hsh.out j (by omega)
   generalize rs.getD k zeroSt=y at*
   go_wp2_with (first | (guard_target=wpList _ _ _ (Oper.mk (some 21) _ _ _ _ _::_) _ _;refine wpList_load_mid rfl 128 (.tmp 20) rfl b (off+k*20) rfl y.cells _ HR.out Tryz.underlying128 rfl HI.out ?_) | fail)
   refine C.mono ?_
   clear C HR
   rintro e w1 ⟨z1,rfl,hz,hb1⟩
   have hB1:Below w.heap.size w w1:=hbl.trans (hb1.mono hbl.size)
   rcases hz with hneg | ⟨g0,g1,g2⟩
   ·go_wp2
    go_ret
    exact ⟨-1,rfl,.inl (by omega),hB1⟩
   ·have hzn:¬ z1<0:=by omega
    have HH:=HN.out g2
    go_wp2
    go_roundw
    case rel=>exact ⟨k+1,z1,by omega,by go_num,rfl,g0,by omega,HH,hB1⟩
    case measure=>simp [intOf];omega
  ·have HE:Hid (∀ r∈rs,r.short 1048576):=HA.out (fun j hj=>hsh.out j (by omega))
   go_wp2
   go_ret
   exact ⟨z,rfl,.inr ⟨hz0,hz1,hlen,HE.out⟩,hbl⟩
theorem szPool_any (l:PoolA) (left:Int) (w:World) (hr:l.reads w) (hs:l.short 9223372036854775807) (hl:0≤left∧left≤1048576):
  Calls Tryz.prog 12 #[.agg l.cells.toArray,.int .i64 left] w fun e w'=>∃ z:Int,e=.returned (.int .i64 z)∧(z<0∨(0≤z∧z≤left∧l.short 1048576))∧Below w.heap.size w w':=by
 obtain ⟨rs,s,a,c⟩:=l
 obtain ⟨hl1,hl2⟩:=hs
 simp only [PoolA.reads,PoolA.cells] at*
 obtain ⟨W,hW,b0,hbW,hsW⟩:=boxes1 w [.slice a rs.length c,.int .i64 s] 33
 have C:=szSeatS_any a c rs left W (hr.below hbW) hl1 hl2 hl
 clear hsW hr hl1 hl2
 go_enter Tryz.func12,Tryz.ntmps12
 go_wp2_with fail
 rw [hW.out]
 clear hW
 refine C.mono ?_
 clear C
 rintro e w1 ⟨z,rfl,hz,hb1⟩
 have hB:Below w.heap.size w w1:=hbW.trans (hb1.mono hbW.size)
 rcases hz with hneg | ⟨h0,h1,h2,h3⟩
 ·go_wp2
  go_ret
  exact ⟨-1,rfl,.inl (by omega),hB⟩
 ·have hzn:¬ z<0:=by omega
  go_wp2
  go_ret
  exact ⟨z,rfl,.inr ⟨h0,h1,h2,h3⟩,hB⟩
end Go.Proofs.YtcoeamamaifoeaaGreatDoor
namespace Go.Proofs.YtcoeamamaifoeaaGreatDoor
open Go.ChangeShapes Go.WideShapes Go.ChangeAt Go.RowKit
structure InSeat (w:World) (s:SeatA):Prop where
 slots:∀ x∈s.ss,InSlot w x
 no:InI64 s.no
 lsn:InI64 s.lsn
theorem InSeat.reads {w:World} {s:SeatA} (h:InSeat w s):s.reads w:=fun x hx=>(h.slots x hx).reads
theorem InSeat.short {w:World} {s:SeatA} (h:InSeat w s):s.short 9223372036854775807:=fun x hx=>by
 have h1:=(h.slots x hx).lI
 have h2:=(h.slots x hx).lR
 simp only [maxLen] at h1 h2
 omega
structure InPool (w:World) (l:PoolA):Prop where
 seats:ReadsSts w l.a l.seats
 each:∀ r∈l.seats,InSeat w r
 len:l.seats.length≤maxLen
 num:InI64 l.hand
theorem InPool.short {w:World} {l:PoolA} (h:InPool w l):l.short 9223372036854775807:=⟨by have:=h.len;simp only [maxLen] at this;omega,fun r hr=>(h.each r hr).short⟩
theorem InPool.reads {w:World} {l:PoolA} (h:InPool w l):l.reads w:=h.seats
section
variable {H:Type} {enc:TypeId × Value→H} {w:World} {base:Nat} {spare:Nat→Bool} {held:Bool}
theorem Tryz.cellsSt_:Tryz.prog.cellsOf 128=20:=by kernel_rfl
theorem trod_seat {fuel:Nat} {cs:List Value} {x:DataW H × List MemPlace} (h:DataW.trod enc Tryz.prog w base spare held fuel 128 cs=some x):
  ∃ s:SeatA,cs=s.cells∧InSeat w s:=by
 obtain ⟨xs,n,_,_,hlen,hxl,hf⟩:=DataW.trod_struct Tryz.underlying128 h
 rw [Tryz.cellsSt_] at hlen
 match cs,hlen with
 | [v0,v1,v2,v3,v4,v5,v6,v7,v8,v9,v10,v11,v12,v13,v14,v15,v16,v17,v18,v19],_=>
  have f0:=hf 0 _ rfl
  have f1:=hf 1 _ rfl
  have f2:=hf 2 _ rfl
  have f3:=hf 3 _ rfl
  obtain ⟨y0,hx0⟩:=some_at xs 0 (by rw [hxl];decide)
  rw [hx0] at f0
  obtain ⟨y1,hx1⟩:=some_at xs 1 (by rw [hxl];decide)
  rw [hx1] at f1
  obtain ⟨y2,hx2⟩:=some_at xs 2 (by rw [hxl];decide)
  rw [hx2] at f2
  obtain ⟨y3,hx3⟩:=some_at xs 3 (by rw [hxl];decide)
  rw [hx3] at f3
  simp only [List.getElem_toArray,List.getElem_cons_zero,List.getElem_cons_succ,Tryz.cellsI,Tryz.cellsB,Tryz.cellsPg,List.drop,List.take] at f0 f1 f2 f3
  obtain ⟨n0,e0,w0⟩:=trod_num f0
  obtain ⟨p,e1,h4,w1,hs⟩:=trod_page f1
  obtain ⟨d,e2,_⟩:=DataW.trod_bool Tryz.underlying4 f2
  obtain ⟨t,e3,_⟩:=DataW.trod_bool Tryz.underlying4 f3
  obtain ⟨lsn,ss⟩:=p
  obtain ⟨a,b,c,d',rfl⟩:=four_slots' (ts:=ss) h4
  simp only [List.cons.injEq,and_true] at e0 e2 e3
  subst e0 e2 e3
  refine ⟨⟨n0,lsn,a,b,c,d',d,t⟩,?_,hs,w0,w1⟩
  rw [SeatA.cells_page]
  show _=Value.int .i64 n0::((PageA.cells ⟨lsn,[a,b,c,d']⟩)++[.bool d,.bool t])
  rw [← e1]
  rfl
theorem Tryz.cellsSts_:Tryz.prog.cellsOf 31=1:=by kernel_rfl
theorem Tryz.cellsPl:Tryz.prog.cellsOf 33=2:=by kernel_rfl
theorem trod_seats {fuel:Nat} {cs:List Value} {x:DataW H × List MemPlace} (h:DataW.trod enc Tryz.prog w base spare held fuel 31 cs=some x):
  ∃ (a:Option Addr) (c:Nat) (rs:List SeatA),cs=[.slice a rs.length c]∧ReadsSts w a rs∧(∀ r∈rs,InSeat w r)∧rs.length≤maxLen:=by
 rcases DataW.trod_slice Tryz.underlying31 h with ⟨rfl,_⟩ | ⟨a,len,cap,elems,rest,n,_,rfl,_,_,hl,hm,hlen,hel,_,_⟩
 ·exact ⟨none,0,[],rfl,ReadsSts.nil _ _,fun r hr=>by simp at hr,by simp⟩
 rw [Tryz.cellsSt_] at hel
 have each:∀ i,i<len→∃ t:SeatA,w.cells? base (a.add (i*20)) 20=some t.cells∧InSeat w t:=by
  intro i hi
  have hy:=hel i hi
  rw [List.getElem?_eq_getElem (by omega:i<elems.length),Option.bind_eq_some_iff] at hy
  obtain ⟨cs',hcs,hy'⟩:=hy
  obtain ⟨t,e,ht⟩:=trod_seat hy'
  exact ⟨t,by rw [hcs,e],ht⟩
 obtain ⟨f,hf⟩:∃ f:Nat→SeatA,∀ i,i<len→w.cells? base (a.add (i*20)) 20=some (f i).cells∧InSeat w (f i):=by
  refine ⟨fun i=>if h:i<len then (each i h).choose else zeroSt,fun i hi=>?_⟩
  simp only [dif_pos hi]
  exact (each i hi).choose_spec
 refine ⟨some a,cap,(List.range len).map f,by simp,?_,?_,by simp;omega⟩
 ·intro hne
  have hpos:=List.length_pos_iff.2 hne
  simp only [List.length_map,List.length_range] at hpos ⊢
  obtain ⟨b,off,spot⟩:=a
  have c0:=(World.cells?_some (hf 0 hpos).1).2.2 0 (by decide)
  have hspot:spot=none:=by simpa [Addr.add] using World.cell?_spot c0
  subst hspot
  refine ⟨b,off,rfl,fun k hk=>?_⟩
  have e:((List.range len).map f).getD k zeroSt=f k:=by simp [List.getD,hk]
  rw [e]
  have hc:=(World.cells?_some (hf k hk).1).2.2
  refine ⟨fun j v hv=>?_,(hf k hk).2.reads⟩
  have hj:j<20:=by have:=(List.getElem?_eq_some_iff.1 hv).1;rwa [cellsSt_len] at this
  have d:=hc j (by simpa using hj)
  simp only [Addr_add] at d
  rw [d,hv]
 ·intro r hr
  obtain ⟨k,hk,rfl⟩:=List.mem_map.1 hr
  exact (hf k (List.mem_range.1 hk)).2
theorem trod_pool {fuel:Nat} {cs:List Value} {x:DataW H × List MemPlace} (h:DataW.trod enc Tryz.prog w base spare held fuel 33 cs=some x):
  ∃ l:PoolA,cs=l.cells∧InPool w l:=by
 obtain ⟨xs,n,_,_,hlen,hxl,hf⟩:=DataW.trod_struct Tryz.underlying33 h
 rw [Tryz.cellsPl] at hlen
 match cs,hlen with
 | [v0,v1],_=>
  have f0:=hf 0 _ rfl
  have f1:=hf 1 _ rfl
  obtain ⟨y0,hx0⟩:=some_at xs 0 (by rw [hxl];decide)
  rw [hx0] at f0
  obtain ⟨y1,hx1⟩:=some_at xs 1 (by rw [hxl];decide)
  rw [hx1] at f1
  simp only [List.getElem_toArray,List.getElem_cons_zero,List.getElem_cons_succ,Tryz.cellsI,Tryz.cellsSts_,List.drop,List.take] at f0 f1
  obtain ⟨a,c,rs,e0,h0,h1,h2⟩:=trod_seats f0
  obtain ⟨m,e1,w1⟩:=trod_num f1
  simp only [List.cons.injEq,and_true] at e0 e1
  subst e0 e1
  exact ⟨⟨rs,m,a,c⟩,rfl,h0,h1,h2,w1⟩
end
end Go.Proofs.YtcoeamamaifoeaaGreatDoor
namespace Go.Proofs.YtcoeamamaifoeaaGreatDoor
open Go.RowKit
theorem PoolA.reads.below {w w':World} {l:PoolA} (h:l.reads w) (hb:Below w.heap.size w w'):l.reads w':=ReadsSts.below h hb
theorem PoolA.own.reads {w:World} {lo hi:Nat} {l:PoolA} (h:l.own w lo hi):l.reads w:=OwnSts.reads h
theorem PoolA.own.below {w w':World} {lo hi:Nat} {l:PoolA} (h:l.own w lo hi) (hb:Below w.heap.size w w'):l.own w' lo hi:=OwnSts.below h hb
theorem PoolA.own.within {w w':World} {lo hi a b:Nat} {l:PoolA} (h:l.own w lo hi) (hw:Within a b w w') (hd:hi≤a∨b≤lo):l.own w' lo hi:=OwnSts.within h hw hd
theorem PoolA.own.widen {w:World} {lo hi lo' hi':Nat} {l:PoolA} (h:l.own w lo hi) (h1:lo'≤lo) (h2:hi≤hi') (h3:hi'≤w.heap.size):l.own w lo' hi':=OwnSts.widen h h1 h2 h3
def PoolA.blocks (l:PoolA):List Nat:=blocksSts l.a l.c l.seats
theorem PoolA.own.blocks_lt {w:World} {lo hi:Nat} {l:PoolA} (h:l.own w lo hi):∀ k∈l.blocks,lo≤k∧k<hi:=OwnSts.blocks_lt h
theorem PoolA.own.touch {w w':World} {lo hi:Nat} {l:PoolA} {bl:List Nat} (h:l.own w lo hi) (ht:Touch bl w w') (hd:∀ k∈l.blocks,k∉bl):l.own w' lo hi:=OwnSts.touch h ht hd
theorem onePool (l:PoolA):∀ v∈l.cells,v.oneCell'=true:=by
 intro v hv
 simp only [PoolA.cells,List.mem_cons,List.not_mem_nil,or_false] at hv
 rcases hv with rfl | rfl<;>rfl
theorem pool_one (q:PoolA):q.cells.toArray.all (·.oneCell')=true:=all_oneCell_toArray (onePool q)
theorem pool_info (q:PoolA):(Tryz.prog.info? 51).map (·.size)=some q.cells.length:=by show _=some 2;kernel_rfl
end Go.Proofs.YtcoeamamaifoeaaGreatDoor
namespace Go.Proofs.YtcoeamamaifoeaaGreatDoor
open Go.RowKit
def markSt (s:SeatA) (k:Int):SeatA:=⟨k,k+1,s.s0,s.s1,s.s2,s.s3,((k+1+1) % 3 == 0),((k+1+1+1) % 3 == 0)⟩
def markSts:List SeatA→Int→List SeatA
 | [],_=>[]
 | r::t,k=>markSt r k::markSts t (k+4)
theorem markSt_blocks (r:SeatA) (k:Int):(markSt r k).blocks=r.blocks:=rfl
theorem markSts_len (rs:List SeatA):∀ k,(markSts rs k).length=rs.length:=by
 induction rs with
 | nil=>intro k;rfl
 | cons x r ih=>intro k;simp [markSts,ih]
theorem markSts_app (A B:List SeatA):∀ k,markSts (A++B) k=markSts A k++markSts B (k+4*(A.length:Int)):=by
 induction A with
 | nil=>intro k;simp [markSts]
 | cons x r ih=>
  intro k
  simp only [List.cons_append,markSts,ih,List.length_cons]
  congr 3
  omega
theorem markSts_blocks (rs:List SeatA):∀ k,(markSts rs k).flatMap SeatA.blocks=rs.flatMap SeatA.blocks:=by
 induction rs with
 | nil=>intro k;rfl
 | cons x r ih=>intro k;simp only [markSts,List.flatMap_cons,ih,markSt_blocks]
theorem seats_split (rs:List SeatA) (j:Nat) (h:j<rs.length):rs.drop j=rs.getD j zeroSt::rs.drop (j+1)∧rs.take (j+1)=rs.take j++[rs.getD j zeroSt]:=by
 have e:rs.getD j zeroSt=rs[j]:=by simp [List.getD,h]
 exact ⟨by rw [List.drop_eq_getElem_cons h,e],by rw [List.take_succ_eq_append_getElem h,e]⟩
def halfSts (rs:List SeatA) (k:Int) (j:Nat):List SeatA:=markSts (rs.take j) k++rs.drop j
theorem halfSts_at (rs:List SeatA) (k:Int) (j:Nat) (h:j<rs.length):halfSts rs k j=markSts (rs.take j) k++rs.getD j zeroSt::rs.drop (j+1):=by rw [halfSts,(seats_split rs j h).1]
theorem halfSts_next (rs:List SeatA) (k:Int) (j:Nat) (h:j<rs.length):halfSts rs k (j+1)=markSts (rs.take j) k++markSt (rs.getD j zeroSt) (k+4*(j:Int))::rs.drop (j+1):=by
 rw [halfSts,(seats_split rs j h).2,markSts_app,List.length_take,Nat.min_eq_left (by omega)]
 simp [markSts]
theorem OwnSts.mark4 {w:World} {lo hi g c j:Nat} {A B:List SeatA} {z:SeatA} (h:OwnSts w lo hi (some ⟨g,0,none⟩) c (A++z::B)) (hj:A.length=j) (v0 v1:Int) (d t:Bool):
  ∃ W,Hid ((((w.setCell ⟨g,j*20,none⟩ (.int .i64 v0)).setCell ⟨g,j*20+1,none⟩ (.int .i64 v1)).setCell ⟨g,j*20+18,none⟩ (.bool d)).setCell ⟨g,j*20+19,none⟩ (.bool t)=W)∧OwnSts W lo hi (some ⟨g,0,none⟩) c (A++⟨v0,v1,z.s0,z.s1,z.s2,z.s3,d,t⟩::B)∧Touch [g] w W:=by
 subst hj
 obtain ⟨h0,t0⟩:=h.cellSet (z':=⟨v0,z.lsn,z.s0,z.s1,z.s2,z.s3,z.dirty,z.hot⟩) 0 (.int .i64 v0) (by omega) rfl rfl
 obtain ⟨h1,t1⟩:=h0.cellSet (z':=⟨v0,v1,z.s0,z.s1,z.s2,z.s3,z.dirty,z.hot⟩) 1 (.int .i64 v1) (by omega) rfl rfl
 obtain ⟨h2,t2⟩:=h1.cellSet (z':=⟨v0,v1,z.s0,z.s1,z.s2,z.s3,d,z.hot⟩) 18 (.bool d) (by omega) rfl rfl
 obtain ⟨h3,t3⟩:=h2.cellSet (z':=⟨v0,v1,z.s0,z.s1,z.s2,z.s3,d,t⟩) 19 (.bool t) (by omega) rfl rfl
 exact ⟨_,rfl,h3,((t0.trans t1).trans t2).trans t3⟩
theorem markSeatS_touch (lo hi:Nat) (a:Option Addr) (cap:Nat) (k0:Int) (rs:List SeatA) (w:World) (ho:OwnSts w lo hi a cap rs) (h0:0≤k0) (hk:k0+4*(rs.length:Int)≤1152921504606846976):
  Calls Tryz.prog 74 #[.slice a rs.length cap,.int .i64 k0] w fun e w'=>e=.returned (.int .i64 (k0+4*(rs.length:Int)))∧OwnSts w' lo hi a cap (markSts rs k0)∧Touch (blocksSts a cap rs) w w':=by
 rcases ho.row.2 with ⟨hv,h00⟩ | ⟨g,cap',cur,hv,hg,hgg,hr⟩
 ·simp only [Value.slice.injEq] at hv
  obtain ⟨rfl,_,rfl⟩:=hv
  obtain rfl:=List.length_eq_zero_iff.1 h00
  go_enter Tryz.func74,Tryz.ntmps74
  go_wp2
  refine wp_loop_rounds 1 ?_
  rw [rounds_succ]
  go_wp2
  go_ret
  exact ⟨by simp,ho,Touch.refl _ _⟩
 ·simp only [Value.slice.injEq] at hv
  obtain ⟨rfl,_,rfl⟩:=hv
  have hlm:rs.length≤maxLen:=Nat.le_trans hr.1 hr.2.1
  simp only [maxLen] at hlm
  clear hgg hr
  have HH:Hid (halfSts rs k0 0=rs∧halfSts rs k0 rs.length=markSts rs k0):=⟨by simp [halfSts,markSts],by simp [halfSts]⟩
  have HST:Hid (OwnSts w lo hi (some ⟨g,0,none⟩) cap (halfSts rs k0 0)):=by rw [HH.out.1];exact ho
  have HSUB:Hid (∀ k∈[g],k∈blocksSts (some ⟨g,0,none⟩) cap rs):=fun k hk=>by
   obtain rfl:=List.mem_singleton.1 hk
   exact List.mem_append.2 (.inl (by simp [Value.ownBlock]))
  clear ho
  go_enter Tryz.func74,Tryz.ntmps74
  go_wp2
  go_loopw [1,5] (fun kk i wr=>∃ j:Nat,j≤rs.length∧i=.int .i64 j∧kk=.int .i64 (k0+4*(j:Int))∧Hid (OwnSts wr lo hi (some ⟨g,0,none⟩) cap (halfSts rs k0 j))∧Touch (blocksSts (some ⟨g,0,none⟩) cap rs) w wr)
   (fun _ i _=>rs.length-(intOf i).toNat)
  case atStart=>exact ⟨0,Nat.zero_le _,rfl,by simp,HST,Touch.refl _ _⟩
  case round=>
   obtain ⟨j,hj,rfl,rfl,hown,htw⟩:=hrel
   clear HST
   by_cases hlt:j<rs.length
   ·have ho:=hown.out
    rw [halfSts_at rs k0 j hlt] at ho
    have HN:Hid (halfSts rs k0 (j+1)=_):=halfSts_next rs k0 j hlt
    have hA:(markSts (rs.take j) k0).length=j:=by rw [markSts_len,List.length_take];omega
    have hkb:0≤k0+4*(j:Int)∧k0+4*(j:Int)+4≤1152921504606846976:=⟨by omega,by omega⟩
    have HKN:Hid (k0+4*((j+1:Nat):Int)=k0+4*(j:Int)+1+1+1+1):=by rw [Hid];omega
    have hjl:j<(markSts (rs.take j) k0++rs.getD j zeroSt::rs.drop (j+1)).length:=by simp [hA]
    have hrow:=ho.row
    have hat:=(row_seat ho.row rfl j hjl).1
    have ez:(markSts (rs.take j) k0++rs.getD j zeroSt::rs.drop (j+1)).getD j zeroSt=rs.getD j zeroSt:=by simp [List.getD,hA]
    rw [ez] at hat
    have x0:wr.cell? ⟨g,j*20,none⟩=some (.int .i64 (rs.getD j zeroSt).no):=hat 0 _ rfl
    have x1:wr.cell? ⟨g,j*20+1,none⟩=some (.int .i64 (rs.getD j zeroSt).lsn):=hat 1 _ rfl
    have x18:wr.cell? ⟨g,j*20+18,none⟩=some (.bool (rs.getD j zeroSt).dirty):=hat 18 _ rfl
    have x19:wr.cell? ⟨g,j*20+19,none⟩=some (.bool (rs.getD j zeroSt).hot):=hat 19 _ rfl
    have f0:wr.frozen? ⟨g,j*20,none⟩=false:=hrow.frozenAt _
    have f1:=hrow.frozenAt (j*20+1)
    have f18:=hrow.frozenAt (j*20+18)
    have f19:=hrow.frozenAt (j*20+19)
    obtain ⟨W,hW,oW,tW⟩:=ho.mark4 hA (k0+4*(j:Int)) (k0+4*(j:Int)+1) ((k0+4*(j:Int)+1+1) % 3 == 0) ((k0+4*(j:Int)+1+1+1) % 3 == 0)
    have HFIN:Hid (OwnSts W lo hi (some ⟨g,0,none⟩) cap (halfSts rs k0 (j+1))∧Touch (blocksSts (some ⟨g,0,none⟩) cap rs) w W):=by
     refine ⟨?_,htw.trans (tW.mono HSUB.out)⟩
     rw [HN.out]
     exact oW
    clear ho hown htw oW tW HN hat hrow hjl ez hA hk h0
    generalize (rs.getD j zeroSt).no=z0 at*
    generalize (rs.getD j zeroSt).lsn=z1 at*
    generalize (rs.getD j zeroSt).dirty=z2 at*
    generalize (rs.getD j zeroSt).hot=z3 at*
    generalize k0+4*(j:Int)=kk at*
    go_wp2_with fail
    rw [hW.out]
    go_roundw
    case rel=>exact ⟨j+1,by omega,by go_num,by rw [HKN.out],HFIN.out.1,HFIN.out.2⟩
    case measure=>simp [intOf];omega
   ·have HE:Hid (OwnSts wr lo hi (some ⟨g,0,none⟩) cap (markSts rs k0)∧k0+4*(j:Int)=k0+4*(rs.length:Int)):=by
     have e:j=rs.length:=by omega
     rw [e,HH.out.2] at hown
     exact ⟨hown.out,by rw [e]⟩
    go_wp2
    go_ret
    exact ⟨ret_int HE.out.2,HE.out.1,htw⟩
theorem markSts_at (rs:List SeatA) (k:Int) (j:Nat) (h:j<rs.length):(markSts rs k).getD j zeroSt=markSt (rs.getD j zeroSt) (k+4*(j:Int)):=by
 have e:markSts rs k=markSts (rs.take j) k++markSts (rs.drop j) (k+4*(j:Int)):=by
  have:=markSts_app (rs.take j) (rs.drop j) k
  rw [List.take_append_drop,List.length_take,Nat.min_eq_left (by omega)] at this
  exact this
 have hl:(markSts (rs.take j) k).length=j:=by rw [markSts_len,List.length_take];omega
 rw [e,(seats_split rs j h).1,markSts]
 simp [List.getD,hl]
theorem heldSeatS_any (a:Option Addr) (cap:Nat) (k0:Int) (rs:List SeatA) (w:World) (hr:ReadsSts w a (markSts rs k0)) (h0:0≤k0) (hk:k0+4*(rs.length:Int)≤1152921504606846976) (hlm:rs.length≤9223372036854775807):
  Calls Tryz.prog 77 #[.slice a rs.length cap,.int .i64 k0] w fun e w'=>e=.returned (.int .i64 (k0+4*(rs.length:Int)))∧w'=w:=by
 have hml:=markSts_len rs k0
 rcases hr.cases with h | ⟨b,off,rfl,hpos,hcell⟩
 ·have h':=congrArg List.length h
  rw [hml] at h'
  obtain rfl:=List.length_eq_zero_iff.1 h'
  go_enter Tryz.func77,Tryz.ntmps77
  go_wp2
  refine wp_loop_rounds 1 ?_
  rw [rounds_succ]
  go_wp2
  go_ret
  exact ⟨by simp,rfl⟩
 ·rw [hml] at hpos hcell
  go_enter Tryz.func77,Tryz.ntmps77
  go_wp2
  go_loop [1,5] (fun kk i=>∃ j:Nat,j≤rs.length∧i=.int .i64 j∧kk=.int .i64 (k0+4*(j:Int))) (fun _ i=>rs.length-(intOf i).toNat)
  case atStart=>exact ⟨0,Nat.zero_le _,rfl,by simp⟩
  case round=>
   obtain ⟨j,hj,rfl,rfl⟩:=hrel
   by_cases hlt:j<rs.length
   ·obtain ⟨hc,hrd⟩:=hcell j hlt
    rw [markSts_at rs k0 j hlt] at hc
    have hkb:0≤k0+4*(j:Int)∧k0+4*(j:Int)+4≤1152921504606846976:=⟨by omega,by omega⟩
    have HKN:Hid (k0+4*((j+1:Nat):Int)=k0+4*(j:Int)+1+1+1+1):=by rw [Hid];omega
    clear hk h0 hcell hpos hr hml hrd
    generalize k0+4*(j:Int)=kk at*
    generalize rs.getD j zeroSt=z at*
    have x0:w.cell? ⟨b,off+j*20,none⟩=some (.int .i64 kk):=hc 0 _ rfl
    have x1:w.cell? ⟨b,off+j*20+1,none⟩=some (.int .i64 (kk+1)):=hc 1 _ rfl
    have x2:w.cell? ⟨b,off+j*20+18,none⟩=some (.bool ((kk+1+1) % 3 == 0)):=hc 18 _ rfl
    have x3:w.cell? ⟨b,off+j*20+19,none⟩=some (.bool ((kk+1+1+1) % 3 == 0)):=hc 19 _ rfl
    clear hc
    go_wp2_with fail
    go_round
    case rel=>exact ⟨j+1,by omega,by go_num,by rw [HKN.out]⟩
    case measure=>simp [intOf];omega
   ·have HE:Hid (k0+4*(j:Int)=k0+4*(rs.length:Int)):=by
     have e:j=rs.length:=by omega
     rw [Hid,e]
    go_wp2
    go_ret
    exact ⟨ret_int HE.out,rfl⟩
def PoolA.mark (l:PoolA) (k:Int):PoolA:={ l with seats:=markSts l.seats k }
def PoolA.count (l:PoolA):Nat:=4*l.seats.length
theorem cnt4 (n:Nat):((4*n:Nat):Int)=4*(n:Int):=by omega
theorem markPool_touch (l:PoolA) (lo hi:Nat) (k0:Int) (w:World) (ho:l.own w lo hi) (hl:l.short 1099511627776) (h0:0≤k0) (hk:k0+l.count≤1152921504606846976):
  Calls Tryz.prog 35 #[.agg l.cells.toArray,.int .i64 k0] w fun e w'=>e=.returned (.int .i64 (k0+l.count))∧(l.mark k0).own w' lo hi∧Touch l.blocks w w':=by
 obtain ⟨rs,s,a,c⟩:=l
 simp only [PoolA.cells,PoolA.own,PoolA.count,PoolA.mark,PoolA.blocks,cnt4] at*
 obtain ⟨W,hW,b0,hbW,hsW⟩:=boxes1 w [.slice a rs.length c,.int .i64 s] 51
 have c0:=b0.cell 0 _ rfl
 have C:=markSeatS_touch lo hi a c k0 rs W (ho.below hbW) h0 hk
 clear hsW b0
 go_enter Tryz.func35,Tryz.ntmps35
 go_wp2_with fail
 rw [hW.out]
 clear hW
 refine C.mono ?_
 rintro e w1 ⟨rfl,ho1,ht1⟩
 go_wp2
 go_ret
 exact ⟨rfl,ho1,(Touch.of_below hbW).trans ht1⟩
theorem heldPool_any (l:PoolA) (lo hi:Nat) (k0:Int) (w:World) (ho:(l.mark k0).own w lo hi) (hl:l.seats.length≤1099511627776) (h0:0≤k0) (hk:k0+l.count≤1152921504606846976):
  Calls Tryz.prog 40 #[.agg l.cells.toArray,.int .i64 k0] w fun e w'=>e=.returned (.int .i64 (k0+l.count))∧Below w.heap.size w w':=by
 obtain ⟨rs,s,a,c⟩:=l
 simp only [PoolA.cells,PoolA.own,PoolA.count,PoolA.mark,cnt4] at*
 obtain ⟨W,hW,b0,hbW,hsW⟩:=boxes1 w [.slice a rs.length c,.int .i64 s] 51
 have c0:=b0.cell 0 _ rfl
 have C:=heldSeatS_any a c k0 rs W (ho.below hbW).reads h0 hk (by omega)
 have hnn:¬ (k0+4*(rs.length:Int)<0):=by omega
 clear hsW b0
 go_enter Tryz.func40,Tryz.ntmps40
 go_wp2_with fail
 rw [hW.out]
 clear hW
 refine C.mono ?_
 rintro e w1 ⟨rfl,rfl⟩
 go_wp2
 go_ret
 exact ⟨rfl,hbW⟩
end Go.Proofs.YtcoeamamaifoeaaGreatDoor