/- Several texts in one, in their order. -/
import Derived.Test.YtfehemepdoomdaaGreatDoorPCommitx16
import Derived.Test.YtfehemepdoomdaaGreatDoorPCommitx9
import Derived.Deep.CutRange
import Derived.Deep.RegionLaw
import Derived.Test.YtfehemepdoomdaaGreatDoorPCommitx15
import Derived.Test.YtfehemepdoomdaaGreatDoorPCommitx5
import Derived.Test.YtfehemepdoomdaaGreatDoorPCommitx8
import Derived.Test.YtfehemepdoomdaaGreatDoorPCommitx14
import Derived.Test.YtfehemepdoomdaaGreatDoorPCommitx4
import Derived.Deep.Cut
import Derived.Test.YtfehemepdoomdaaGreatDoorPCommitx10
import Derived.Test.YtfehemepdoomdaaGreatDoorPCommitx11
import Derived.Lib.SliceRun
import Derived.Deep.QuietTactic
import Derived.Test.YtfehemepdoomdaaGreatDoorPCommitx1
set_option maxHeartbeats 8000000
set_option maxRecDepth 100000
namespace Go.Proofs.YtfehemepdoomdaaGreatDoor
open Go.RowKit
def refuseV (e:EngV) (asked:Bool):Int:=if okEng e && (!e.down && asked) then (if 3800<e.log.recs.length then 4 else 0) else 1
theorem refusal_any (e:EngA) (asked:Bool) (se:e.shape) (w:World) (hg:ErrT w) (re:e.reads w) (hl:e.short 1048576):
  Calls Tryz.prog 23 #[.agg e.cells.toArray,.bool asked] w fun r w'=>r=.returned (.int .i64 (refuseV e.v asked))∧Below w.heap.size w w':=by
 have HV:Hid (refuseV e.v asked=if okEng e.v && (!e.down && asked) then (if 3800<e.log.recs.length then 4 else 0) else 1):=by
  rw [Hid]
  unfold refuseV
  rw [show e.v.log.recs.length=e.log.recs.length by simp [EngA.v,LogA.v]]
  rfl
 generalize refuseV e.v asked=RV at*
 have CE:=fun u (hu:ErrT u) (hr:e.reads u)=>implEngineOk_any e se u hu hr hl
 have hrl:e.log.recs.length≤1048576:=hl.log.len
 have HI:=eng_info se
 obtain ⟨W,hW,b0,hbW,hsW⟩:=boxes1 w e.cells 58
 have HB:Hid (∀ u,Below W.heap.size W u→Box u w.heap.size e.cells 58):=fun u hu=>b0.below hu b0.lt
 have HR:Hid (∀ u,Below W.heap.size W u→e.reads u):=fun u hu=>(re.below hbW).below hu
 have HEND:Hid (∀ u,Below W.heap.size W u→Below w.heap.size w u):=fun u hu=>hbW.trans (hu.mono hbW.size)
 have hw0:w.heap.size<W.heap.size:=by omega
 have N:Below W.heap.size W W:=Below.refl _ _
 clear b0 hsW
 have HG:Hid (∀ u,Below W.heap.size W u→ErrT u):=fun u hu=>hg.keep (HEND.out u hu)
 have pe:W.rangeAt w.heap.size 0 e.cells:=Box.range [] e.cells [] (by simpa using HB.out W N)
 clear re hl hg
 have C1:=CE W (HG.out W N) (HR.out W N)
 clear CE
 go_enter Tryz.func23,Tryz.ntmps23
 go_wp2_with (first | (guard_target=wpList _ _ _ (Oper.mk (some 6) _ _ _ _ _::_) _ _;refine wpList_load_mid rfl 58 (.tmp 2) rfl w.heap.size 0 rfl (e.cells) _ (by rw [hW.out];exact pe) Tryz.underlying58 rfl HI ?_) | fail)
 rw [hW.out]
 clear hW pe
 refine C1.mono ?_
 clear C1
 rintro r w1 ⟨rfl,hb⟩
 replace N:=N.trans (hb.mono N.size)
 clear hb
 have p2:=(eng_parts se (HB.out _ N)).2.2.1
 have l0:w1.cell? ⟨w.heap.size,138,none⟩=some (.slice e.log.a e.log.recs.length e.log.c):=p2 0 _ rfl
 have p6:=(eng_parts se (HB.out _ N)).2.2.2.2.2.2
 have HE:Hid (Below w.heap.size w w1):=HEND.out _ N
 obtain ⟨vO,hO⟩:∃ b,Hid (okEng e.v=b):=⟨_,rfl⟩
 obtain ⟨vD,hD⟩:∃ b,Hid (e.down=b):=⟨_,rfl⟩
 rw [hO.out,hD.out] at HV
 rw [hD.out] at p6
 rw [hO.out]
 clear p2 hO hD
 cases vO with
 | false=>
  have HF:Hid (RV=1):=HV.out.trans rfl
  go_wp2
  go_ret
  exact ⟨ret_int HF.out.symm,HE.out⟩
 | true=>
  cases vD with
  | true=>
   have HF:Hid (RV=1):=HV.out.trans rfl
   go_wp2
   go_ret
   exact ⟨ret_int HF.out.symm,HE.out⟩
  | false=>
   cases asked with
   | false=>
    have HF:Hid (RV=1):=HV.out.trans rfl
    go_wp2
    go_ret
    exact ⟨ret_int HF.out.symm,HE.out⟩
   | true=>
    by_cases hx:3800<e.log.recs.length
    ·have hxi:(3800:Int)<(e.log.recs.length:Int):=by omega
     have HF:Hid (RV=4):=HV.out.trans (if_pos hx)
     clear hx
     go_wp2
     go_ret
     exact ⟨ret_int HF.out.symm,HE.out⟩
    ·have hxi:¬ (3800:Int)<(e.log.recs.length:Int):=by omega
     have HF:Hid (RV=0):=HV.out.trans (if_neg hx)
     clear hx
     go_wp2
     go_ret
     exact ⟨ret_int HF.out.symm,HE.out⟩
theorem Within.touch1 {B:Nat} {w w':World} (h:Within B (B+1) w w'):Touch [B] w w':=⟨h.os,h.tape,h.output,h.size,fun k hk hn=>h.block k hk (fun hh=>hn (List.mem_singleton.2 (by omega)))⟩
def RecA.at (r:RecA) (n:Int):RecA:={ r with lsn:=n }
theorem at_v (r:RecA) (n:Int):(r.at n).v=lsnR r.v n:=rfl
theorem short_at {r:RecA} {m:Nat} (h:r.short m) (n:Int):(r.at n).short m:=⟨h.bf,h.af,h.txs⟩
theorem rec_set {w:World} {B:Nat} {q:RecA} (b:Box w B q.cells 99) (n:Int):∃ W,Hid (w.setCell ⟨B,0,none⟩ (.int .i64 n)=W)∧Box W B (q.at n).cells 99∧Within B (B+1) w W∧W.heap.size=w.heap.size:=by
 obtain ⟨W,hW,bW,hw,hs⟩:=box_set b 0 (.int .i64 n)
 exact ⟨W,hW,bW,hw,hs⟩
theorem okEng_holds {e:EngV} (h:okEng e=true):ClaimsOk (claimsTo e.holds e.holds.length) e.holds:=by
 have h1:holdsB e=true:=by
  unfold okEng okTxs at h
  simp only [Bool.and_eq_true] at h
  exact h.2.2.2.1.2.1
 have hat:∀ i,i<e.holds.length→holdAt e i=true:=fun i hi=>List.all_eq_true.1 h1 i (List.mem_range.2 hi)
 refine claimsTo_ok (fun i hi j hj=>?_) (fun x hx=>?_)
 ·have:=hat i hi
  unfold holdAt freshH at this
  simp only [Bool.and_eq_true] at this
  have:=List.all_eq_true.1 this.2.2 j (List.mem_range.2 hj)
  simpa using this
 ·obtain ⟨i,hi,rfl⟩:=List.mem_iff_getElem.1 hx
  have:=hat i hi
  unfold holdAt at this
  simp only [Bool.and_eq_true] at this
  have h2:=this.1
  have e1:e.holds.getD i zeroH=e.holds[i]:=by simp [List.getD,hi]
  rw [e1] at h2
  simpa [inB] using h2
theorem okEng_next1 {e:EngV} (h:okEng e=true):1≤e.next∧e.next≤1001:=by
 unfold okEng at h
 simp only [Bool.and_eq_true] at h
 simpa [inB] using h.2.2.1
theorem refuse_ok {e:EngV} (h:refuseV e true=0):okEng e=true:=by
 unfold refuseV at h
 cases ho:okEng e with
 | true=>rfl
 | false=>rw [ho] at h;simp at h
def AddAnsR (B o:Nat) (cs:List Value) (T:TypeId) (a:Option Addr) (c:Nat) (rs:List RecA) (lo:Nat) (r:RecV) (w:World) (e:Ending) (w':World):Prop:=
 (e=.returned (.int .i64 0)∧(rs.length=4000∨okR (lsnR r ((rs.length:Int)+1))=false)∧Below w.heap.size w w')∨
 ∃ (x:RecA) (a':Option Addr) (c':Nat),e=.returned (.int .i64 ((rs.length:Int)+1))∧rs.length≠4000∧okR (lsnR r ((rs.length:Int)+1))=true∧x.v=lsnR r ((rs.length:Int)+1)∧
  Box w' B (cs.set o (.slice a' (rs.length+1) c')) T∧OwnRs w' lo w'.heap.size a' c' (rs++[x])∧Touch (B::blocksRs a c rs) w w'∧(∀ k∈blocksRs a' c' (rs++[x]),k∈blocksRs a c rs∨w.heap.size≤k)
theorem logAddR_any (B o:Nat) (cs:List Value) (T:TypeId) (a:Option Addr) (c:Nat) (rs:List RecA) (lo hi:Nat) (r:RecA) (w:World) (hg:ErrT w) (b:Box w B cs T) (h0:cs[o]? =some (.slice a rs.length c)) (own:OwnRs w lo hi a c rs)
  (hlo:lo≤hi) (hT:∀ (u:World) (vs:List Value) (l k:Nat) (a:Option Addr) (c:Nat) (xs:List RecA),Box u B vs T→OwnRs u l k a c xs→B∉blocksRs a c xs)
  (hll:rs.length≤1048576) (hrr:r.reads w) (hrs:r.short 1099511627776) (hrc:r.aL=none→r.cL=0):
  Calls Tryz.prog 99 #[.pointer (some ⟨B,o,none⟩),.agg r.cells.toArray] w fun e w'=>AddAnsR B o cs T a c rs lo r.v w e w':=by
 have hBw:=b.lt
 have htop:=own.top
 obtain ⟨W,hW,b1,hbW,hsW⟩:=boxes1 w r.cells 99
 have HI:Hid ((Tryz.prog.info? 99).map (·.size)=some 15):=by rw [Hid];kernel_rfl
 have HTT:Hid (∀ (u:World) (vs:List Value) (l k:Nat) (a:Option Addr) (c:Nat) (xs:List RecA),Box u B vs T→OwnRs u l k a c xs→B∉blocksRs a c xs):=hT
 have HO:Hid (cs[o]? =some (.slice a rs.length c)):=h0
 have bB:=b.below hbW b.lt
 have ow:=own.below hbW
 have c0:=bB.cell o _ h0
 have hsw:=hbW.size
 have hs0:w.heap.size<W.heap.size:=by omega
 have zf:=b1.frozen 0
 have zc:=b1.cell 0 _ rfl
 obtain ⟨W4,hW4,yB,hw4,hs4⟩:=rec_set b1 ((rs.length:Int)+1)
 have hs4a:=Nat.le_of_eq hs4
 have hs4b:=Nat.le_of_eq hs4.symm
 clear hs4 b1 h0 hT b own hsW
 have bB4:=bB.within hw4 (by omega)
 have ow4:=ow.within hw4 (.inl (by omega))
 have D4:Below w.heap.size w W4:=hbW.trans (hw4.below (Nat.le_refl _) (by omega))
 have HYV:Hid ((r.at ((rs.length:Int)+1)).v=lsnR r.v ((rs.length:Int)+1)):=at_v _ _
 have HYS:Hid ((r.at ((rs.length:Int)+1)).short 1099511627776):=short_at hrs _
 have HY0:Hid ((r.at ((rs.length:Int)+1)).lsn=(rs.length:Int)+1):=rfl
 have HYR:Hid (∀ u,Below w.heap.size w u→(r.at ((rs.length:Int)+1)).reads u):=fun u hu=>⟨(hrr.below hu).bf,(hrr.below hu).af,(hrr.below hu).txs⟩
 have HYC:Hid ((r.at ((rs.length:Int)+1)).aL=none→(r.at ((rs.length:Int)+1)).cL=0):=hrc
 have C4:=lsnAt_any (rs.length:Int) W (by omega)
 clear hw4 hrr hrs hrc bB ow
 go_enter Tryz.func99,Tryz.ntmps99
 go_upto_region 1 with fail
 rw [hW.out]
 clear hW
 go_wp2_with fail
 refine C4.mono ?_
 clear C4
 rintro e w3' ⟨rfl,h3'⟩
 subst h3'
 go_upto_region 2 with fail
 rw [hW4.out]
 clear hW4 zc zf c0
 generalize r.at ((rs.length:Int)+1)=y at*
 have HRY:Hid (∀ u,Below W4.heap.size W4 u→u.rangeAt w.heap.size 0 y.cells):=fun u hu=>Box.range [] y.cells [] (by simpa using yB.below hu yB.lt)
 have C5:=implRecOk_any y W4 (hg.keep D4) (HYR.out W4 D4) HYS.out
 have c4:=bB4.cell o _ HO.out
 by_cases h4:rs.length=4000
 ·have h4b:((rs.length:Int) == 4000)=true:=by simp only [beq_iff_eq];omega
  have HF:Hid (AddAnsR B o cs T a c rs lo r.v w (.returned (.int .i64 0)) W4):=.inl ⟨rfl,.inl h4,D4⟩
  clear h4 C5
  go_wp2
  go_ret
  exact HF.out
 ·have h4b:((rs.length:Int) == 4000)=false:=by simp only [beq_eq_false_iff_ne];omega
  have ry:=HRY.out W4 (Below.refl _ _)
  go_wp2_with (first | (guard_target=wpList _ _ _ (Oper.mk (some 19) _ _ _ _ _::_) _ _;refine wpList_load_mid_if (by rfl) 99 (.tmp 3) rfl w.heap.size 0 rfl y.cells _ ry Tryz.underlying99 rfl HI.out ?_) | fail)
  refine C5.mono ?_
  clear C5 c4 ry
  rintro e w6 ⟨rfl,B6⟩
  have hs6:=B6.size
  have bB6:=bB4.below B6 bB4.lt
  have ow6:=ow4.below B6
  have D6:Below w.heap.size w w6:=D4.trans (B6.mono D4.size)
  clear bB4 ow4
  obtain ⟨vR,hR⟩:∃ v,Hid (okR y.v=v):=⟨_,rfl⟩
  rw [hR.out]
  cases vR with
  | false=>
   have HF:Hid (AddAnsR B o cs T a c rs lo r.v w (.returned (.int .i64 0)) w6):=.inl ⟨rfl,.inr (by rw [← HYV.out];exact hR.out),D6⟩
   clear h4
   go_wp2
   go_ret
   exact HF.out
  | true=>
   have hnd:Below w6.heap.size w6 w6.drew:=(Below.refl _ _).drew
   have C:=copyRec_own y w6.drew (HYR.out _ D6.drew) HYS.out HYC.out
   have bBd:=bB6.below hnd bB6.lt
   have owd:=ow6.below hnd
   have Bd:=B6.drew
   have HKK:Hid (rs.length≠4000∧okR (lsnR r.v ((rs.length:Int)+1))=true):=⟨h4,by rw [← HYV.out];exact hR.out⟩
   have zd:w6.heap.size≤w6.drew.heap.size:=hnd.size
   clear h4 h4b hR bB6 ow6
   go_upto_region 4 with fail
   refine wp_region_late (· == 11) (S:=fun u=>u.cell? ⟨B,o,none⟩=some (.slice a rs.length c)∧u.rangeAt w.heap.size 0 y.cells) (by kernel_rfl) ⟨bBd.cell o _ HO.out,HRY.out _ Bd⟩ (fun hHeld=>?_)
   have D7:Below w.heap.size w w6.drew:=D6.drew
   generalize w6.drew=d0 at*
   clear hnd B6 D6
   refine wpAnyL_take (i:=0) (v:=.pointer (some ⟨B,o,none⟩)) rfl (by kernel_rfl) (fun _ _ _ h=>h) (Or.inl ⟨by rfl,?_⟩) hHeld ?_
   ·intro w' hSw
    go_simp<;>rfl
   try simp only [zz]
   refine wpAnyL_take (i:=1) (v:=.pointer (some ⟨B,o,none⟩)) rfl (by kernel_rfl) (fun _ _ _ h=>h) (Or.inl ⟨by rfl,?_⟩) hHeld ?_
   ·intro w' hSw
    go_simp<;>rfl
   try simp only [zz]
   refine wpAnyL_take (i:=2) (v:=.pointer (some ⟨B,o,none⟩)) rfl (by kernel_rfl) (fun _ _ _ h=>h) (Or.inl ⟨by rfl,?_⟩) hHeld ?_
   ·intro w' hSw
    go_simp<;>rfl
   try simp only [zz]
   refine wpAnyL_take (i:=3) (v:=.pointer (some ⟨B,o,none⟩)) rfl (by kernel_rfl) (fun _ _ _ h=>h) (Or.inl ⟨by rfl,?_⟩) hHeld ?_
   ·intro w' hSw
    go_simp<;>rfl
   try simp only [zz]
   refine wpAnyL_take (i:=4) (v:=.slice a rs.length c) rfl (by kernel_rfl) (fun _ _ _ h=>h) (Or.inl ⟨by rfl,?_⟩) hHeld ?_
   ·intro w' hSw
    have hx:=hSw.1
    go_simp<;>rfl
   try simp only [zz]
   refine wpAnyL_take (i:=5) rfl (by kernel_rfl) (fun _ _ _ h=>h) (yieldsIf_load_mid (by rfl) _ _ rfl _ _ rfl (y.cells) _ (fun _ h=>h.2) Tryz.underlying99 rfl HI.out) hHeld ?_
   try simp only [zz]
   refine wpAnyL_next 6 (by kernel_rfl) rfl (fun K hK=>?_)
   go_simp
   refine C.mono ?_
   clear C
   rintro e d1 ⟨x,rfl,hx,oxx,hbx⟩
   have hsx:=hbx.size
   have B7:Below W4.heap.size W4 d1:=Bd.trans (hbx.mono Bd.size)
   have D8:Below w.heap.size w d1:=D7.trans (hbx.mono D7.size)
   have bB7:=bBd.below hbx bBd.lt
   have ow7:=owd.below hbx
   have HXV:Hid (x.v=lsnR r.v ((rs.length:Int)+1)):=hx.out.trans HYV.out
   clear hx bBd owd
   refine hK.out _ _ (⟨bB7.cell o _ HO.out,HRY.out _ B7⟩) (fun hHeld=>?_)
   clear hK K hbx
   try simp only [zz]
   refine wpAnyL_next 7 (by kernel_rfl) rfl (fun K hK=>?_)
   go_simp
   simp only [cellsR_len,lit_rec,not_true_eq_false,Nat.lt_irrefl,or_self,if_false]
   go_simp
   obtain ⟨W9,hW9,y9,hb9,hs9⟩:=boxes1 d1 x.cells 99
   rw [hW9.out]
   have hlt9:=y9.lt
   have hs9':=hb9.size
   clear hs9
   have R9:Hid (W9.rangeAt d1.heap.size 0 x.cells):=Box.range [] x.cells [] (by simpa using y9)
   have B9:Below W4.heap.size W4 W9:=B7.trans (hb9.mono B7.size)
   have D9:Below w.heap.size w W9:=D8.trans (hb9.mono D8.size)
   have bB9:=bB7.below hb9 bB7.lt
   have ow9:=ow7.below hb9
   have ox9:=oxx.below hb9
   clear bB7 ow7 oxx y9
   refine hK.out _ _ (⟨bB9.cell o _ HO.out,HRY.out _ B9⟩) (fun hHeld=>?_)
   clear hK K hW9 hb9
   try simp only [zz]
   have hll9:rs.length+1≤68719476736:=by omega
   refine wpAnyL_next 8 (by kernel_rfl) rfl (fun K hK=>?_)
   refine step_append_recD rfl (.tmp 27) (.tmp 30) rfl lo hi a c rs rfl ow9 d1.heap.size 0 1 x rfl R9.out d0.heap.size d1.heap.size ox9 (by omega) (fun k hk hk'=>by have:=(ox9.blocks_lt k hk).1;have:=(OwnRs.blocks_lt ow9 k hk').2;omega) (by omega) hll9 hlo ?_
   intro a10 c10 w10 o10 g10 k10
   rw [List.length_append,List.length_singleton]
   have hw10:Within lo hi W9 w10:=Within.of_grown g10 (fun j hj=>⟨(OwnRs.row ow9).lt j hj |>.1,OwnRs.blk ow9 j hj⟩)
   have hs10:=hw10.size
   have hB9:=HTT.out _ _ _ _ _ _ _ bB9 ow9
   have t10:Touch (blocksRs a c rs) W9 w10:=Touch.of_grown g10 (fun j hj=>List.mem_append.2 (.inl (Option.mem_toList.2 hj)))
   have bBa:=bB9.touch t10 hB9
   have hf10:∀ k∈blocksRs a10 c10 (rs++[x]),k∈blocksRs a c rs∨w.heap.size≤k:=fun k hk=>by
    have:=D9.size
    rcases List.mem_append.1 hk with h | h
    ·rcases k10 k (Option.mem_toList.1 h) with q | q
     ·exact .inl (List.mem_append.2 (.inl (Option.mem_toList.2 q)))
     ·exact .inr (by omega)
    ·rw [List.flatMap_append] at h
     rcases List.mem_append.1 h with q | q
     ·exact .inl (List.mem_append.2 (.inr q))
     ·simp only [List.flatMap_cons,List.flatMap_nil,List.append_nil] at q
      have:=(ox9.blocks_lt k q).1
      have:=D7.size
      exact .inr (by omega)
   have hR10:w10.rangeAt w.heap.size 0 y.cells:=rangeAt_block (HRY.out _ B9) (hw10.block w.heap.size (by omega) (by omega))
   refine hK.out _ _ (⟨bBa.cell o _ HO.out,hR10⟩) (fun hHeld=>?_)
   clear hK K 
   try simp only [zz]
   refine wpAnyL_next 9 (by kernel_rfl) rfl (fun K hK=>?_)
   go_simp
   refine hK.out _ _ (hHeld) (fun hHeld=>?_)
   clear hK K 
   try simp only [zz]
   refine wpAnyL_take (i:=10) (v:=.pointer (some ⟨B,o,none⟩)) rfl (by kernel_rfl) (fun _ _ _ h=>h) (Or.inl ⟨by rfl,?_⟩) hHeld ?_
   ·intro w' hSw
    go_simp<;>rfl
   try simp only [zz]
   have ef0:=bBa.frozen o
   have e0:=bBa.cell o _ HO.out
   obtain ⟨W11,hW11,bBb,hw11,hs11⟩:=box_set bBa o (.slice a10 (rs.length+1) c10)
   have hs11a:=Nat.le_of_eq hs11
   have hs11b:=Nat.le_of_eq hs11.symm
   clear hs11
   have hR11:W11.rangeAt w.heap.size 0 y.cells:=rangeAt_block hR10 (hw11.block w.heap.size (by omega) (by omega))
   have y0:=hR11 0 _ rfl
   have oRow:=o10.touch hw11.touch1 (fun k hk hk'=>HTT.out _ _ _ _ _ _ _ bBa o10 (by rw [← List.mem_singleton.1 hk'];exact hk))
   have HF:Hid (AddAnsR B o cs T a c rs lo r.v w (.returned (.int .i64 y.lsn)) W11):=.inr ⟨x,a10,c10,by rw [HY0.out],HKK.out.1,HKK.out.2,HXV.out,bBb,oRow.widen (Nat.le_refl _) hs11b (Nat.le_refl _),((Touch.of_below D9).trans (t10.mono (fun k hk=>List.mem_cons_of_mem _ hk))).trans (hw11.touch1.mono (fun k hk=>by rw [List.mem_singleton.1 hk];exact List.mem_cons_self)),hf10⟩
   refine wpAnyL_last 11 (by kernel_rfl) rfl rfl (fun K hK=>?_)
   go_simp
   rw [hW11.out]
   refine hK.out _ _ ?_
   clear hK K
   refine wpAnyL_done (by kernel_rfl) ?_ _
   clear hW11 ef0 e0 hHeld bBb hw11 oRow t10 hf10 hB9 k10
   go_wp2
   go_ret
   exact HF.out
abbrev TRun:TypeId:=120
def EngA.run (M:Nat) (n:Int) (e:EngA):List Value:=runCells e.cells M n
abbrev RunAt (M:Nat) (n:Int):=EngAtG (EngA.run M n) TRun
abbrev RunStep (M:Nat) (n:Int):=EngStepG (EngA.run M n) TRun
def EngA.runTail (e:EngA) (M:Nat) (n:Int):List Value:=[.slice e.aS e.seats.length e.cS,.int .i64 e.hand,.slice e.log.a e.log.recs.length e.log.c,.int .i64 e.log.sure,.slice e.aT e.txs.length e.cT,.slice e.aH e.holds.length e.cH,.int .i64 e.next,.bool e.down,.map (some M),.int .i64 n]
theorem run_tail (e:EngA) (M:Nat) (n:Int):e.run M n=cellsPs e.disk++e.runTail M n:=by
 unfold EngA.run runCells EngA.cells
 rw [List.append_assoc]
 rfl
theorem run_at {e:EngA} (se:e.shape) (M:Nat) (n:Int) (j:Nat):(e.run M n)[136+j]? =(e.runTail M n)[j]? :=by
 rw [run_tail,List.getElem?_append_right (by rw [EngA.disk_len se];omega),EngA.disk_len se,show 136+j-136=j by omega]
theorem run_set {e:EngA} (se:e.shape) (M:Nat) (n:Int) (j:Nat) (v:Value):(e.run M n).set (136+j) v=cellsPs e.disk++(e.runTail M n).set j v:=by
 rw [run_tail,List.set_append_right _ _ (by rw [EngA.disk_len se];omega),EngA.disk_len se,show 136+j-136=j by omega]
theorem EngAtG.cellR {M:Nat} {n:Int} {w:World} {R:Nat} {e:EngA} (h:RunAt M n w R e) (j:Nat) (v:Value) (hv:(e.runTail M n)[j]? =some v):w.cell? ⟨R,136+j,none⟩=some v:=h.box.cell (136+j) v (by rw [run_at h.shape];exact hv)
theorem run_apart {w:World} {B lo hi:Nat} {vs:List Value} {a:Option Addr} {c:Nat} {rs:List RecA} (b:Box w B vs TRun) (h:OwnRs w lo hi a c rs):B∉blocksRs a c rs:=by
 intro hm
 have hb:w.heap[B]? =some (.cells vs.toArray 120 (0,0)):=b
 have no:∀ {b2 s2 n2:Nat} {e2:TypeId} {v2:Value} {x2:List Value},w.ownsRow b2 e2 s2 v2 n2 x2→v2.ownBlock=some B→e2=120:=by
  intro b2 s2 n2 e2 v2 x2 h2 hk2
  obtain ⟨cur2,hc2⟩:=ownsRow_at h2 hk2
  rw [hb] at hc2
  simp only [Option.some.injEq,Obj.cells.injEq] at hc2
  exact hc2.2.1.symm
 simp only [blocksRs,List.mem_append,List.mem_flatMap,Option.mem_toList] at hm
 rcases hm with h1 | ⟨r,hr,h1⟩
 ·have:=no h.row h1;cases this
 ·have hr':=h.each r hr
  simp only [RecA.blocks,SlotA.blocks,List.mem_append,Option.mem_toList] at h1
  rcases h1 with (h1 | h1) | (h1 | h1) | h1
  ·have:=no hr'.bf.ints.1 h1;cases this
  ·have:=no hr'.bf.refs.1 h1;cases this
  ·have:=no hr'.af.ints.1 h1;cases this
  ·have:=no hr'.af.refs.1 h1;cases this
  ·have:=no hr'.txs.1 h1;cases this
def addV (e:EngV) (r:RecV):EngV:={ e with log:=⟨e.log.recs++[lsnR r ((e.log.recs.length:Int)+1)],e.log.sure⟩ }
theorem runForce_any (M:Nat) (n:Int) (R:Nat) (e:EngA) (x:Int) (w:World) (h:RunAt M n w R e) (hs:e.log.sure≤e.log.recs.length):
  Calls Tryz.prog 64 #[.pointer (some ⟨R,138,none⟩),.int .i64 x] w fun r w'=>(∃ v,r=.returned v)∧RunStep M n R e w (e.withLog (e.log.upTo x)) w'∧Touch [R] w w':=by
 have h0:(e.run M n)[138]? =some (.slice e.log.a e.log.recs.length e.log.c):=(run_at h.shape M n 2).trans rfl
 have h1:(e.run M n)[138+1]? =some (.int .i64 e.log.sure):=(run_at h.shape M n 3).trans rfl
 refine (logForce_any R 138 (e.run M n) TRun e.log.a e.log.c e.log.recs.length e.log.sure x w h.box h0 h1).mono ?_
 rintro r w' ⟨hr,bx,hw,hz⟩
 have hm:min (max e.log.sure x) (e.log.recs.length:Int)=max e.log.sure (min x e.log.recs.length):=by omega
 rw [hm] at bx
 have ht:Touch [R] w w':=hw.touch1
 have hR:∀ k∈blocksRs e.log.a e.log.c e.log.recs,k∉[R]:=fun k hk hm=>h.off (by rw [← List.mem_singleton.1 hm];exact EngA.mem_log hk)
 refine ⟨hr,h.logs (e.log.upTo x) ?_ ((h.own.log.touch ht hR).widen (Nat.le_refl _) (by omega) (Nat.le_refl _)) (ht.mono (fun k hk=>by rw [List.mem_singleton.1 hk];exact List.mem_cons_self)) (fun k hk=>.inl hk),ht⟩
 have e1:=run_set h.shape M n 3 (.int .i64 (max e.log.sure (min x e.log.recs.length)))
 rw [show 136+3=138+1 from rfl] at e1
 rw [e1] at bx
 have e2:(e.withLog (e.log.upTo x)).run M n=cellsPs e.disk++(e.runTail M n).set 3 (.int .i64 (max e.log.sure (min x e.log.recs.length))):=by
  rw [run_tail]
  rfl
 rw [e2]
 exact bx
theorem SlotA.raise {w:World} {lo lo' hi:Nat} {s:SlotA} (h:s.own w lo hi) (hb:∀ k∈s.blocks,lo'≤k):s.own w lo' hi:=
 ⟨⟨ownsRow_base h.ints.1 (fun k hk=>hb k (List.mem_append.2 (.inl (Option.mem_toList.2 hk)))),h.ints.2⟩,⟨ownsRow_base h.refs.1 (fun k hk=>hb k (List.mem_append.2 (.inr (Option.mem_toList.2 hk)))),h.refs.2⟩,h.apart⟩
theorem EngA.own.raise {w:World} {lo hi:Nat} {e:EngA} (h:e.own w 0 hi) (hb:∀ k∈e.blocks,lo≤k):e.own w lo hi:=by
 refine ⟨⟨fun s hs=>?_,h.disk.apart⟩,⟨ownsRow_base h.pool.row (fun k hk=>hb k (EngA.mem_pool (List.mem_append.2 (.inl (Option.mem_toList.2 hk))))),h.pool.top,h.pool.blk,fun s hs=>?_,h.pool.apart⟩,⟨ownsRow_base h.log.row (fun k hk=>hb k (EngA.mem_log (List.mem_append.2 (.inl (Option.mem_toList.2 hk))))),h.log.top,h.log.blk,fun r hr=>?_,h.log.apart⟩,
  ⟨ownsRow_base h.txs.1 (fun k hk=>hb k (EngA.mem_txs (Option.mem_toList.2 hk))),h.txs.2⟩,⟨ownsRow_base h.holds.1 (fun k hk=>hb k (EngA.mem_holds (Option.mem_toList.2 hk))),h.holds.2⟩,h.apart⟩
 ·exact SlotA.raise (h.disk.each s hs) (fun k hk=>hb k (EngA.mem_disk (List.mem_flatMap.2 ⟨s,hs,hk⟩)))
 ·have hS:OwnS w 0 hi s.ss:=h.pool.each s hs
  exact ⟨fun x hx=>SlotA.raise (hS.each x hx) (fun k hk=>hb k (EngA.mem_pool (List.mem_append.2 (.inr (List.mem_flatMap.2 ⟨s,hs,List.mem_flatMap.2 ⟨x,hx,hk⟩⟩))))),hS.apart⟩
 ·have hr1:=h.log.each r hr
  have hk:∀ k∈r.blocks,lo≤k:=fun k hk=>hb k (EngA.mem_log (List.mem_append.2 (.inr (List.mem_flatMap.2 ⟨r,hr,hk⟩))))
  exact ⟨SlotA.raise hr1.bf (fun k h1=>hk k (List.mem_append.2 (.inl h1))),SlotA.raise hr1.af (fun k h1=>hk k (List.mem_append.2 (.inr (List.mem_append.2 (.inl h1))))),⟨ownsRow_base hr1.txs.1 (fun k h1=>hk k (List.mem_append.2 (.inr (List.mem_append.2 (.inr (Option.mem_toList.2 h1)))))),hr1.txs.2⟩,hr1.apart⟩
theorem results_cell_one {P:Program} {fn:Func} {s t:Nat} {ty:TypeId} {tmps:Array Value} {w:World} {v b:Value} {ad:Addr} (hf:fn.results=#[.cell s ty,.tmp t]) (ht:tmps[s]?.getD undef=.pointer (some ad)) (hl:(loadVar ty ad).run P w=.ok v w) (hb:tmps[t]?.getD undef=b):(results fn tmps).run P w=.ok (.tuple #[v,b]) w:=by
 unfold results
 rw [hf]
 simp [ht,asAddr,hl,hb]
def EngOne (x:EngV × Int) (w:World) (r:Ending) (w':World):Prop:=∃ t:EngA,r=.returned (.tuple #[.agg t.cells.toArray,.int .i64 x.2])∧t.shape∧Hid (t.v=x.1)∧t.own w' w.heap.size w'.heap.size∧Below w.heap.size w w'
theorem runAt_of {w:World} {lo M R:Nat} {n:Int} {t:EngA} (st:t.shape) (ot:t.own w lo M) (hMR:M<R) (bR:Box w R (runCells t.cells M n) 120):RunAt M n w R t:=by
 have hl:=bR.lt
 exact ⟨bR,st,ot.widen (Nat.zero_le _) (by omega) (Nat.le_refl _),fun hk=>by have:=(ot.blocks_lt R hk).2;omega⟩
theorem restStep_any (W d1 d2 d3:World) (M R:Nat) (hs:List HoldV) (t s:EngA) (ot:t.own d2 d1.heap.size M) (hMR:M<R) (hM:d1.heap.size≤M) (hm:MapAt d2 M (claimsTo hs hs.length)) (st:RunStep M (hs.length:Int) R t d2 s d3)
  (hco:ClaimsOk (claimsTo hs hs.length) hs) (hlen:hs.length≤1048576) (N2:Below W.heap.size W d2) (hW:W.heap.size≤d1.heap.size) (h12:d1.heap.size≤d2.heap.size):
  Calls Tryz.prog 27 #[.pointer (some ⟨R,0,none⟩)] d3 fun r w'=>∃ D:EngA,r=.returned (.agg D.cells.toArray)∧D.shape∧Hid (D.v={ s.v with holds:=hs })∧D.own w' W.heap.size w'.heap.size∧Below W.heap.size W w':=by
 have z3:=st.size
 have hb:=ot.blocks_lt
 have oS:s.own d3 d1.heap.size d3.heap.size:=EngA.own.raise st.at'.own (fun k hk=>(st.fresh k hk).elim (fun q=>(hb k q).1) (fun q=>by omega))
 have mS:MapAt d3 M (claimsTo hs hs.length):=hm.touch st.touch (fun hk=>by
  rcases List.mem_cons.1 hk with q | q
  ·omega
  ·have:=(hb M q).2;omega)
 have N3:Below W.heap.size W d3:=N2.trans ⟨st.touch.os,st.touch.tape,st.touch.output,st.touch.size,fun k hk=>st.touch.block k (by have:=N2.size;omega) (fun hq=>by
  rcases List.mem_cons.1 hq with q | q
  ·omega
  ·have:=(hb k q).1;omega)⟩
 have HPL:∀ k,0≤(atC k (claimsTo hs hs.length)).place∧(atC k (claimsTo hs hs.length)).place≤1099511627776:=fun k=>by have:=claims_place hs k hs.length;omega
 refine (rest_any R M s st.at'.shape _ _ d3 d1.heap.size d3.heap.size st.at'.box mS HPL oS st.at'.off (by omega) (Nat.le_refl _)).mono ?_
 rintro r w' ⟨xs,a,c,rfl,HP,oD,tD⟩
 have hhs:xs=hs:=hco.sorted HP.out.1 HP.out.2
 subst hhs
 refine ⟨_,rfl,⟨st.at'.shape.eight,st.at'.shape.four⟩,rfl,oD.widen (by omega) (Nat.le_refl _) (Nat.le_refl _),?_⟩
 exact N3.trans ⟨tD.os,tD.tape,tD.output,tD.size,fun k hk=>tD.block k (by have:=N3.size;omega) (fun hq=>by have:=List.mem_singleton.1 hq;omega)⟩
end Go.Proofs.YtfehemepdoomdaaGreatDoor
namespace Go.Proofs.YtfehemepdoomdaaGreatDoor
theorem ClaimsOk.ended {ms:List ClaimV} {hs:List HoldV} (h:ClaimsOk ms hs) (hn:KeysNd ms) (tx:Int):ClaimsOk (delTo tx ms 31) (hs.filter (fun l=>l.tx != tx)):=by
 have hg:∀ x∈hs.filter (fun l=>l.tx != tx),x∈hs∧getC x.oid (delTo tx ms 31)=getC x.oid ms:=fun x hx=>by
  obtain ⟨h1,h2⟩:=List.mem_filter.1 hx
  obtain ⟨c,h3,h4⟩:=h.got x h1
  refine ⟨h1,?_⟩
  rw [getC_delTo tx hn,if_neg]
  rintro ⟨_,_,q⟩
  rw [atC,h3,Option.getD_some,h4] at q
  simp [q] at h2
 refine ⟨fun x hx=>?_,fun k c h1 h2 hk=>?_,fun x hx=>h.oids x (hg x hx).1,?_⟩
 ·rw [(hg x hx).2];exact h.got x (hg x hx).1
 ·rw [getC_delTo tx hn] at hk
  by_cases q:1≤k∧k≤((31:Nat):Int)∧(atC k ms).tx=tx
  ·rw [if_pos q] at hk;cases hk
  ·rw [if_neg q] at hk
   refine List.mem_filter.2 ⟨h.only k c h1 h2 hk,?_⟩
   have:(atC k ms).tx≠tx:=fun e=>q ⟨h1,by omega,e⟩
   rw [atC,hk,Option.getD_some] at this
   simp [this]
 ·refine List.Pairwise.imp_of_mem ?_ (h.up.filter _)
  intro a b ha hb q
  rw [atC,atC,(hg a ha).2,(hg b hb).2,← atC,← atC]
  exact q
end Go.Proofs.YtfehemepdoomdaaGreatDoor
namespace Go.Proofs.YtfehemepdoomdaaGreatDoor
open Go.RowKit
theorem restEnd_any (W d1 d2 d3:World) (M R:Nat) (n:Int) (ms:List ClaimV) (hs:List HoldV) (t s:EngA) (ot:t.own d2 d1.heap.size M) (hMR:M<R) (hM:d1.heap.size≤M) (mS:MapAt d3 M ms) (sa:RunAt M n d3 R s) (tt:Touch (M::R::t.blocks) d2 d3) (fr:∀ k∈s.blocks,k∈t.blocks∨d2.heap.size≤k)
  (hco:ClaimsOk ms hs) (HPL:∀ k,0≤(atC k ms).place∧(atC k ms).place≤1099511627776) (N2:Below W.heap.size W d2) (hW:W.heap.size≤d1.heap.size) (h12:d1.heap.size≤d2.heap.size):
  Calls Tryz.prog 27 #[.pointer (some ⟨R,0,none⟩)] d3 fun r w'=>∃ D:EngA,r=.returned (.agg D.cells.toArray)∧D.shape∧Hid (D.v={ s.v with holds:=hs })∧D.own w' W.heap.size w'.heap.size∧Below W.heap.size W w':=by
 have z3:=tt.size
 have hb:=ot.blocks_lt
 have oS:s.own d3 d1.heap.size d3.heap.size:=EngA.own.raise sa.own (fun k hk=>(fr k hk).elim (fun q=>(hb k q).1) (fun q=>by omega))
 have N3:Below W.heap.size W d3:=N2.trans ⟨tt.os,tt.tape,tt.output,tt.size,fun k hk=>tt.block k (by have:=N2.size;omega) (fun hq=>by
  rcases List.mem_cons.1 hq with q | q
  ·omega
  ·rcases List.mem_cons.1 q with q | q
   ·omega
   ·have:=(hb k q).1;omega)⟩
 refine (rest_any R M s sa.shape _ _ d3 d1.heap.size d3.heap.size sa.box mS HPL oS sa.off (by omega) (Nat.le_refl _)).mono ?_
 rintro r w' ⟨xs,a,c,rfl,HP,oD,tD⟩
 have hhs:xs=hs:=hco.sorted HP.out.1 HP.out.2
 subst hhs
 refine ⟨_,rfl,⟨sa.shape.eight,sa.shape.four⟩,rfl,oD.widen (by omega) (Nat.le_refl _) (Nat.le_refl _),?_⟩
 exact N3.trans ⟨tD.os,tD.tape,tD.output,tD.size,fun k hk=>tD.block k (by have:=N3.size;omega) (fun hq=>by have:=List.mem_singleton.1 hq;omega)⟩
end Go.Proofs.YtfehemepdoomdaaGreatDoor
namespace Go.Proofs.YtfehemepdoomdaaGreatDoor
open Go.RowKit
attribute [local go_sem ↓] Go.wp_at_zero Go.wp_at_succ
end Go.Proofs.YtfehemepdoomdaaGreatDoor
namespace Go.Proofs.YtfehemepdoomdaaGreatDoor
open Go.RowKit
theorem okEng_log {e:EngV} (h:okEng e=true):okLog e.log=true:=by
 unfold okEng at h
 simp only [Bool.and_eq_true] at h
 exact h.1
theorem okEng_sure {e:EngV} (h:okEng e=true):e.log.sure≤e.log.recs.length:=by
 have h1:=okEng_log h
 unfold okLog at h1
 simp only [Bool.and_eq_true] at h1
 have:=h1.2.1
 simp only [inB,decide_eq_true_eq] at this
 exact this.2
theorem refuse_len {e:EngV} {a:Bool} (h:refuseV e a=0):e.log.recs.length≤3800:=by
 unfold refuseV at h
 split at h
 ·split at h
  ·cases h
  ·omega
 ·cases h
theorem okEng_tx {e:EngV} (h:okEng e=true) (i:Nat) (hi:i<e.txs.length):txAt e i=true:=by
 unfold okEng okTxs at h
 simp only [Bool.and_eq_true] at h
 exact all_at h.2.2.2.1.1 i hi
theorem lastFrom_le (tx:Int) (rs:List RecV):∀ k,0≤lastFrom tx rs k∧lastFrom tx rs k≤k:=by
 intro k
 induction k with
 | zero=>exact ⟨Int.le_refl _,Int.le_refl _⟩
 | succ k ih=>
  rw [lastFrom]
  split
  ·omega
  ·omega
theorem okEng_live {e:EngV} (h:okEng e=true):∀ t∈e.txs,1≤t.tx∧t.tx≤1000∧t.aborts=false∧t.last=lastOf e.log.recs t.tx∧0≤t.last∧t.last≤e.log.recs.length:=by
 intro t ht
 obtain ⟨i,hi,rfl⟩:=List.mem_iff_getElem.1 ht
 have h1:=okEng_tx h i hi
 have h2:=okEng_next1 h
 have e1:e.txs.getD i zeroL=e.txs[i]:=by simp [List.getD,hi]
 unfold txAt at h1
 rw [e1] at h1
 simp only [Bool.and_eq_true,inB,decide_eq_true_eq,Bool.not_eq_true'] at h1
 obtain ⟨⟨a1,a2⟩,a3,a4,_⟩:=h1
 have a5:=lastFrom_le e.txs[i].tx e.log.recs e.log.recs.length
 have a6:lastOf e.log.recs e.txs[i].tx=lastFrom e.txs[i].tx e.log.recs e.log.recs.length:=rfl
 exact ⟨a1,by omega,a3,a4,by omega,by omega⟩
theorem EngAtG.liveSetR {M:Nat} {m:Int} {w:World} {E:Nat} {e:EngA} (h:RunAt M m w E e) (k:Nat) (hk:k<e.txs.length) (n:Int):
  ∃ g W,e.aT=some ⟨g,0,none⟩∧g≠E∧g<w.heap.size∧Hid (w.setCell ⟨g,k*3+1,none⟩ (.int .i64 n)=W)∧(∀ j,w.frozen? ⟨g,j,none⟩=false)∧(∃ v,w.cell? ⟨g,k*3+1,none⟩=some v)∧RunStep M m E e w (e.withTxs (e.txs.set k { (e.txs.getD k zeroL) with last:=n }) e.aT e.cT) W∧W.heap.size=w.heap.size:=by
 obtain ⟨g,hg⟩:∃ g,e.aT=some ⟨g,0,none⟩:=by
  rcases h.own.txs.1.2 with ⟨_,h0⟩ | ⟨g,cap',cur,hv,_⟩
  ·omega
  ·simp only [Value.slice.injEq] at hv;exact ⟨g,hv.1⟩
 have hmem:g∈rowOf e.aT e.txs.length e.cT:=by rw [hg];simp [rowOf,Value.ownBlock]
 have hgE:g≠E:=fun e1=>h.off (by rw [← e1];exact EngA.mem_txs hmem)
 have ho:=h.own.txs
 rw [hg] at ho
 obtain ⟨h1,h2⟩:=ho.1.stored (k*3+1) (.int .i64 n)
 rw [cellsL_set1 _ _ hk] at h1
 have ht:Touch [g] w (w.setCell ⟨g,k*3+1,none⟩ (.int .i64 n)):=Touch.of_grown h2 (fun j hj=>by cases hj;simp)
 have hsz:(w.setCell ⟨g,k*3+1,none⟩ (.int .i64 n)).heap.size=w.heap.size:=by simp
 have hc:w.cell? ⟨g,k*3+1,none⟩=some (.int .i64 (e.txs.getD k zeroL).last):=by
  rw [ho.1.cellAt (k*3+1) (by omega),cellsL_at e.txs k 1 hk (by omega)];rfl
 refine ⟨g,_,hg,hgE,h.lt g (EngA.mem_txs hmem),rfl,fun j=>ho.1.frozenAt j,⟨_,hc⟩,?_,hsz⟩
 refine h.lives _ _ _ ?_ ?_ (ht.mono (fun j hj=>List.mem_cons_of_mem _ (by rw [List.mem_singleton.1 hj];exact hmem))) (fun j hj=>.inl ?_)
 ·have e1:(e.withTxs (e.txs.set k { (e.txs.getD k zeroL) with last:=n }) e.aT e.cT).run M m=e.run M m:=by
   rw [run_tail,run_tail]
   simp only [EngA.runTail,EngA.withTxs,List.length_set]
  rw [e1]
  exact h.box.touch ht (by simpa using fun e1=>hgE e1.symm)
 ·rw [hg]
  refine ⟨?_,Nat.le_refl _,fun j hj=>?_⟩
  ·rw [List.length_set];exact h1
  ·cases hj;rw [hsz];exact h.lt g (EngA.mem_txs hmem)
 ·rw [List.length_set] at hj;exact hj
theorem runAddL_any (M:Nat) (n:Int) (R:Nat) (e:EngA) (r:RecA) (w:World) (h:RunAt M n w R e) (hg:ErrT w) (hll:e.log.recs.length≤3990) (hrr:r.reads w) (hrs:r.short 1099511627776) (hrc:r.aL=none→r.cL=0)
  (hok:okR (lsnR r.v ((e.log.recs.length:Int)+1))=true):
  Calls Tryz.prog 99 #[.pointer (some ⟨R,138,none⟩),.agg r.cells.toArray] w fun x w'=>x=.returned (.int .i64 ((e.log.recs.length:Int)+1))∧∃ l:LogA,Hid ((e.withLog l).v=addV e.v r.v)∧RunStep M n R e w (e.withLog l) w':=by
 have h0:(e.run M n)[138]? =some (.slice e.log.a e.log.recs.length e.log.c):=(run_at h.shape M n 2).trans rfl
 refine (logAddR_any R 138 (e.run M n) TRun e.log.a e.log.c e.log.recs 0 w.heap.size r w hg h.box h0 h.own.log (Nat.zero_le _) (fun _ _ _ _ _ _ _ b o=>run_apart b o) (by omega) hrr hrs hrc).mono ?_
 rintro x w' (⟨_,hno,_⟩ | ⟨y,a',c',rfl,_,_,hy,bx,oR,ht,hf⟩)
 ·rcases hno with q | q
  ·omega
  ·rw [hok] at q;cases q
 refine ⟨rfl,⟨e.log.recs++[y],e.log.sure,a',c'⟩,?_,h.logs ⟨e.log.recs++[y],e.log.sure,a',c'⟩ ?_ oR ht hf⟩
 ·simp only [Hid,EngA.v,EngA.withLog,addV,LogA.v,List.map_append,List.map_cons,List.map_nil,hy,List.length_map]
 ·have e1:=run_set h.shape M n 2 (.slice a' (e.log.recs.length+1) c')
  rw [show 136+2=138 from rfl] at e1
  rw [e1] at bx
  have e2:(e.withLog ⟨e.log.recs++[y],e.log.sure,a',c'⟩).run M n=cellsPs e.disk++(e.runTail M n).set 2 (.slice a' (e.log.recs.length+1) c'):=by
   rw [run_tail]
   simp only [EngA.withLog,EngA.runTail,List.length_append,List.length_singleton]
   rfl
  rw [e2]
  exact bx
theorem runTell_any (M:Nat) (n:Int) (R:Nat) (e:EngA) (k:Nat) (c:Int) (w:World) (h:RunAt M n w R e) (hg:ErrT w) (hk:k<e.txs.length) (g:Nat) (hga:e.aT=some ⟨g,0,none⟩) (hl:e.log.recs.length≤3990)
  (hok:okR (lsnR (recE (e.txs.getD k zeroL).tx (e.txs.getD k zeroL).last c).v ((e.log.recs.length:Int)+1))=true):
  Calls Tryz.prog 65 #[.pointer (some ⟨R,0,none⟩),.pointer (some ⟨g,k*3,none⟩),.agg (recE 0 0 c).cells.toArray] w fun r w'=>r=.returned (.int .i64 ((e.log.recs.length:Int)+1))∧∃ e',Hid (e'.v={ addV e.v (recE (e.txs.getD k zeroL).tx (e.txs.getD k zeroL).last c).v with txs:=e.txs.set k { (e.txs.getD k zeroL) with last:=(e.log.recs.length:Int)+1 } })∧e'.aT=e.aT∧RunStep M n R e w e' w':=by
 obtain ⟨z,hz⟩:∃ z,Hid (e.txs.getD k zeroL=z):=⟨_,rfl⟩
 obtain ⟨W,hW,b0,hbW,hsW⟩:=boxes1 w (recE 0 0 c).cells 99
 have a1:=h.below hbW
 have HC:Hid (∀ u,EngAtG (EngA.run M n) TRun u R e→u.cell? ⟨g,k*3,none⟩=some (.int .i64 z.tx)∧u.cell? ⟨g,k*3+1,none⟩=some (.int .i64 z.last)):=fun u hu=>by
  obtain ⟨b,off,ha,hc⟩:=hu.own.txs.reads (by intro e1;rw [e1] at hk;simp at hk)
  rw [hga] at ha
  cases ha
  have:=hc k hk
  rw [hz.out,Nat.zero_add] at this
  exact ⟨this.1,this.2.1⟩
 have ND:Below W.heap.size W W.drew:=(Below.refl _ _).drew
 have c0:=HC.out _ (a1.below ND)
 go_enter Tryz.func65,Tryz.ntmps65
 go_upto_region 1 with fail
 rw [hW.out]
 have hBR:w.heap.size≠R:=by have:=h.box.lt;omega
 have hBb:w.heap.size∉e.blocks:=fun hm=>by have:=h.lt _ hm;omega
 have hgb:g∈e.blocks:=EngA.mem_txs (by rw [hga];simp [rowOf,Value.ownBlock])
 have hgB:g≠w.heap.size:=fun q=>hBb (q▸hgb)
 have D0:Below w.heap.size w W.drew:=hbW.trans (ND.mono hbW.size)
 have hB:=b0.below ND b0.lt
 have aD:=a1.below ND
 refine wp_region_held_drew (S:=fun u=>u.cell? ⟨g,k*3,none⟩=some (.int .i64 z.tx)∧u.cell? ⟨g,k*3+1,none⟩=some (.int .i64 z.last)) (by kernel_rfl) c0 (fun hHeld=>?_)
 generalize W.drew=d0 at*
 obtain ⟨W1,hW1,b1,hw1,hs1⟩:=box_set hB 1 (.int .i64 z.tx)
 obtain ⟨W2,hW2,b2,hw2,hs2⟩:=box_set b1 2 (.int .i64 z.last)
 have aW1:=aD.touch hw1.touch1 (by simp;exact fun q=>hBR q.symm) (fun j hj hm=>hBb (by rw [← List.mem_singleton.1 hm];exact hj))
 have aW2:=aW1.touch hw2.touch1 (by simp;exact fun q=>hBR q.symm) (fun j hj hm=>hBb (by rw [← List.mem_singleton.1 hm];exact hj))
 have x1:=hB.cell 1 _ rfl
 have f1:=hB.frozen 1
 have x2:=b1.cell 2 _ rfl
 have f2:=b1.frozen 2
 have S1:=HC.out _ aW1
 have S2:=HC.out _ aW2
 refine tq 0 (v:=.pointer (some ⟨g,k*3,none⟩)) rfl hHeld ?_
 try simp only [zz]
 refine tq 1 (v:=.pointer (some ⟨g,k*3,none⟩)) rfl hHeld ?_
 try simp only [zz]
 refine tq 2 (v:=.pointer (some ⟨g,k*3,none⟩)) rfl hHeld ?_
 try simp only [zz]
 refine tk 3 (v:=.int .i64 z.tx) rfl (Or.inl ⟨by rfl,?_⟩) hHeld ?_
 ·intro w' hSw
  have hx:=hSw.1
  go_simp<;>rfl
 try simp only [zz]
 refine tq 4 (v:=.pointer (some ⟨g,k*3,none⟩)) rfl hHeld ?_
 try simp only [zz]
 refine tq 5 (v:=.pointer (some ⟨g,k*3,none⟩)) rfl hHeld ?_
 try simp only [zz]
 refine tq 6 (v:=.pointer (some ⟨g,k*3+1,none⟩)) rfl hHeld ?_
 try simp only [zz]
 refine tq 8 (v:=.pointer (some ⟨w.heap.size,1,none⟩)) rfl hHeld ?_
 try simp only [zz]
 refine wpAnyH_ready (rs:=[7,9]) (by kernel_rfl) (by simp) ?_
 refine AllReadyH.cons rfl (fun K hK=>?_) (AllReadyH.cons rfl (fun K hK=>?_) AllReadyH.nil)
 ·have hx:=hHeld.2
  go_simp
  refine hK.out _ _ hHeld (fun hHeld=>?_)
  clear hK K hx
  try simp only [zz]
  refine wpAnyH_ready (rs:=[9]) (by kernel_rfl) (by simp) ?_
  refine AllReadyH.cons rfl (fun K hK=>?_) AllReadyH.nil
  go_simp
  rw [hW1.out]
  refine hK.out _ _ (S1) (fun hHeld=>?_)
  clear hK K
  try simp only [zz]
  refine tq 10 (v:=.pointer (some ⟨w.heap.size,2,none⟩)) rfl hHeld ?_
  try simp only [zz]
  refine wpAnyH_ready (rs:=[11]) (by kernel_rfl) (by simp) ?_
  refine AllReadyH.cons rfl (fun K hK=>?_) AllReadyH.nil
  go_simp
  rw [hW2.out]
  refine hK.out _ _ (S2) (fun hHeld=>?_)
  clear hK K
  try simp only [zz]
  refine wpAnyH_done (by kernel_rfl) ?_ _
  clear hHeld x1 f1 x2 f2 S1 S2 hW1 hW2
  have bR:Box W2 w.heap.size (recE z.tx z.last c).cells 99:=b2
  have D2:Below w.heap.size w W2:=(D0.trans (hw1.below (Nat.le_refl _) (by have:=D0.size;omega))).trans (hw2.below (Nat.le_refl _) (by have:=D0.size;omega))
  have ND2:Below W2.heap.size W2 W2.drew:=(Below.refl _ _).drew
  have aE:=aW2.below ND2
  have bE:=bR.below ND2 bR.lt
  have DE:Below w.heap.size w W2.drew:=D2.trans (ND2.mono D2.size)
  have oE:=recE_own z.tx z.last c W2.drew 0 W2.drew.heap.size (Nat.le_refl _)
  have CA:=runAddL_any M n R e (recE z.tx z.last c) W2.drew aE (hg.keep DE) hl oE.reads ⟨⟨Nat.zero_le _,Nat.zero_le _⟩,⟨Nat.zero_le _,Nat.zero_le _⟩,Nat.zero_le _⟩ (fun _=>rfl) (by rw [← hz.out];exact hok)
  have HI:Hid ((Tryz.prog.info? 99).map (·.size)=some 15):=by rw [Hid];kernel_rfl
  have HRS:Hid (∀ u,Box u w.heap.size (recE z.tx z.last c).cells 99→u.rangeAt w.heap.size 0 (recE z.tx z.last c).cells):=fun u bu=>Box.range [] _ [] (by simpa using bu)
  clear aW1 aW2 aD hB b1 b2 bR
  go_upto_region 2 with fail
  refine wp_region_held_drew (S:=fun u=>u.rangeAt w.heap.size 0 (recE z.tx z.last c).cells) (by kernel_rfl) (HRS.out _ bE) (fun hHeld=>?_)
  generalize W2.drew=d2 at*
  refine tq 0 (v:=.pointer (some ⟨g,k*3,none⟩)) rfl hHeld ?_
  try simp only [zz]
  refine tq 1 (v:=.pointer (some ⟨R,0,none⟩)) rfl hHeld ?_
  try simp only [zz]
  refine tq 2 (v:=.pointer (some ⟨R,0,none⟩)) rfl hHeld ?_
  try simp only [zz]
  refine tq 3 (v:=.pointer (some ⟨R,0,none⟩)) rfl hHeld ?_
  try simp only [zz]
  refine tq 4 (v:=.pointer (some ⟨R,138,none⟩)) rfl hHeld ?_
  try simp only [zz]
  refine tk 5 rfl (yieldsIf_load_mid (by rfl) _ _ rfl _ _ rfl ((recE z.tx z.last c).cells) _ (fun _ h=>h) Tryz.underlying99 rfl HI.out) hHeld ?_
  try simp only [zz]
  refine wpAnyH_ready (rs:=[6]) (by kernel_rfl) (by simp) ?_
  refine AllReadyH.cons rfl (fun K hK=>?_) AllReadyH.nil
  go_simp
  refine CA.mono ?_
  clear CA
  rintro r d3 ⟨rfl,l,hv1,s1⟩
  have b3:=s1.boxes bE ⟨hBR,hBb⟩
  have hk3:k<(e.withLog l).txs.length:=hk
  obtain ⟨g3,W4,hg3,hgE3,hgl3,hW4,hf4,⟨v4,hc4⟩,s4,hs4⟩:=s1.at'.liveSetR k hk3 ((e.log.recs.length:Int)+1)
  have hg4:g3=g:=by
   have e1:(e.withLog l).aT=e.aT:=rfl
   rw [e1,hga] at hg3
   cases hg3
   rfl
  subst hg4
  have ff:=hf4 (k*3+1)
  have b4:=b3.touch s4.touch (fun hm=>by
   rcases List.mem_cons.1 hm with q | q
   ·exact hBR q
   ·exact (s1.off (by have:=DE.size;have:=bE.lt;omega) ⟨hBR,hBb⟩).2 q)
  have y4:W4.cell? ⟨g3,k*3+1,none⟩=some (.int .i64 ((e.log.recs.length:Int)+1)):=by
   obtain ⟨b,off,ha,hc⟩:=s4.at'.own.txs.reads (by
    intro e1
    have:=congrArg List.length e1
    simp only [EngA.withTxs,List.length_set,List.length_nil] at this
    omega)
   have ha':(e.withLog l).aT=some ⟨b,off,none⟩:=ha
   rw [hg3] at ha'
   cases ha'
   have:=(hc k (by show k<(List.set _ _ _).length;rw [List.length_set];exact hk3)).2.1
   rw [Nat.zero_add] at this
   rw [this]
   simp only [EngA.withTxs]
   rw [List.getD,List.getElem?_set_self hk3]
   rfl
  have HE:Hid (∃ e',Hid (e'.v={ addV e.v (recE (e.txs.getD k zeroL).tx (e.txs.getD k zeroL).last c).v with txs:=e.txs.set k { (e.txs.getD k zeroL) with last:=(e.log.recs.length:Int)+1 } })∧e'.aT=e.aT∧RunStep M n R e w e' W4):=by
   refine ⟨_,?_,?_,EngStepG.after DE (s1.trans s4)⟩
   rotate_left
   ·rfl
   have e1:((e.withLog l).withTxs ((e.withLog l).txs.set k { ((e.withLog l).txs.getD k zeroL) with last:=(e.log.recs.length:Int)+1 }) (e.withLog l).aT (e.withLog l).cT).v={ (e.withLog l).v with txs:=e.txs.set k { (e.txs.getD k zeroL) with last:=(e.log.recs.length:Int)+1 } }:=rfl
   rw [Hid,e1,hv1.out,hz.out]
  clear s4 hs4 hf4
  refine hK.out _ _ (HRS.out _ b3) (fun hHeld=>?_)
  clear hK K
  try simp only [zz]
  refine tq 7 (v:=.pointer (some ⟨g3,k*3,none⟩)) rfl hHeld ?_
  try simp only [zz]
  refine tq 8 (v:=.pointer (some ⟨g3,k*3+1,none⟩)) rfl hHeld ?_
  try simp only [zz]
  refine wpAnyH_ready (rs:=[9]) (by kernel_rfl) (by simp) ?_
  refine AllReadyH.cons rfl (fun K hK=>?_) AllReadyH.nil
  go_simp
  rw [hW4.out]
  refine hK.out _ _ (HRS.out _ b4) (fun hHeld=>?_)
  clear hK K
  try simp only [zz]
  refine wpAnyH_done (by kernel_rfl) ?_ _
  clear hHeld
  go_wp2
  go_ret
  have q:=HE.out
  have qd:e.txs.getD k zeroL=e.txs[k]:=by
   rw [List.getD,List.getElem?_eq_getElem hk]
   rfl
  rw [qd] at q
  first | exact ⟨rfl,q⟩ | (rw [hga] at q;exact ⟨rfl,q⟩)
 ·go_simp
  rw [hW1.out]
  refine hK.out _ _ S1 (fun hHeld=>?_)
  clear hK K
  try simp only [zz]
  refine wpAnyH_ready (rs:=[7]) (by kernel_rfl) (by simp) ?_
  refine AllReadyH.cons rfl (fun K hK=>?_) AllReadyH.nil
  have hx:=hHeld.2
  go_simp
  refine hK.out _ _ hHeld (fun hHeld=>?_)
  clear hK K hx
  try simp only [zz]
  refine tq 10 (v:=.pointer (some ⟨w.heap.size,2,none⟩)) rfl hHeld ?_
  try simp only [zz]
  refine wpAnyH_ready (rs:=[11]) (by kernel_rfl) (by simp) ?_
  refine AllReadyH.cons rfl (fun K hK=>?_) AllReadyH.nil
  go_simp
  rw [hW2.out]
  refine hK.out _ _ (S2) (fun hHeld=>?_)
  clear hK K
  try simp only [zz]
  refine wpAnyH_done (by kernel_rfl) ?_ _
  clear hHeld x1 f1 x2 f2 S1 S2 hW1 hW2
  have bR:Box W2 w.heap.size (recE z.tx z.last c).cells 99:=b2
  have D2:Below w.heap.size w W2:=(D0.trans (hw1.below (Nat.le_refl _) (by have:=D0.size;omega))).trans (hw2.below (Nat.le_refl _) (by have:=D0.size;omega))
  have ND2:Below W2.heap.size W2 W2.drew:=(Below.refl _ _).drew
  have aE:=aW2.below ND2
  have bE:=bR.below ND2 bR.lt
  have DE:Below w.heap.size w W2.drew:=D2.trans (ND2.mono D2.size)
  have oE:=recE_own z.tx z.last c W2.drew 0 W2.drew.heap.size (Nat.le_refl _)
  have CA:=runAddL_any M n R e (recE z.tx z.last c) W2.drew aE (hg.keep DE) hl oE.reads ⟨⟨Nat.zero_le _,Nat.zero_le _⟩,⟨Nat.zero_le _,Nat.zero_le _⟩,Nat.zero_le _⟩ (fun _=>rfl) (by rw [← hz.out];exact hok)
  have HI:Hid ((Tryz.prog.info? 99).map (·.size)=some 15):=by rw [Hid];kernel_rfl
  have HRS:Hid (∀ u,Box u w.heap.size (recE z.tx z.last c).cells 99→u.rangeAt w.heap.size 0 (recE z.tx z.last c).cells):=fun u bu=>Box.range [] _ [] (by simpa using bu)
  clear aW1 aW2 aD hB b1 b2 bR
  go_upto_region 2 with fail
  refine wp_region_held_drew (S:=fun u=>u.rangeAt w.heap.size 0 (recE z.tx z.last c).cells) (by kernel_rfl) (HRS.out _ bE) (fun hHeld=>?_)
  generalize W2.drew=d2 at*
  refine tq 0 (v:=.pointer (some ⟨g,k*3,none⟩)) rfl hHeld ?_
  try simp only [zz]
  refine tq 1 (v:=.pointer (some ⟨R,0,none⟩)) rfl hHeld ?_
  try simp only [zz]
  refine tq 2 (v:=.pointer (some ⟨R,0,none⟩)) rfl hHeld ?_
  try simp only [zz]
  refine tq 3 (v:=.pointer (some ⟨R,0,none⟩)) rfl hHeld ?_
  try simp only [zz]
  refine tq 4 (v:=.pointer (some ⟨R,138,none⟩)) rfl hHeld ?_
  try simp only [zz]
  refine tk 5 rfl (yieldsIf_load_mid (by rfl) _ _ rfl _ _ rfl ((recE z.tx z.last c).cells) _ (fun _ h=>h) Tryz.underlying99 rfl HI.out) hHeld ?_
  try simp only [zz]
  refine wpAnyH_ready (rs:=[6]) (by kernel_rfl) (by simp) ?_
  refine AllReadyH.cons rfl (fun K hK=>?_) AllReadyH.nil
  go_simp
  refine CA.mono ?_
  clear CA
  rintro r d3 ⟨rfl,l,hv1,s1⟩
  have b3:=s1.boxes bE ⟨hBR,hBb⟩
  have hk3:k<(e.withLog l).txs.length:=hk
  obtain ⟨g3,W4,hg3,hgE3,hgl3,hW4,hf4,⟨v4,hc4⟩,s4,hs4⟩:=s1.at'.liveSetR k hk3 ((e.log.recs.length:Int)+1)
  have hg4:g3=g:=by
   have e1:(e.withLog l).aT=e.aT:=rfl
   rw [e1,hga] at hg3
   cases hg3
   rfl
  subst hg4
  have ff:=hf4 (k*3+1)
  have b4:=b3.touch s4.touch (fun hm=>by
   rcases List.mem_cons.1 hm with q | q
   ·exact hBR q
   ·exact (s1.off (by have:=DE.size;have:=bE.lt;omega) ⟨hBR,hBb⟩).2 q)
  have y4:W4.cell? ⟨g3,k*3+1,none⟩=some (.int .i64 ((e.log.recs.length:Int)+1)):=by
   obtain ⟨b,off,ha,hc⟩:=s4.at'.own.txs.reads (by
    intro e1
    have:=congrArg List.length e1
    simp only [EngA.withTxs,List.length_set,List.length_nil] at this
    omega)
   have ha':(e.withLog l).aT=some ⟨b,off,none⟩:=ha
   rw [hg3] at ha'
   cases ha'
   have:=(hc k (by show k<(List.set _ _ _).length;rw [List.length_set];exact hk3)).2.1
   rw [Nat.zero_add] at this
   rw [this]
   simp only [EngA.withTxs]
   rw [List.getD,List.getElem?_set_self hk3]
   rfl
  have HE:Hid (∃ e',Hid (e'.v={ addV e.v (recE (e.txs.getD k zeroL).tx (e.txs.getD k zeroL).last c).v with txs:=e.txs.set k { (e.txs.getD k zeroL) with last:=(e.log.recs.length:Int)+1 } })∧e'.aT=e.aT∧RunStep M n R e w e' W4):=by
   refine ⟨_,?_,?_,EngStepG.after DE (s1.trans s4)⟩
   rotate_left
   ·rfl
   have e1:((e.withLog l).withTxs ((e.withLog l).txs.set k { ((e.withLog l).txs.getD k zeroL) with last:=(e.log.recs.length:Int)+1 }) (e.withLog l).aT (e.withLog l).cT).v={ (e.withLog l).v with txs:=e.txs.set k { (e.txs.getD k zeroL) with last:=(e.log.recs.length:Int)+1 } }:=rfl
   rw [Hid,e1,hv1.out,hz.out]
  clear s4 hs4 hf4
  refine hK.out _ _ (HRS.out _ b3) (fun hHeld=>?_)
  clear hK K
  try simp only [zz]
  refine tq 7 (v:=.pointer (some ⟨g3,k*3,none⟩)) rfl hHeld ?_
  try simp only [zz]
  refine tq 8 (v:=.pointer (some ⟨g3,k*3+1,none⟩)) rfl hHeld ?_
  try simp only [zz]
  refine wpAnyH_ready (rs:=[9]) (by kernel_rfl) (by simp) ?_
  refine AllReadyH.cons rfl (fun K hK=>?_) AllReadyH.nil
  go_simp
  rw [hW4.out]
  refine hK.out _ _ (HRS.out _ b4) (fun hHeld=>?_)
  clear hK K
  try simp only [zz]
  refine wpAnyH_done (by kernel_rfl) ?_ _
  clear hHeld
  go_wp2
  go_ret
  have q:=HE.out
  have qd:e.txs.getD k zeroL=e.txs[k]:=by
   rw [List.getD,List.getElem?_eq_getElem hk]
   rfl
  rw [qd] at q
  first | exact ⟨rfl,q⟩ | (rw [hga] at q;exact ⟨rfl,q⟩)
theorem take_stepZ {α:Type} (ls:List α) (z:α) (k:Nat) (h:k<ls.length):ls.take (k+1)=ls.take k++[ls.getD k z]:=by
 rw [List.take_succ_eq_append_getElem h]
 simp [List.getD,List.getElem?_eq_getElem h]
theorem row_stores {e:TypeId} {size base g n cap:Nat}:∀ (vs:List Value) (o:Nat) (w:World) (xs:List Value),w.ownsRow base e size (.slice (some ⟨g,0,none⟩) n cap) n xs→∃ ys,(w.setCells g o vs).ownsRow base e size (.slice (some ⟨g,0,none⟩) n cap) n ys∧ys.take o=xs.take o∧w.grownBy (w.setCells g o vs) (some g)
 | [],_,w,xs,h=>⟨xs,h,rfl,World.grownBy.refl _ _⟩
 | v::r,o,w,xs,h=>by
  have s:=h.stored o v
  obtain ⟨ys,h1,h2,h3⟩:=row_stores r (o+1) _ _ s.1
  refine ⟨ys,h1,?_,grownBy_trans s.2 h3⟩
  have e1:ys.take o=(ys.take (o+1)).take o:=by rw [List.take_take];congr 1;omega
  rw [e1,h2,List.take_take,Nat.min_eq_left (by omega),List.take_set_of_le (Nat.le_refl _)]
theorem row_cut {w:World} {base g n cap:Nat} {ls:List LiveV} {xs:List Value} (h:w.ownsRow base 106 3 (.slice (some ⟨g,0,none⟩) n cap) n xs) (hi:ls.length≤n) (hx:xs.take (ls.length*3)=cellsL ls):
  w.ownsRow base 106 3 (.slice (some ⟨g,0,none⟩) ls.length cap) ls.length (cellsL ls):=by
 rcases h.2 with ⟨h',_⟩ | ⟨g',cap',cur,h',hb,hg,hnc,hcm,hcs,htake⟩
 ·simp at h'
 ·simp only [Value.slice.injEq,Option.some.injEq,Addr.mk.injEq,and_true,true_and] at h'
  obtain ⟨rfl,rfl⟩:=h'
  refine ⟨cellsL_len _,.inr ⟨g,cap,cur,rfl,hb,hg,by omega,hcm,hcs,?_⟩⟩
  rw [← hx,← htake,List.take_take,Nat.min_eq_left (by omega)]
theorem cellsL_take (ls:List LiveV) (i:Nat):(cellsL ls).take (i*3)=cellsL (ls.take i):=by
 induction ls generalizing i with
 | nil=>simp [cellsL]
 | cons s r ih=>
  have e:∀ x,cellsL (s::x)=s.cells++cellsL x:=fun x=>by simp [cellsL]
  cases i with
  | zero=>simp [cellsL]
  | succ i=>
   rw [e,List.take_succ_cons,e,← ih i,show (i+1)*3=s.cells.length+i*3 from by simp [LiveV.cells];omega,List.take_length_add_append]
theorem zeroCellsL (n:Nat):(Builtin.zeroCells (Value.agg #[.int .i64 0,.int .i64 0,.bool false]).cells n).toList.length=n*3∧∀ v∈(Builtin.zeroCells (Value.agg #[.int .i64 0,.int .i64 0,.bool false]).cells n).toList,v.oneCell'=true:=by
 have e:(Value.agg #[.int .i64 0,.int .i64 0,.bool false]).cells=#[.int .i64 0,.int .i64 0,.bool false]:=rfl
 rw [e]
 refine ⟨by simp [Builtin.zeroCells],fun v hv=>?_⟩
 simp only [Builtin.zeroCells,Array.toList_map,List.mem_map] at hv
 obtain ⟨i,_,rfl⟩:=hv
 have h3:i % 3<3:=Nat.mod_lt _ (by omega)
 show (#[Value.int .i64 0,.int .i64 0,.bool false][i % 3]!).oneCell'=true
 rcases (by omega:i % 3=0∨i % 3=1∨i % 3=2) with h' | h' | h'<;>rw [h']<;>rfl
theorem run_zeroOf {P:Program} {t:TypeId} {i:TypeInfo} {z:Value} {u:World} (hi:P.info? t=some i) (hz:i.zero=some z):(zeroValue t).run P u=.ok z u:=by simp [zeroValue,typeInfo,hi,hz]
theorem run_clearL {w:World} {base g n cap:Nat} {xs:List Value} (ty:TypeId) (i c:Nat) (hi:i≤n) (h:w.ownsRow base 106 3 (.slice (some ⟨g,0,none⟩) n cap) n xs):
  ∃ w',(Builtin.clear_ #[55] ty #[.slice (some ⟨g,i*3,none⟩) (n-i) c]).run Tryz.prog w=.ok (.tuple #[]) w'∧(∃ ys,w'.ownsRow base 106 3 (.slice (some ⟨g,0,none⟩) n cap) n ys∧ys.take (i*3)=xs.take (i*3))∧w.grownBy w' (some g):=by
 by_cases h0:n-i=0
 ·refine ⟨w,?_,⟨xs,h,rfl⟩,World.grownBy.refl _ _⟩
  rw [h0]
  simp [Builtin.clear_,run_underlying Tryz.underlying55]
 ·obtain ⟨m,hm⟩:∃ m,n-i=m+1:=⟨n-i-1,by omega⟩
  obtain ⟨i0,hi0,hz0,hz1,hz2⟩:=info_parts Tryz.infoLive
  obtain ⟨hl,ho⟩:=zeroCellsL (n-i)
  have hst:=run_storeCells_cells (P:=Tryz.prog) g (i*3) _ 0 w (fun j hj=>by rw [hl] at hj;rw [h.cellAt (i*3+0+j) (by omega),List.getElem?_eq_getElem (by have:=h.1;omega)];rfl) (fun j hj=>h.frozenAt _) ho
  simp only [Nat.add_zero] at hst
  obtain ⟨ys,h1,h2,h3⟩:=row_stores (Builtin.zeroCells (Value.agg #[.int .i64 0,.int .i64 0,.bool false]).cells (n-i)).toList (i*3) w xs h
  have hv:=fun u=>run_zeroOf (u:=u) hi0 hz0
  refine ⟨_,?_,⟨ys,h1,h2⟩,h3⟩
  generalize hZ:Builtin.zeroCells (Value.agg #[.int .i64 0,.int .i64 0,.bool false]).cells (n-i)=Z at*
  rw [hm] at hZ ⊢
  simp [Builtin.clear_,run_underlying Tryz.underlying55,hv,hZ,hst]
theorem end1_any (z:LiveV) (tx:Int) (B:Nat) (w:World) (h:w.cell? ⟨B,0,none⟩=some (.int .i64 tx)):Calls Tryz.prog 101 #[.agg #[.int .i64 z.tx,.int .i64 z.last,.bool z.aborts],.pointer (some ⟨B,0,none⟩)] w fun e w'=>e=.returned (.bool (z.tx == tx))∧Below w.heap.size w w':=by
 obtain ⟨W,hW,b,hb,hs⟩:=boxes1 w [.int .i64 z.tx,.int .i64 z.last,.bool z.aborts] 106
 obtain ⟨e0,e1,e2,_⟩:=b.three
 have h':=(hb.cell (block_lt h)).trans h
 clear h b hs
 go_enter Tryz.func101,Tryz.ntmps101
 go_upto_region 1 with fail
 rw [hW.out]
 go_wp2
 go_ret
 exact ⟨rfl,hb⟩
theorem indexL_any (tx:Int) (B:Nat) (ls:List LiveV) (a:Option Addr) (c:Nat) (w:World) (hr:ReadsL w a ls) (hl:ls.length≤1000) (h:w.cell? ⟨B,0,none⟩=some (.int .i64 tx)):
  Calls Tryz.prog 133 #[.slice a ls.length c,.func (.func 101) #[] #[.pointer (some ⟨B,0,none⟩)]] w fun e w'=>((e=.returned (.int .i64 (-1))∧Hid (ls.filter (fun l=>l.tx != tx)=ls))∨∃ k:Nat,k<ls.length∧e=.returned (.int .i64 k)∧Hid ((ls.take (k+1)).filter (fun l=>l.tx != tx)=ls.take k))∧Below w.heap.size w w':=by
 have HC:Hid (∀ u,Below w.heap.size w u→∀ z:LiveV,Calls Tryz.prog 101 #[.agg #[.int .i64 z.tx,.int .i64 z.last,.bool z.aborts],.pointer (some ⟨B,0,none⟩)] u fun e w'=>e=.returned (.bool (z.tx == tx))∧Below u.heap.size u w'):=fun u hu z=>end1_any z tx B u ((hu.cell (block_lt h)).trans h)
 have HCG:Hid (∀ u,Below w.heap.size w u→∀ k,k<ls.length→∃ b off,a=some ⟨b,off,none⟩∧u.cell? ⟨b,off+k*3,none⟩=some (.int .i64 (ls.getD k zeroL).tx)∧u.cell? ⟨b,off+k*3+1,none⟩=some (.int .i64 (ls.getD k zeroL).last)∧u.cell? ⟨b,off+k*3+2,none⟩=some (.bool (ls.getD k zeroL).aborts)):=fun u h k hk=>by
  obtain ⟨b,off,ha,hc⟩:=(hr.below h) (by intro e;rw [e] at hk;simp at hk)
  exact ⟨b,off,ha,hc k hk⟩
 have HSTEP:Hid (∀ k,k<ls.length→(ls.take (k+1)).filter (fun l:LiveV=>l.tx != tx)=(ls.take k).filter (fun l:LiveV=>l.tx != tx)++[ls.getD k zeroL].filter (fun l:LiveV=>l.tx != tx)):=fun k hk=>by rw [take_stepZ ls zeroL k hk,List.filter_append]
 have HTK:Hid (∀ k,k<ls.length→ls.take (k+1)=ls.take k++[ls.getD k zeroL]):=fun k hk=>take_stepZ ls zeroL k hk
 clear hr h
 go_enter Tryz.func133,Tryz.ntmps133
 go_wp2_with fail
 go_loopw [8] (fun i wr=>∃ k:Nat,k≤ls.length∧i=.int .i64 k∧Hid ((ls.take k).filter (fun l=>l.tx != tx)=ls.take k)∧Below w.heap.size w wr) (fun i _=>ls.length-(RowKit.intOf i).toNat)
 case atStart=>exact ⟨0,Nat.zero_le _,rfl,rfl,Below.refl _ _⟩
 case round=>
  obtain ⟨k,hk,rfl,hno,hbl⟩:=hrel
  by_cases hlt:k<ls.length
  ·obtain ⟨b,off,rfl,d0,d1,d2⟩:=HCG.out wr hbl k hlt
   have HS1:Hid (_=_):=HSTEP.out k hlt
   have HT1:Hid (_=_):=HTK.out k hlt
   have C:=HC.out wr hbl (ls.getD k zeroL)
   clear HC HSTEP HCG HTK
   generalize ls.getD k zeroL=z at*
   by_cases hz:z.tx=tx
   ·have HR:Hid ((ls.take (k+1)).filter (fun l=>l.tx != tx)=ls.take k):=by rw [Hid,HS1.out,hno.out];simp [hz]
    rw [show (z.tx == tx)=true by simp [hz]] at C
    clear HS1 HT1 hno hz
    go_wp2_with fail
    refine C.mono ?_
    rintro e w' ⟨rfl,hbw⟩
    clear C d0 d1 d2
    go_wp2
    go_ret
    exact ⟨.inr ⟨k,hlt,rfl,HR⟩,hbl.trans (hbw.mono hbl.size)⟩
   ·have HN:Hid ((ls.take (k+1)).filter (fun l=>l.tx != tx)=ls.take (k+1)):=by rw [Hid,HS1.out,HT1.out,hno.out];simp [hz]
    rw [show (z.tx == tx)=false by simp [hz]] at C
    clear HS1 HT1 hno hz
    go_wp2_with fail
    refine C.mono ?_
    rintro e w' ⟨rfl,hbw⟩
    clear C d0 d1 d2
    go_wp2
    go_roundw
    case rel=>exact ⟨k+1,by omega,by go_num,HN,hbl.trans (hbw.mono hbl.size)⟩
    case measure=>simp [RowKit.intOf];omega
  ·have HT:Hid (ls.filter (fun l=>l.tx != tx)=ls):=by
    have e:=hno.out
    rw [List.take_of_length_le (by omega)] at e
    exact e
   clear HC HCG HSTEP hno HTK
   go_wp2
   go_ret
   exact ⟨.inl ⟨rfl,HT⟩,hbl⟩
structure DelI (tx:Int) (lo g c:Nat) (ls:List LiveV) (w wr:World) (i j:Nat) (rs:List LiveV):Prop where
 len:rs.length=ls.length
 front:rs.take i=(ls.take j).filter (fun l=>l.tx != tx)
 rest:∀ k,j≤k→rs.getD k zeroL=ls.getD k zeroL
 own:wr.ownsRow lo 106 3 (.slice (some ⟨g,0,none⟩) ls.length c) ls.length (cellsL rs)
 touch:Touch [g] w wr
theorem DelI.below {tx:Int} {lo g c:Nat} {ls:List LiveV} {w wr wr':World} {i j:Nat} {rs:List LiveV} (h:DelI tx lo g c ls w wr i j rs) (hb:Below wr.heap.size wr wr'):DelI tx lo g c ls w wr' i j rs:=
 ⟨h.len,h.front,h.rest,ownsRow_block h.own (fun k hk=>hb.block k (h.own.lt k hk).2),h.touch.trans (Touch.of_below hb)⟩
theorem DelI.drop {tx:Int} {lo g c:Nat} {ls:List LiveV} {w wr:World} {i j:Nat} {rs:List LiveV} (h:DelI tx lo g c ls w wr i j rs) (hj:j<ls.length) (hz:(ls.getD j zeroL).tx=tx):DelI tx lo g c ls w wr i (j+1) rs:=by
 refine ⟨h.len,?_,fun k hk=>h.rest k (by omega),h.own,h.touch⟩
 rw [h.front,take_stepZ ls zeroL j hj,List.filter_append]
 simp only [List.filter_cons,hz,bne_self_eq_false,Bool.false_eq_true,if_false,List.filter_nil,List.append_nil]
theorem DelI.keep {tx:Int} {lo g c:Nat} {ls:List LiveV} {w wr:World} {i j:Nat} {rs:List LiveV} (h:DelI tx lo g c ls w wr i j rs) (hij:i<j) (hj:j<ls.length) (hz:(ls.getD j zeroL).tx≠tx):
  ∃ W,Hid (((wr.setCell ⟨g,i*3,none⟩ (.int .i64 (ls.getD j zeroL).tx)).setCell ⟨g,i*3+1,none⟩ (.int .i64 (ls.getD j zeroL).last)).setCell ⟨g,i*3+2,none⟩ (.bool (ls.getD j zeroL).aborts)=W)∧DelI tx lo g c ls w W (i+1) (j+1) (rs.set i (ls.getD j zeroL)):=by
 obtain ⟨W,hW,ho,hg⟩:=row_store h.own h.len i (by omega) (ls.getD j zeroL)
 refine ⟨W,hW,by rw [List.length_set];exact h.len,?_,fun k hk=>?_,ho,h.touch.trans (Touch.of_grown hg (fun k hk=>by cases hk;simp))⟩
 ·rw [take_stepZ ls zeroL j hj,List.filter_append,← h.front,take_stepZ _ zeroL i (by rw [List.length_set,h.len];omega),List.take_set_of_le (Nat.le_refl _)]
  congr 1
  have hi:i<rs.length:=by rw [h.len];omega
  have hz':¬ (ls[j]?.getD zeroL).tx=tx:=hz
  simp [List.getD,hi,hz']
 ·rw [← h.rest k (by omega)]
  simp only [List.getD]
  rw [List.getElem?_set_ne (by omega)]
theorem deleteL_any (tx:Int) (B lo g c:Nat) (ls:List LiveV) (w:World) (ho:w.ownsRow lo 106 3 (.slice (some ⟨g,0,none⟩) ls.length c) ls.length (cellsL ls)) (hl:ls.length≤1000) (hB:B≠g) (h:w.cell? ⟨B,0,none⟩=some (.int .i64 tx)):
  Calls Tryz.prog 100 #[.slice (some ⟨g,0,none⟩) ls.length c,.func (.func 101) #[] #[.pointer (some ⟨B,0,none⟩)]] w fun e w'=>e=.returned (.slice (some ⟨g,0,none⟩) (ls.filter (fun l=>l.tx != tx)).length c)∧w'.ownsRow lo 106 3 (.slice (some ⟨g,0,none⟩) (ls.filter (fun l=>l.tx != tx)).length c) (ls.filter (fun l=>l.tx != tx)).length (cellsL (ls.filter (fun l=>l.tx != tx)))∧Touch [g] w w':=by
 have hcap:ls.length≤c∧c≤maxLen:=by
  rcases ho.2 with ⟨h',_⟩ | ⟨g',cap',cur,h',hb,hg,hnc,hcm,hcs,htake⟩
  ·simp at h'
  ·simp only [Value.slice.injEq,Option.some.injEq,Addr.mk.injEq,and_true,true_and] at h'
   obtain ⟨rfl,rfl⟩:=h'
   exact ⟨hnc,hcm⟩
 have hrd:ReadsL w (some ⟨g,0,none⟩) ls:=fun _=>⟨g,0,rfl,fun k hk=>by
  obtain ⟨a0,a1,a2,_⟩:=row_live ho rfl k hk
  rw [Nat.zero_add]
  exact ⟨a0,a1,a2⟩⟩
 have C0:=indexL_any tx B ls (some ⟨g,0,none⟩) c w hrd hl h
 have HC:Hid (∀ u,Touch [g] w u→∀ z:LiveV,Calls Tryz.prog 101 #[.agg #[.int .i64 z.tx,.int .i64 z.last,.bool z.aborts],.pointer (some ⟨B,0,none⟩)] u fun e w'=>e=.returned (.bool (z.tx == tx))∧Below u.heap.size u w'):=fun u hu z=>end1_any z tx B u ((World.cell?_of_block (hu.block B (block_lt h) (by simpa using hB))).trans h)
 have HF:Hid (∀ k,k<ls.length→(ls.take (k+1)).filter (fun l:LiveV=>l.tx != tx)=ls.take k→∀ wr,Below w.heap.size w wr→DelI tx lo g c ls w wr k (k+1) ls):=fun k hk e wr hb=>⟨rfl,e.symm,fun _ _=>rfl,ownsRow_block ho (fun k hk=>hb.block k (ho.lt k hk).2),Touch.of_below hb⟩
 have HO:Hid (∀ wr,Below w.heap.size w wr→wr.ownsRow lo 106 3 (.slice (some ⟨g,0,none⟩) ls.length c) ls.length (cellsL ls)∧Touch [g] w wr):=fun wr hb=>⟨ownsRow_block ho (fun k hk=>hb.block k (ho.lt k hk).2),Touch.of_below hb⟩
 have hc1:=hcap.1
 have hc2:c≤9223372036854775807:=by have:=hcap.2;simp [maxLen] at this;exact this
 clear hrd h ho hcap
 go_enter Tryz.func100,Tryz.ntmps100
 go_wp2_with fail
 refine C0.mono ?_
 rintro e w1 ⟨⟨rfl,he⟩ | ⟨k0,hk0,rfl,he⟩,hb1⟩
 ·have HO1:Hid (_∧_):=HO.out w1 hb1
  clear HO HF HC C0 hb1
  go_wp2
  go_ret
  rw [he.out]
  exact ⟨rfl,HO1.out.1,HO1.out.2⟩
 ·have HI1:Hid (DelI _ _ _ _ _ _ _ _ _ _):=HF.out k0 hk0 he.out w1 hb1
  have hk1:((k0:Int) == -1)=false:=by simp
  clear HO HF C0 hb1 he
  go_wp2_with fail
  go_loopw [5,6] (fun iv jv wr=>∃ (i j:Nat) (rs:List LiveV),iv=.int .i64 i∧jv=.int .i64 j∧i<j∧j≤ls.length∧Hid (DelI tx lo g c ls w wr i j rs)) (fun _ j _=>ls.length-(RowKit.intOf j).toNat)
  case atStart=>exact ⟨k0,k0+1,ls,rfl,by go_num,by omega,by omega,HI1⟩
  case round=>
   obtain ⟨i,j,rs,rfl,rfl,hij,hj,HI⟩:=hrel
   by_cases hlt:j<ls.length
   ·obtain ⟨d0,d1,d2,_⟩:=row_live HI.out.own HI.out.len j hlt
    rw [HI.out.rest j (Nat.le_refl _)] at d0 d1 d2
    obtain ⟨V,hV,bV,hbV,hsV⟩:=boxes1 wr [.int .i64 (ls.getD j zeroL).tx,.int .i64 (ls.getD j zeroL).last,.bool (ls.getD j zeroL).aborts] 106
    have HV:Hid (DelI tx lo g c ls w V i j rs):=HI.out.below hbV
    obtain ⟨e0,e1,e2,_⟩:=bV.three
    have C:=HC.out V HV.out.touch (ls.getD j zeroL)
    have HD:Hid (∀ u,Below V.heap.size V u→(ls.getD j zeroL).tx=tx→DelI tx lo g c ls w u i (j+1) rs):=fun u hu hz=>(HV.out.below hu).drop hlt hz
    have HK:Hid (∀ u,Below V.heap.size V u→(ls.getD j zeroL).tx≠tx→∃ W,Hid (((u.setCell ⟨g,i*3,none⟩ (.int .i64 (ls.getD j zeroL).tx)).setCell ⟨g,i*3+1,none⟩ (.int .i64 (ls.getD j zeroL).last)).setCell ⟨g,i*3+2,none⟩ (.bool (ls.getD j zeroL).aborts)=W)∧DelI tx lo g c ls w W (i+1) (j+1) (rs.set i (ls.getD j zeroL))):=fun u hu hz=>(HV.out.below hu).keep hij hlt hz
    have HW:Hid (∀ u,Below V.heap.size V u→∃ x0 x1 x2,u.cell? ⟨g,i*3,none⟩=some x0∧u.cell? ⟨g,i*3+1,none⟩=some x1∧u.cell? ⟨g,i*3+2,none⟩=some x2∧∀ n,u.frozen? ⟨g,n,none⟩=false):=fun u hu=>by
     have o:=HV.out.below hu
     obtain ⟨a0,a1,a2,af⟩:=row_live o.own o.len i (by omega)
     exact ⟨_,_,_,a0,a1,a2,af⟩
    have hbw:Below wr.heap.size wr V:=hbV
    clear HI HV bV hbV hsV
    generalize ls.getD j zeroL=z at*
    go_upto_region 8 with fail
    rw [hV.out]
    go_wp2_with fail
    refine C.mono ?_
    rintro e w2 ⟨rfl,hb2⟩
    have e0':=(hb2.cell (block_lt e0)).trans e0
    have e1':=(hb2.cell (block_lt e1)).trans e1
    have e2':=(hb2.cell (block_lt e2)).trans e2
    clear e0 e1 e2 d0 d1 d2 C
    by_cases hz:z.tx=tx
    ·have HN:Hid (DelI _ _ _ _ _ _ _ _ _ _):=HD.out w2 hb2 hz
     rw [show (z.tx == tx)=true by simp [hz]]
     clear HD HK HW hb2 hz e0' e1' e2'
     go_wp2_with fail
     go_roundw
     case rel=>exact ⟨i,j+1,rs,rfl,by go_num,by omega,by omega,HN⟩
     case measure=>simp [RowKit.intOf];omega
    ·obtain ⟨W,hW,hN⟩:=HK.out w2 hb2 hz
     have HN:Hid (DelI _ _ _ _ _ _ _ _ _ _):=hN
     obtain ⟨x0,x1,x2,g0,g1,g2,gf⟩:=HW.out w2 hb2
     rw [show (z.tx == tx)=false by simp [hz]]
     clear HD HK HW hb2 hz hN
     go_wp2_with fail
     rw [hW.out]
     go_wp2_with fail
     go_roundw
     case rel=>exact ⟨i+1,j+1,_,by go_num,by go_num,by omega,by omega,HN⟩
     case measure=>simp [RowKit.intOf];omega
   ·obtain ⟨HL,HR⟩:Hid (rs.take i=ls.filter (fun l=>l.tx != tx))∧Hid (i≤ls.length):=by
     refine ⟨?_,by rw [Hid];omega⟩
     have e:=HI.out.front
     rw [show ls.take j=ls from List.take_of_length_le (by omega)] at e
     exact e
    have hi:i≤ls.length:=HR.out
    have hlen:(ls.filter (fun l=>l.tx != tx)).length=i:=by rw [← HL.out,List.length_take,HI.out.len];omega
    obtain ⟨w3,hr3,⟨ys,h3,h4⟩,hg3⟩:=run_clearL (c:=c-i) 0 i hi HI.out.own
    have HT:Hid (w3.ownsRow lo 106 3 (.slice (some ⟨g,0,none⟩) (ls.filter (fun l=>l.tx != tx)).length c) (ls.filter (fun l=>l.tx != tx)).length (cellsL (ls.filter (fun l=>l.tx != tx)))∧Touch [g] w w3):=
     ⟨row_cut h3 (by omega) (by rw [hlen,h4,cellsL_take,HL.out]),HI.out.touch.trans (Touch.of_grown hg3 (fun k hk=>by cases hk;simp))⟩
    have HE:Hid (_=_):=hlen
    clear HI HL HR h3 h4 hg3 HC HI1 hlen
    have hic:i≤c:=by omega
    go_wp2_with fail
    go_ret
    exact ⟨by rw [HE.out];rfl,HT.out.1,HT.out.2⟩
end Go.Proofs.YtfehemepdoomdaaGreatDoor
namespace Go.Proofs.YtfehemepdoomdaaGreatDoor
open Go.RowKit Go.Maps Go.MapKept
theorem build_recK {w:World} {ops:Array Oper} {rest:List Oper} {dst:Option Nat} {ty:TypeId} {pos:String} {aft:Array Edge} {act:Act} {Q:Exit→Act→World→Prop} (kind:Int)
  (h:wpList Tryz.prog ops Q rest (act.put dst (.agg (recE 0 0 kind).cells.toArray)) w):
  wpList Tryz.prog ops Q ({ dst:=dst,op:=.build 99 #[(3,.const (.int .i64 kind))],type:=ty,pos:=pos,after:=aft,guard:=none }::rest) act w:=by
 refine wpList_plain rfl fun K hK=>?_
 unfold Oper.wp execOp
 simp only [List.map_toArray,List.map_cons,List.map_nil]
 have e:(Instr.build 99 #[(3,Value.int .i64 kind)]).run Tryz.prog w=.ok (.agg (recE 0 0 kind).cells.toArray) w:=run_build w _ _ _ (by kernel_rfl)
 have ec:act.eval (.const (.int .i64 kind))=.int .i64 kind:=rfl
 rw [ec]
 simp only [Sem.run_bind,e,Result.andThen_ok,Sem.run_pure]
 exact hK _ _ h
theorem run_claimTx (c:ClaimV) (w:World):(Instr.field 152 (.agg #[.int .i64 c.tx,.int .i64 c.place]) 0).run Tryz.prog w=.ok (.int .i64 c.tx) w:=by kernel_rfl
theorem filter_set_out {α:Type} (p:α→Bool):∀ (ls:List α) (k:Nat) (x z:α),p x=false→p (ls.getD k z)=false→(ls.set k x).filter p=ls.filter p
 | [],_,_,_,_,_=>rfl
 | a::r,0,x,z,hx,hz=>by
  have hz':p a=false:=hz
  rw [List.set_cons_zero,List.filter_cons_of_neg (by simp [hx]),List.filter_cons_of_neg (by simp [hz'])]
 | a::r,k+1,x,z,hx,hz=>by
  have ih:=filter_set_out p r k x z hx (by simpa using hz)
  rw [List.set_cons_succ,List.filter_cons,List.filter_cons,ih]
theorem EngAtG.livesCut {M:Nat} {n:Int} {w w2:World} {R:Nat} {e:EngA} {g c:Nat} {ls:List LiveV} (h:RunAt M n w R e) (hga:e.aT=some ⟨g,0,none⟩) (ho:w2.ownsRow 0 106 3 (.slice (some ⟨g,0,none⟩) ls.length c) ls.length (cellsL ls)) (ht:Touch [g] w w2):
  ∃ W,Hid (w2.setCell ⟨R,140,none⟩ (.slice (some ⟨g,0,none⟩) ls.length c)=W)∧RunStep M n R e w (e.withTxs ls (some ⟨g,0,none⟩) c) W∧Touch [R] w2 W∧(∃ v,w2.cell? ⟨R,140,none⟩=some v)∧w2.frozen? ⟨R,140,none⟩=false:=by
 have hmem:g∈rowOf e.aT e.txs.length e.cT:=by rw [hga];simp [rowOf,Value.ownBlock]
 have hgR:g≠R:=fun e1=>h.off (by rw [← e1];exact EngA.mem_txs hmem)
 have b2:Box w2 R (e.run M n) TRun:=h.box.touch ht (by simpa using fun e1=>hgR e1.symm)
 obtain ⟨W,hW,b3,hw3,hs3⟩:=box_set b2 140 (.slice (some ⟨g,0,none⟩) ls.length c)
 have t3:Touch [R] w2 W:=hw3.touch1
 have e1:=run_set h.shape M n 4 (.slice (some ⟨g,0,none⟩) ls.length c)
 rw [show 136+4=140 from rfl] at e1
 have e2:(e.withTxs ls (some ⟨g,0,none⟩) c).run M n=cellsPs e.disk++(e.runTail M n).set 4 (.slice (some ⟨g,0,none⟩) ls.length c):=by
  rw [run_tail]
  rfl
 refine ⟨W,hW,h.lives ls (some ⟨g,0,none⟩) c ?_ ?_ ?_ (fun j hj=>.inl ?_),t3,⟨_,b2.cell 140 _ ((run_at h.shape M n 4).trans rfl)⟩,b2.frozen 140⟩
 ·rw [e2,← e1];exact b3
 ·refine ⟨ownsRow_block ho (fun j hj=>t3.block j (ho.lt j hj).2 (by cases hj;simpa using hgR)),Nat.le_refl _,fun j hj=>?_⟩
  exact Nat.lt_of_lt_of_le (ho.lt j hj).2 t3.size
 ·exact (ht.mono (fun j hj=>List.mem_cons_of_mem _ (by rw [List.mem_singleton.1 hj];exact hmem))).trans (t3.mono (fun j hj=>by rw [List.mem_singleton.1 hj];exact List.mem_cons_self))
 ·have:j=g:=by simpa [rowOf,Value.ownBlock] using hj
  rw [this];exact hmem
theorem runEnd_any (M:Nat) (n:Int) (R:Nat) (e:EngA) (k:Nat) (ms:List ClaimV) (w:World) (h:RunAt M n w R e) (hg:ErrT w) (hk:k<e.txs.length) (g:Nat) (hga:e.aT=some ⟨g,0,none⟩) (hl:e.log.recs.length≤3990) (hlt:e.txs.length≤1000) (hm:MapAt w M ms) (hM:Off R e M)
  (hok:okR (lsnR (recE (e.txs.getD k zeroL).tx (e.txs.getD k zeroL).last 5).v ((e.log.recs.length:Int)+1))=true):
  Calls Tryz.prog 66 #[.pointer (some ⟨R,0,none⟩),.pointer (some ⟨g,k*3,none⟩)] w fun r w'=>(∃ v,r=.returned v)∧∃ e',Hid (e'.v={ addV e.v (recE (e.txs.getD k zeroL).tx (e.txs.getD k zeroL).last 5).v with txs:=e.txs.filter (fun l=>l.tx != (e.txs.getD k zeroL).tx) })∧RunAt M n w' R e'∧MapAt w' M (delTo (e.txs.getD k zeroL).tx ms 31)∧Touch (M::R::e.blocks) w w'∧(∀ k∈e'.blocks,k∈e.blocks∨w.heap.size≤k)∧Off R e' M:=by
 obtain ⟨z,hz⟩:∃ z,Hid (e.txs.getD k zeroL=z):=⟨_,rfl⟩
 obtain ⟨W,hW,bB,hbW,hsW⟩:=boxes1 w [.int .i64 z.tx] 3
 have a0:=h.below hbW
 have hBo:Off R e w.heap.size:=h.new (Nat.le_refl _)
 have c0:w.cell? ⟨g,k*3,none⟩=some (.int .i64 z.tx):=by
  obtain ⟨b,off,ha,hc⟩:=h.own.txs.reads (by intro e1;rw [e1] at hk;simp at hk)
  rw [hga] at ha
  cases ha
  have:=hc k hk
  rw [hz.out,Nat.zero_add] at this
  exact this.1
 have C1:=runTell_any M n R e k 5 W a0 (hg.keep hbW) hk g hga hl hok
 have HFS:Hid ((e.txs.set k { z with last:=(e.log.recs.length:Int)+1 }).filter (fun l=>l.tx != z.tx)=e.txs.filter (fun l=>l.tx != z.tx)):=filter_set_out _ _ _ _ zeroL (by simp) (by rw [hz.out];simp)
 rw [hz.out] at C1 ⊢
 have hm1:=hm.below hbW
 have hMl:=hm.lt
 clear hm
 have HQ:Hid (∀ (e1:EngA) (w1:World),Hid (e1.v={ addV e.v (recE z.tx z.last 5).v with txs:=e.txs.set k { z with last:=(e.log.recs.length:Int)+1 } })→RunStep M n R e W e1 w1→∃ g1 c1,e1.aT=some ⟨g1,0,none⟩∧e1.txs.length=e.txs.length∧w1.cell? ⟨R,140,none⟩=some (.slice (some ⟨g1,0,none⟩) e1.txs.length c1)∧
   Calls Tryz.prog 100 #[.slice (some ⟨g1,0,none⟩) e1.txs.length c1,.func (.func 101) #[] #[.pointer (some ⟨w.heap.size,0,none⟩)]] w1 (fun r w2=>r=.returned (.slice (some ⟨g1,0,none⟩) (e.txs.filter (fun l=>l.tx != z.tx)).length c1)∧∃ W3,Hid (w2.setCell ⟨R,140,none⟩ (.slice (some ⟨g1,0,none⟩) (e.txs.filter (fun l=>l.tx != z.tx)).length c1)=W3)∧(∃ v,w2.cell? ⟨R,140,none⟩=some v)∧w2.frozen? ⟨R,140,none⟩=false∧
    Hid (RunStep M n R e W (e1.withTxs (e.txs.filter (fun l=>l.tx != z.tx)) (some ⟨g1,0,none⟩) c1) W3))):=by
  intro e1 w1 HV s1
  have hv1:e1.txs=e.txs.set k { z with last:=(e.log.recs.length:Int)+1 }:=v_txs HV.out
  have hlen:e1.txs.length=e.txs.length:=by rw [hv1,List.length_set]
  obtain ⟨g1,hg1⟩:∃ g1,e1.aT=some ⟨g1,0,none⟩:=by
   rcases s1.at'.own.txs.1.2 with ⟨_,h0⟩ | ⟨g1,cap',cur,hv,_⟩
   ·omega
   ·simp only [Value.slice.injEq] at hv;exact ⟨g1,hv.1⟩
  have o1:=s1.at'.own.txs.1
  rw [hg1] at o1
  have r4:=s1.at'.cellR 4 _ rfl
  rw [hg1] at r4
  have hB1:=s1.boxes bB hBo
  have hmem:g1∈e1.blocks:=EngA.mem_txs (by rw [hg1];simp [rowOf,Value.ownBlock])
  have hgB:w.heap.size≠g1:=fun q=>(s1.off (by omega) hBo).2 (by rw [q];exact hmem)
  refine ⟨g1,e1.cT,hg1,hlen,r4,(deleteL_any z.tx w.heap.size 0 g1 e1.cT e1.txs w1 o1 (by omega) hgB (hB1.cell 0 _ rfl)).mono ?_⟩
  rintro r w2 ⟨rfl,o2,t2⟩
  have ef:e1.txs.filter (fun l=>l.tx != z.tx)=e.txs.filter (fun l=>l.tx != z.tx):=by rw [hv1];exact HFS.out
  rw [ef] at o2 ⊢
  obtain ⟨W3,hW3,s3,_,hc3,hf3⟩:=s1.at'.livesCut hg1 o2 t2
  exact ⟨rfl,W3,hW3,hc3,hf3,s1.trans s3⟩
 obtain ⟨FL,HFL⟩:∃ FL,Hid (e.txs.filter (fun l=>l.tx != z.tx)=FL):=⟨_,rfl⟩
 rw [HFL.out] at HQ ⊢
 have HV2:Hid (∀ (e1:EngA) (ls:List LiveV) (a:Option Addr) (c:Nat),e1.v={ addV e.v (recE z.tx z.last 5).v with txs:=e.txs.set k { z with last:=(e.log.recs.length:Int)+1 } }→(e1.withTxs ls a c).v={ addV e.v (recE z.tx z.last 5).v with txs:=ls }):=fun e1 ls a c q=>by
  have e2:(e1.withTxs ls a c).v={ e1.v with txs:=ls }:=rfl
  rw [e2,q]
 have HS:Hid (∀ (e':EngA) (W3 u:World),RunStep M n R e W e' W3→Touch [M] W3 u→RunAt M n u R e'∧Touch (M::R::e.blocks) w u∧(∀ k∈e'.blocks,k∈e.blocks∨w.heap.size≤k)∧Off R e' M):=fun e' W3 u s t=>by
  have hMW:M<W.heap.size:=by omega
  have hoff:=s.off hMW hM
  have s0:=EngStepG.after hbW s
  exact ⟨s.at'.touch t (by simpa using hoff.1.symm) (fun j hj hm=>hoff.2 (by rw [← List.mem_singleton.1 hm];exact hj)),(s0.touch.mono (fun j hj=>List.mem_cons_of_mem _ hj)).trans (t.mono (fun j hj=>by rw [List.mem_singleton.1 hj];exact List.mem_cons_self)),s0.fresh,hoff⟩
 have HB:Hid (∀ (e':EngA) (W3 u:World),RunStep M n R e W e' W3→Touch [M] W3 u→u.cell? ⟨w.heap.size,0,none⟩=some (.int .i64 z.tx)∧u.cell? ⟨R,144,none⟩=some (.map (some M))):=fun e' W3 u s t=>by
  have hBM:w.heap.size≠M:=by omega
  have b1:=(s.boxes bB hBo).touch t (by simpa using hBM)
  exact ⟨b1.cell 0 _ rfl,(HS.out e' W3 u s t).1.cellR 8 _ rfl⟩
 have HM0:Hid (∀ (e':EngA) (W3:World),RunStep M n R e W e' W3→MapAt W3 M ms):=fun e' W3 s=>by
  obtain ⟨es,clock,q1,q2⟩:=hm1
  exact ⟨es,clock,by rw [s.block (by omega) hM];exact q1,q2⟩
 clear bB hbW hsW a0 hBo hg hl hlt hok hz HFS h hm1 HFL
 go_enter Tryz.func66,Tryz.ntmps66
 go_upto_region 1 with fail
 rw [hW.out]
 clear hW
 go_wp2_with (first | (guard_target=wpList _ _ _ (Oper.mk _ (Op.build _ _) _ _ _ _::_) _ _;refine build_recK 5 ?_) | fail)
 refine C1.mono ?_
 clear C1
 rintro r w1 ⟨rfl,e1,HV,-,s1⟩
 obtain ⟨g1,c1,-,-,r4,C2⟩:=HQ.out e1 w1 HV s1
 have HV3:Hid (_=_):=HV2.out e1 FL (some ⟨g1,0,none⟩) c1 HV.out
 clear HQ HV2 HV s1
 go_wp2_with fail
 refine C2.mono ?_
 clear C2 r4
 rintro r w2 ⟨rfl,W3,hW3,⟨v3,hc3⟩,hf3,HS3⟩
 go_upto_region 3 with fail
 rw [hW3.out]
 clear hW3 hc3 hf3
 obtain ⟨e3,he3⟩:∃ e3,Hid (e1.withTxs FL (some ⟨g1,0,none⟩) c1=e3):=⟨_,rfl⟩
 rw [he3.out] at HS3 HV3
 clear he3
 have HST:Hid (∀ u,Touch [M] W3 u→RunAt M n u R e3∧Touch (M::R::e.blocks) w u∧(∀ k∈e3.blocks,k∈e.blocks∨w.heap.size≤k)∧Off R e3 M):=fun u t=>HS.out e3 W3 u HS3.out t
 have HBT:Hid (∀ u,Touch [M] W3 u→u.cell? ⟨w.heap.size,0,none⟩=some (.int .i64 z.tx)∧u.cell? ⟨R,144,none⟩=some (.map (some M))):=fun u t=>HB.out e3 W3 u HS3.out t
 have hm3:=HM0.out e3 W3 HS3.out
 clear HS HB HM0 HS3
 go_wp2_with fail
 go_loopw [5] (fun i wr=>∃ j:Nat,j≤31∧i=.int .i64 ((j:Int)+1)∧MapAt wr M (delTo z.tx ms j)∧Touch [M] W3 wr) (fun i _=>32-(intOf i).toNat)
 case atStart=>exact ⟨0,Nat.zero_le _,rfl,hm3,Touch.refl _ _⟩
 case round=>
  obtain ⟨j,hj,rfl,hmj,htj⟩:=hrel
  by_cases hlt:j<31
  ·have hki:(j:Int)+1≤31:=by omega
   obtain ⟨f0,f1⟩:=HBT.out wr htj
   have hlk:=fun n:Nat=>run_look_c (hmj.below (below_drewN (Below.refl _ _) n)) ((j:Int)+1) false
   have HD:Hid (delTo z.tx ms (j+1)=_):=delTo.eq_2 z.tx ms j
   generalize (atC ((j:Int)+1) (delTo z.tx ms j))=ac at*
   have hfl:=fun n:Nat=>run_claimTx ac (wr.drewN n)
   by_cases hz:ac.tx=z.tx
   ·rw [if_pos hz] at HD
    have hzb:(ac.tx == z.tx)=true:=by simp [hz]
    clear hz
    go_wp2_with fail
    go_quiet (fail)
    have hmq:=hmj.below (below_drewN (Below.refl _ wr) nq)
    obtain ⟨w5,hr5,hm5,hg5⟩:=run_delete_c hmq ((j:Int)+1) 0
    go_wp2_with fail
    go_roundw
    case rel=>exact ⟨j+1,by omega,by go_num,by rw [HD.out];exact hm5,htj.trans ((Touch.of_below (below_drewN (Below.refl _ wr) nq)).trans (Touch.of_grown hg5 (fun k hk=>by cases hk;simp)))⟩
    case measure=>simp [intOf];omega
   ·rw [if_neg hz] at HD
    have hzb:(ac.tx == z.tx)=false:=by simp [hz]
    clear hz
    go_wp2_with fail
    go_quiet (fail)
    go_wp2_with fail
    go_roundw
    case rel=>exact ⟨j+1,by omega,by go_num,by rw [HD.out];exact hmj.below (below_drewN (Below.refl _ wr) nq),htj.trans (Touch.of_below (below_drewN (Below.refl _ wr) nq))⟩
    case measure=>simp [intOf];omega
  ·obtain rfl:j=31:=by omega
   have hki:¬ ((31:Nat):Int)+1≤31:=by omega
   go_wp2_with fail
   refine bodyPost_end (results_none rfl _ _ _) rfl ?_
   obtain ⟨q1,q2,q3,q4⟩:=HST.out wr htj
   exact ⟨⟨_,rfl⟩,e3,HV3,q1,hmj,q2,q3,q4⟩
end Go.Proofs.YtfehemepdoomdaaGreatDoor
namespace Go.Proofs.YtfehemepdoomdaaGreatDoor
open Go.RowKit
theorem liveFrom_at (tx:Int) (ls:List LiveV):∀ k j,j<ls.length→(ls.getD j zeroL).tx=tx→(∀ i,i<j→(ls.getD i zeroL).tx≠tx)→liveFrom tx ls k=((k+j:Nat):Int):=by
 induction ls with
 | nil=>intro k j hj;simp at hj
 | cons l r ih=>
  intro k j hj h hn
  cases j with
  | zero=>
   have h':l.tx=tx:=h
   simp [liveFrom,h']
  | succ j=>
   have h':l.tx≠tx:=hn 0 (by omega)
   have:=ih (k+1) j (by simpa using hj) h (fun i hi=>hn (i+1) (by omega))
   simp only [liveFrom,if_neg h']
   rw [this]
   congr 1
   omega
theorem live_any (R:Nat) (e:EngA) (se:e.shape) (M:Nat) (n tx:Int) (w:World) (b:Box w R (runCells e.cells M n) 120) (hr:ReadsL w e.aT e.txs) (hl:e.txs.length≤1048576):
  Calls Tryz.prog 63 #[.pointer (some ⟨R,0,none⟩),.int .i64 tx] w fun r w'=>w'=w∧((r=.returned (.pointer none)∧liveOf e.txs tx= -1)∨∃ (k g off:Nat),k<e.txs.length∧liveOf e.txs tx=(k:Int)∧e.aT=some ⟨g,off,none⟩∧r=.returned (.pointer (some ⟨g,off+k*3,none⟩))):=by
 have HA:Hid ((cellsPs e.disk).length=136):=EngA.disk_len se
 have b0:Box w R (cellsPs e.disk++[.slice e.aS e.seats.length e.cS,.int .i64 e.hand,.slice e.log.a e.log.recs.length e.log.c,.int .i64 e.log.sure,.slice e.aT e.txs.length e.cT,.slice e.aH e.holds.length e.cH,.int .i64 e.next,.bool e.down,.map (some M),.int .i64 n]) 120:=by
  unfold runCells EngA.cells at b
  rw [List.append_assoc] at b
  exact b
 have x0:=b0.cell 140 (.slice e.aT e.txs.length e.cT) (by rw [List.getElem?_append_right (by rw [HA.out];omega),HA.out];rfl)
 have HY:Hid (∀ j,j<e.txs.length→(e.txs.getD j zeroL).tx=tx→(∀ i,i<j→(e.txs.getD i zeroL).tx≠tx)→liveOf e.txs tx=(j:Int)):=fun j hj h1 h2=>by
  have:=liveFrom_at tx e.txs 0 j hj h1 h2
  rw [Nat.zero_add] at this
  exact this
 have HN:Hid ((∀ k,k<e.txs.length→(e.txs.getD k zeroL).tx≠tx)→liveOf e.txs tx= -1):=fun h=>liveFrom_no tx e.txs 0 h
 have HR:Hid (ReadsL w e.aT e.txs):=hr
 clear b b0 hr
 go_enter Tryz.func63,Tryz.ntmps63
 go_wp2_with fail
 go_loopw [12] (fun i wr=>∃ k:Nat,k≤e.txs.length∧i=.int .i64 (k:Int)∧Hid (∀ j,j<k→(e.txs.getD j zeroL).tx≠tx)∧wr=w) (fun i _=>e.txs.length-(intOf i).toNat)
 case atStart=>exact ⟨0,Nat.zero_le _,rfl,fun j hj=>by omega,rfl⟩
 case round=>
  obtain ⟨k,hk,rfl,hall,rfl⟩:=hrel
  by_cases hlt:k<e.txs.length
  ·obtain ⟨g,off,ha,hc⟩:=HR.out (by intro e0;rw [e0] at hlt;simp at hlt)
   have c0:=(hc k hlt).1
   have HYK:Hid (_→_→_):=HY.out k hlt
   obtain ⟨t,ht⟩:∃ t,Hid (e.txs.getD k zeroL=t):=⟨_,rfl⟩
   rw [ht.out] at c0 HYK
   have hkl:(k:Int)<(e.txs.length:Int):=by omega
   have hk0:(0:Int)≤(k:Int):=by omega
   have HAT:Hid (e.aT=some ⟨g,off,none⟩):=ha
   rw [ha] at x0
   clear hc
   by_cases hx:t.tx=tx
   ·have hxb:(t.tx == tx)=true:=by simp [hx]
    have HE:Hid (liveOf e.txs tx=(k:Int)):=HYK.out hx hall.out
    clear hx ha
    go_wp2
    go_ret
    exact ⟨rfl,.inr ⟨k,g,off,hlt,HE.out,HAT.out,rfl⟩⟩
   ·have hxb:(t.tx == tx)=false:=by simpa using hx
    have HK:Hid (∀ j,j<k+1→(e.txs.getD j zeroL).tx≠tx):=fun j hj=>by
     by_cases q:j=k
     ·rw [q,ht.out];exact hx
     ·exact hall.out j (by omega)
    clear hx ha
    go_wp2_with fail
    go_roundw
    case rel=>exact ⟨k+1,by omega,by go_num,HK,trivial⟩
    case measure=>simp [intOf];omega
  ·have e1:k=e.txs.length:=by omega
   have HE:Hid (liveOf e.txs tx= -1):=HN.out (by rw [e1] at hall;exact hall.out)
   have hge:¬ (k:Int)<(e.txs.length:Int):=by omega
   clear hall e1
   go_wp2
   go_ret
   exact ⟨rfl,.inl ⟨rfl,HE.out⟩⟩
end Go.Proofs.YtfehemepdoomdaaGreatDoor