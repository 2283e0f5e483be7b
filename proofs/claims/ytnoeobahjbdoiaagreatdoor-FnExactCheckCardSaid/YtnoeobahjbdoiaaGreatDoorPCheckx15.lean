/- Several texts in one, in their order. -/
import Derived.Test.YtnoeobahjbdoiaaGreatDoorPCheckx14
import Derived.Test.YtnoeobahjbdoiaaGreatDoorPCheckx11
import Derived.Test.YtnoeobahjbdoiaaGreatDoorPCheckx5
import Derived.Test.YtnoeobahjbdoiaaGreatDoorPCheckx13
import Derived.Test.YtnoeobahjbdoiaaGreatDoorPCheckx7
import Derived.Test.YtnoeobahjbdoiaaGreatDoorPCheckx1
set_option maxHeartbeats 8000000
set_option maxRecDepth 100000
namespace Go.Proofs.YtnoeobahjbdoiaaGreatDoor
open Go.RowKit
theorem within_touchR {B:Nat} {w w':World} (h:Within B (B+1) w w'):Touch [B] w w':=⟨h.os,h.tape,h.output,h.size,fun k hk hn=>h.block k hk (fun hh=>hn (List.mem_singleton.2 (by omega)))⟩
theorem own_holds {w:World} {e:EngA} {lo hi m:Nat} {hs:List HoldV} {a:Option Addr} {c:Nat} (h:e.own w lo hi) (ho:OwnH w m w.heap.size a c hs) (h1:lo≤hi) (h2:hi≤m) (h3:m≤w.heap.size):({ e with holds:=hs,aH:=a,cH:=c }:EngA).own w lo w.heap.size:=by
 refine ⟨h.disk.widen (Nat.le_refl _) (by omega) (Nat.le_refl _),h.pool.widen (Nat.le_refl _) (by omega) (Nat.le_refl _),h.log.widen (Nat.le_refl _) (by omega) (Nat.le_refl _),h.txs.widen (Nat.le_refl _) (by omega) (Nat.le_refl _),ho.widen (by omega) (Nat.le_refl _) (Nat.le_refl _),?_⟩
 have hb:=h.blocks_lt
 have ap:=h.apart
 simp only [EngA.blocks,List.mem_append] at hb
 simp only [EngA.blocks,List.nodup_append,List.mem_append] at ap
 simp only [EngA.blocks,List.nodup_append,List.mem_append]
 obtain ⟨a1,⟨a2,⟨a3,⟨a4,_,_⟩,a5⟩,a6⟩,a7⟩:=ap
 have nr:∀ o:Option Nat,o.toList.Nodup:=fun o=>by cases o<;>simp
 have hn:∀ k∈rowOf a hs.length c,m≤k:=fun k hk=>(ho.lt k (Option.mem_toList.1 hk)).1
 refine ⟨a1,⟨a2,⟨a3,⟨a4,nr _,fun x hx y hy q=>?_⟩,fun x hx y hy=>?_⟩,fun x hx y hy=>?_⟩,fun x hx y hy=>?_⟩
 ·have:=hb x (.inr (.inr (.inr (.inl hx))));have:=hn y hy;omega
 ·rcases hy with hy | hy
  ·exact a5 x hx y (.inl hy)
  ·have:=hb x (.inr (.inr (.inl hx)));have:=hn y hy;omega
 ·rcases hy with hy | hy | hy
  ·exact a6 x hx y (.inl hy)
  ·exact a6 x hx y (.inr (.inl hy))
  ·have:=hb x (.inr (.inl hx));have:=hn y hy;omega
 ·rcases hy with hy | hy | hy | hy
  ·exact a7 x hx y (.inl hy)
  ·exact a7 x hx y (.inr (.inl hy))
  ·exact a7 x hx y (.inr (.inr (.inl hy)))
  ·have:=hb x (.inl hx);have:=hn y hy;omega
theorem rest_any (R M:Nat) (e:EngA) (se:e.shape) (n:Int) (ms:List ClaimV) (w:World) (lo hi:Nat) (b:Box w R (runCells e.cells M n) 148) (hm:MapAt w M ms) (hb:∀ k,0≤(atC k ms).place∧(atC k ms).place≤1099511627776) (own:e.own w lo hi) (hR:R∉e.blocks) (h1:lo≤hi) (h2:hi≤w.heap.size):
  Calls Tryz.prog 53 #[.pointer (some ⟨R,0,none⟩)] w fun r w'=>∃ (hs:List HoldV) (a:Option Addr) (c:Nat),r=.returned (.agg ({ e with holds:=hs,aH:=a,cH:=c }:EngA).cells.toArray)∧Hid (hs.Perm (listC ms 31)∧hs.Pairwise (fun a b=>¬ (atC b.oid ms).place<(atC a.oid ms).place))∧({ e with holds:=hs,aH:=a,cH:=c }:EngA).own w' lo w'.heap.size∧Touch [R] w w':=by
 obtain ⟨Z,hZ⟩:∃ Z,Hid (zeroE=Z):=⟨_,rfl⟩
 have sZ:Z.shape:=by rw [← hZ.out];exact zeroE_shape
 have HZ:=Tryz.zeroEng
 rw [hZ.out] at HZ
 have hRl:=b.lt
 obtain ⟨W,hW,bZ,hbW,hsW⟩:=boxes1 w Z.cells 59
 have b1:=b.below hbW b.lt
 have own1:=own.below hbW
 have zW:=hbW.size
 have hlZ:=bZ.lt
 have C:=holds_any R M e.cells n ms W b1 (EngA.cells_len se) (hm.below hbW) hb
 have HA:Hid ((cellsPs e.disk).length=136):=EngA.disk_len se
 clear b hm hb hsW own
 go_enter Tryz.func53,Tryz.ntmps53
 go_wp2_with (first | (guard_target=wpList _ _ _ (Oper.mk _ (Op.alloc _) _ _ _ _::_) _ _;refine alloc_of 59 Z.cells HZ ?_) | fail)
 rw [hW.out]
 clear hW
 refine C.mono ?_
 clear C
 rintro r w1 ⟨hs,a,c,rfl,HP,oh,hb1⟩
 have z1:=hb1.size
 replace b1:=b1.below hb1 b1.lt
 have b2:Box w1 R (cellsPs e.disk++[.slice e.aS e.seats.length e.cS,.int .i64 e.hand,.slice e.log.a e.log.recs.length e.log.c,.int .i64 e.log.sure,.slice e.aT e.txs.length e.cT,.slice e.aH e.holds.length e.cH,.int .i64 e.next,.bool e.down,.map (some M),.int .i64 n]) 148:=by unfold runCells EngA.cells at b1;rw [List.append_assoc] at b1;exact b1
 have own2:=own1.below hb1
 have bZ2:=bZ.below hb1 bZ.lt
 have f0:=b2.frozen 141
 have x0:=b2.cell 141 (.slice e.aH e.holds.length e.cH) (by rw [List.getElem?_append_right (by rw [HA.out];omega),HA.out];rfl)
 obtain ⟨w2,h2',c2,t2,s2⟩:=tail_fill b2 HA.out 5 (.slice a hs.length c)
 have z2:=t2.size
 obtain ⟨T,hT⟩:∃ T:EngA,Hid (({ e with holds:=hs,aH:=a,cH:=c }:EngA)=T):=⟨_,rfl⟩
 have sT:T.shape:=by rw [← hT.out];exact ⟨se.eight,se.four⟩
 have c3:Box w2 R ([]++(T.cells++[.map (some M),.int .i64 n])) 148:=by
  rw [← hT.out,List.nil_append,EngA.cells,List.append_assoc];exact c2
 have rT:w2.rangeAt R 0 T.cells:=Box.range [] T.cells _ c3
 have own3:e.own w2 lo hi:=own2.touch (within_touchR t2) (fun k hk hm=>hR (by rw [← List.mem_singleton.1 hm];exact hk))
 have oh3:OwnH w2 W.heap.size w2.heap.size a c hs:=(oh.within t2 (.inr (by omega))).widen (Nat.le_refl _) (by omega) (Nat.le_refl _)
 have oT:T.own w2 lo w2.heap.size:=by rw [← hT.out];exact own_holds own3 oh3 h1 (by omega) (by omega)
 have bZ3:=bZ2.within t2 (by omega)
 obtain ⟨WF,hWF,hwF,hsF,HTF,bF⟩:=eng_out sT sZ bZ3
 have HLF:Hid (_=_):=eng_load sT bF
 have T12:Touch [R] w w2:=(Touch.of_below (hbW.trans (hb1.mono hbW.size))).trans (within_touchR t2)
 have HEND:Hid (T.own WF lo WF.heap.size∧Touch [R] w WF):=⟨(oT.touch (within_touchR hwF) (fun k hk hm=>?_)).widen (Nat.le_refl _) hwF.size (Nat.le_refl _),⟨hwF.os.trans T12.os,hwF.tape.trans T12.tape,hwF.output.trans T12.output,Nat.le_trans T12.size hwF.size,fun k hk hn=>(hwF.block k (by omega) (by omega)).trans (T12.block k hk hn)⟩⟩
 rotate_left
 ·rw [List.mem_singleton.1 hm,← hT.out] at hk
  simp only [EngA.blocks,List.mem_append] at hk
  have hb2:=own3.blocks_lt
  simp only [EngA.blocks,List.mem_append] at hb2
  rcases hk with hk | hk | hk | hk | hk
  ·have:=hb2 _ (.inl hk);omega
  ·have:=hb2 _ (.inr (.inl hk));omega
  ·have:=hb2 _ (.inr (.inr (.inl hk)));omega
  ·have:=hb2 _ (.inr (.inr (.inr (.inl hk))));omega
  ·have:=(oh3.lt _ (Option.mem_toList.1 hk)).1;omega
 have HI:=eng_info sT
 have HO:=all_oneCell_toArray (oneE T)
 have h2n:Hid (w1.setCell ⟨R,141,none⟩ (.slice a hs.length c)=w2):=h2'.out
 clear h2' c2 c3 b1 b2 own1 own2 own3 oh oh3 oT bZ bZ2 bZ3 hwF hsF bF t2 s2 T12 hb1 hbW
 go_upto_region 2 with fail
 rw [h2n.out]
 clear h2n f0 x0
 go_wp2_with (first | (guard_target=wpList _ _ _ (Oper.mk (some 12) _ _ _ _ _::_) _ _;refine wpList_load_mid rfl 59 (.tmp 11) rfl R 0 rfl (T.cells) _ rT Tryz.underlying59 rfl HI ?_) | (guard_target=wpList _ _ _ (Oper.mk none (Op.store _ (Operand.tmp 2) _) _ _ _ _::_) _ _;refine wpList_store_mid rfl 59 (.tmp 2) (.tmp 12) rfl w.heap.size 0 (T.cells).toArray rfl rfl HTF.out (by rw [List.size_toArray];exact HI) HO ?_) | fail)
 rw [hWF.out]
 exact bodyPost_ret (v:=.agg T.cells.toArray) (results_one Tryz.results53 rfl HLF.out) rfl ⟨hs,a,c,by rw [hT.out],HP,by rw [hT.out];exact HEND.out.1,HEND.out.2⟩
theorem run_nextR {P:Program} {w w':World} {m:Sem Value} {v:Value} (h:m.run P w=.ok v w'):(do let r ← m;pure (Next.value r):Sem Next).run P w=.ok (.value v) w':=by simp only [Sem.run_bind,h,Result.andThen_ok,Sem.run_pure]
theorem run_any (e:EngA) (se:e.shape) (w:World) (re:e.reads w) (hl:e.short 1048576) (hc:e.caps):
  Calls Tryz.prog 51 #[.agg e.cells.toArray] w fun r w'=>∃ (t:EngA) (M R:Nat),r=.returned (.pointer (some ⟨R,0,none⟩))∧t.shape∧Hid (t.v=e.v)∧t.own w' w.heap.size M∧M<R∧R<w'.heap.size∧w.heap.size≤M∧
   MapAt w' M (claimsTo e.holds e.holds.length)∧Box w' R (runCells t.cells M (e.holds.length:Int)) 148∧Below w.heap.size w w':=by
 have CE:=fun u (hr:e.reads u)=>copyEngine_any e se u hr hl hc
 have hlh:=hl.holds
 have HI:=eng_info se
 obtain ⟨W,hW,b0,hbW,hsW⟩:=boxes1 w e.cells 59
 have HB:Hid (∀ u,Below W.heap.size W u→Box u w.heap.size e.cells 59):=fun u hu=>b0.below hu b0.lt
 have HR:Hid (∀ u,Below W.heap.size W u→e.reads u):=fun u hu=>(re.below hbW).below hu
 have HEND:Hid (∀ u,Below W.heap.size W u→Below w.heap.size w u):=fun u hu=>hbW.trans (hu.mono hbW.size)
 have hw0:w.heap.size<W.heap.size:=by omega
 have N:Below W.heap.size W W:=Below.refl _ _
 clear b0 hsW
 have HCC:Hid (∀ u,Below W.heap.size W u→Calls Tryz.prog 106 #[.slice e.aH e.holds.length e.cH] u fun r w'=>r=.returned (.map (some u.heap.size))∧MapAt w' u.heap.size (claimsTo e.holds e.holds.length)∧Below u.heap.size u w'):=fun u hu=>claimsOf_any e.aH e.cH e.holds u (HR.out _ hu).holds (by omega)
 have HS:Hid (∀ u,Below W.heap.size W u→(u.rangeAt w.heap.size 0 e.cells∧u.cell? ⟨w.heap.size,141,none⟩=some (.slice e.aH e.holds.length e.cH))):=fun u hu=>⟨Box.range [] e.cells [] (by simpa using HB.out u hu),(eng_parts se (HB.out u hu)).2.2.2.2.1⟩
 clear re hl
 go_enter Tryz.func51,Tryz.ntmps51
 go_upto_region 1 with fail
 rw [hW.out]
 clear hW
 have D0:Below W.heap.size W W.drew:=N.drew
 have C1:=CE W.drew (HR.out _ D0)
 refine wp_region_held_drew (S:=fun u=>(u.rangeAt w.heap.size 0 e.cells∧u.cell? ⟨w.heap.size,141,none⟩=some (.slice e.aH e.holds.length e.cH))) (by kernel_rfl) (HS.out _ D0) (fun hHeld=>?_)
 generalize W.drew=d0 at*
 refine tk 0 rfl (yieldsIf_load_mid (by rfl) _ _ rfl _ _ rfl (e.cells) _ (fun _ h=>h.1) Tryz.underlying59 rfl HI) hHeld ?_
 try simp only [zz]
 refine tq 2 (v:=.pointer (some ⟨w.heap.size,141,none⟩)) rfl hHeld ?_
 try simp only [zz]
 refine tk 3 (v:=.slice e.aH e.holds.length e.cH) rfl (Or.inl ⟨by rfl,?_⟩) hHeld ?_
 ·intro w' hSw
  have hx:=hSw.2
  go_simp<;>rfl
 try simp only [zz]
 refine tq 5 (v:=.pointer (some ⟨w.heap.size,141,none⟩)) rfl hHeld ?_
 try simp only [zz]
 refine tk 6 (v:=.slice e.aH e.holds.length e.cH) rfl (Or.inl ⟨by rfl,?_⟩) hHeld ?_
 ·intro w' hSw
  have hx:=hSw.2
  go_simp<;>rfl
 try simp only [zz]
 refine tq 7 (v:=.int .i64 (e.holds.length:Int)) rfl hHeld ?_
 try simp only [zz]
 refine wpAnyH_ready (rs:=[1]) (by kernel_rfl) (by simp) ?_
 refine AllReadyH.cons rfl (fun K hK=>?_) AllReadyH.nil
 go_simp
 refine C1.mono ?_
 clear C1
 rintro r d1 ⟨t,rfl,st,hv,ot,hb1⟩
 have D1:Below W.heap.size W d1:=D0.trans (hb1.mono D0.size)
 have z1:=hb1.size
 have zd:=D0.size
 refine hK.out _ _ (HS.out _ D1) (fun hHeld=>?_)
 clear hK K hb1
 try simp only [zz]
 refine wpAnyH_ready (rs:=[4]) (by kernel_rfl) (by simp) ?_
 refine AllReadyH.cons rfl (fun K hK=>?_) AllReadyH.nil
 go_simp
 refine (HCC.out _ D1).mono ?_
 rintro r d2 ⟨rfl,hm2,hb2⟩
 have D2:Below W.heap.size W d2:=D1.trans (hb2.mono D1.size)
 have z2:=hb2.size
 have hmL:=hm2.lt
 replace ot:=ot.below hb2
 refine hK.out _ _ (HS.out _ D2) (fun hHeld=>?_)
 clear hK K hb2
 try simp only [zz]
 refine tk 8 (v:=.agg (runCells t.cells d1.heap.size (e.holds.length:Int)).toArray) rfl (Or.inl ⟨by rfl,?_⟩) hHeld ?_
 ·intro w' hSw
  have e8:=run_buildR w' t st d1.heap.size (e.holds.length:Int)
  refine run_nextR ?_
  simp only [List.map_toArray,List.map_cons,List.map_nil]
  exact e8
 try simp only [zz]
 obtain ⟨d3,hd3,bR,hb3,hs3⟩:=boxes1 d2 (runCells t.cells d1.heap.size (e.holds.length:Int)) 148
 have D3:Below W.heap.size W d3:=D2.trans (hb3.mono D2.size)
 have hlR:=bR.lt
 have z3:=hb3.size
 replace hm2:=hm2.below hb3
 replace ot:=ot.below hb3
 refine wpAnyH_ready (rs:=[9]) (by kernel_rfl) (by simp) ?_
 refine AllReadyH.cons rfl (fun K hK=>?_) AllReadyH.nil
 go_simp
 rw [hd3.out]
 refine hK.out _ _ (HS.out _ D3) (fun hHeld=>?_)
 clear hK K hb3 hd3 hs3
 try simp only [zz]
 refine tq 10 (v:=.pointer (some ⟨d2.heap.size,0,none⟩)) rfl hHeld ?_
 try simp only [zz]
 refine wpAnyH_done (by kernel_rfl) ?_ _
 clear hHeld
 have HE:Hid (_∧_∧_∧_∧_∧_∧_∧_∧_):=⟨st,hv,ot.widen (show w.heap.size≤d0.heap.size by omega) (Nat.le_refl _) (by omega),hmL,hlR,(show w.heap.size≤d1.heap.size by omega),hm2,bR,HEND.out _ D3⟩
 go_wp2
 go_ret
 exact ⟨t,d1.heap.size,d2.heap.size,rfl,HE.out⟩
end Go.Proofs.YtnoeobahjbdoiaaGreatDoor
namespace Go.Proofs.YtnoeobahjbdoiaaGreatDoor
structure ClaimsOk (ms:List ClaimV) (hs:List HoldV):Prop where
 got:∀ h∈hs,∃ c,getC h.oid ms=some c∧c.tx=h.tx
 only:∀ k c,1≤k→k≤31→getC k ms=some c→⟨c.tx,k⟩∈hs
 oids:∀ h∈hs,1≤h.oid∧h.oid≤31
 up:hs.Pairwise (fun a b=>(atC a.oid ms).place<(atC b.oid ms).place)
theorem mem_listC (ms:List ClaimV) (h:HoldV):∀ k:Nat,h∈listC ms k ↔ ∃ c,getC h.oid ms=some c∧c.tx=h.tx∧1≤h.oid∧h.oid≤(k:Int):=by
 intro k
 induction k with
 | zero=>
  constructor
  ·intro hh;cases hh
  ·rintro ⟨c,_,_,h1,h2⟩;omega
 | succ k ih=>
  cases hg:getC ((k:Int)+1) ms with
  | none=>
   rw [listC_no hg,ih]
   refine ⟨fun ⟨c,a,b,d,e⟩=>⟨c,a,b,d,by omega⟩,fun ⟨c,a,b,d,e⟩=>⟨c,a,b,d,?_⟩⟩
   by_cases q:h.oid=(k:Int)+1
   ·rw [q,hg] at a;cases a
   ·omega
  | some m=>
   rw [listC_yes hg,List.mem_append,ih,List.mem_singleton]
   constructor
   ·rintro (⟨c,a,b,d,e⟩ | rfl)
    ·exact ⟨c,a,b,d,by omega⟩
    ·exact ⟨m,hg,rfl,by show (1:Int)≤(k:Int)+1;omega,by show (k:Int)+1≤_;omega⟩
   ·rintro ⟨c,a,b,d,e⟩
    by_cases q:h.oid=(k:Int)+1
    ·rw [q,hg] at a
     cases a
     refine .inr ?_
     obtain ⟨t,o⟩:=h
     simp only at b q
     rw [b,q]
    ·exact .inl ⟨c,a,b,d,by omega⟩
theorem listC_nodup (ms:List ClaimV):∀ k:Nat,(listC ms k).Nodup:=by
 intro k
 induction k with
 | zero=>exact List.nodup_nil
 | succ k ih=>
  cases hg:getC ((k:Int)+1) ms with
  | none=>rw [listC_no hg];exact ih
  | some m=>
   rw [listC_yes hg,List.nodup_append]
   refine ⟨ih,by simp,fun x hx y hy q=>?_⟩
   obtain ⟨c,_,_,_,h4⟩:=(mem_listC ms x k).1 hx
   rw [q,List.mem_singleton.1 hy] at h4
   simp only at h4
   omega
theorem ClaimsOk.nodup {ms:List ClaimV} {hs:List HoldV} (h:ClaimsOk ms hs):hs.Nodup:=h.up.imp (fun q e=>by rw [e] at q;omega)
theorem ClaimsOk.perm {ms:List ClaimV} {hs:List HoldV} (h:ClaimsOk ms hs):hs.Perm (listC ms 31):=by
 refine (List.perm_ext_iff_of_nodup h.nodup (listC_nodup ms 31)).2 (fun x=>?_)
 rw [mem_listC]
 constructor
 ·intro hx
  obtain ⟨c,h1,h2⟩:=h.got x hx
  exact ⟨c,h1,h2,(h.oids x hx).1,by have:=(h.oids x hx).2;omega⟩
 ·rintro ⟨c,h1,h2,h3,h4⟩
  have:=h.only x.oid c h3 (by omega) h1
  rw [h2] at this
  exact this
theorem ClaimsOk.sorted {ms:List ClaimV} {hs ts:List HoldV} (h:ClaimsOk ms hs) (hp:ts.Perm (listC ms 31)) (ho:ts.Pairwise (fun a b=>¬ (atC b.oid ms).place<(atC a.oid ms).place)):ts=hs:=by
 have hpt:ts.Perm hs:=hp.trans h.perm.symm
 refine List.Perm.eq_of_pairwise (le:=fun a b=>¬ (atC b.oid ms).place<(atC a.oid ms).place) ?_ ho (h.up.imp (fun q=>by omega)) hpt
 intro a b ha hb h1 h2
 have ha':a∈hs:=hpt.mem_iff.1 ha
 have he:(atC a.oid ms).place=(atC b.oid ms).place:=by omega
 obtain ⟨i,hi,rfl⟩:=List.mem_iff_getElem.1 ha'
 obtain ⟨j,hj,rfl⟩:=List.mem_iff_getElem.1 hb
 have up:=List.pairwise_iff_getElem.1 h.up
 rcases Nat.lt_trichotomy i j with q | q | q
 ·have:=up i j hi hj q;omega
 ·subst q;rfl
 ·have:=up j i hj hi q;omega
theorem claims_get (hs:List HoldV):∀ n,(∀ i,i<n→∀ j,j<i→(hs.getD j zeroH).oid≠(hs.getD i zeroH).oid)→∀ j,j<n→getC (hs.getD j zeroH).oid (claimsTo hs n)=some ⟨(hs.getD j zeroH).oid,(hs.getD j zeroH).tx,(j:Int)⟩:=by
 intro n
 induction n with
 | zero=>intro _ j hj;omega
 | succ n ih=>
  intro hd j hj
  rw [claimsTo,getC_put]
  by_cases e:j=n
  ·subst e;rw [if_pos rfl]
  ·rw [if_neg (hd n (by omega) j (by omega))]
   exact ih (fun i hi j hj=>hd i (by omega) j hj) j (by omega)
theorem claimsTo_ok {hs:List HoldV} (hd:∀ i,i<hs.length→∀ j,j<i→(hs.getD j zeroH).oid≠(hs.getD i zeroH).oid) (ho:∀ h∈hs,1≤h.oid∧h.oid≤31):ClaimsOk (claimsTo hs hs.length) hs:=by
 have hg:=claims_get hs hs.length hd
 have at':∀ i (hi:i<hs.length),getC hs[i].oid (claimsTo hs hs.length)=some ⟨hs[i].oid,hs[i].tx,(i:Int)⟩:=fun i hi=>by
  have:=hg i hi
  simpa [List.getD,hi] using this
 refine ⟨fun h hh=>?_,fun k c h1 h2 hk=>?_,ho,?_⟩
 ·obtain ⟨i,hi,rfl⟩:=List.mem_iff_getElem.1 hh
  exact ⟨_,at' i hi,rfl⟩
 ·have hne:getC k (claimsTo hs hs.length)≠none:=by rw [hk];simp
  have:∃ j,j<hs.length∧(hs.getD j zeroH).oid=k:=by
   apply Classical.byContradiction
   intro hc
   exact hne ((claims_none hs k hs.length).2 (fun j hj e=>hc ⟨j,hj,e⟩))
  obtain ⟨j,hj,rfl⟩:=this
  rw [hg j hj] at hk
  cases hk
  have:hs.getD j zeroH=hs[j]:=by simp [List.getD,hj]
  rw [this]
  exact List.getElem_mem hj
 ·rw [List.pairwise_iff_getElem]
  intro i j hi hj hij
  rw [atC_some (at' i hi),atC_some (at' j hj)]
  show (i:Int)<(j:Int)
  omega
theorem claims_place (hs:List HoldV) (k:Int):∀ n,0≤(atC k (claimsTo hs n)).place∧(atC k (claimsTo hs n)).place≤(n:Int):=by
 intro n
 induction n with
 | zero=>exact ⟨Int.le_refl _,Int.le_refl _⟩
 | succ n ih=>
  unfold atC at ih ⊢
  rw [claimsTo,getC_put]
  by_cases e:k=(hs.getD n zeroH).oid
  ·rw [if_pos e];simp only [Option.getD_some];omega
  ·rw [if_neg e];omega
end Go.Proofs.YtnoeobahjbdoiaaGreatDoor
namespace Go.Proofs.YtnoeobahjbdoiaaGreatDoor
open Go.RowKit
theorem nextOk_any (e:EngA) (se:e.shape) (w:World) (re:e.reads w) (hl:e.short 1048576):
  Calls Tryz.prog 159 #[.agg e.cells.toArray] w fun r w'=>r=.returned (.bool (nextB e.v && inB e.next 1 1001))∧Below w.heap.size w w':=by
 have hvl:e.v.log.recs.length=e.log.recs.length:=by simp [EngA.v,LogA.v]
 have HNO:Hid (∀ k,k<e.log.recs.length→nextAt e.v k=false→(nextB e.v && inB e.next 1 1001)=false):=fun k hk h=>by (have:nextB e.v=false:=all_no k (by omega) h;rw [this];rfl)
 have HYES:Hid ((∀ k,k<e.log.recs.length→nextAt e.v k=true)→(nextB e.v && inB e.next 1 1001)=inB e.next 1 1001):=fun h=>by (have:nextB e.v=true:=all_yes (fun k hk=>h k (by omega));rw [this];rfl)
 have HXA:Hid (∀ k,nextAt e.v k=decide ((e.log.recs.getD k zeroR).tx<e.next)):=fun k=>by (show decide (((e.log.recs.map RecA.v).getD k zeroR.v).tx<e.next)=_;rw [recD_v];rfl)
 obtain ⟨RB,hRB⟩:∃ RB,(nextB e.v && inB e.next 1 1001)=RB:=⟨_,rfl⟩
 rw [hRB] at HNO HYES ⊢
 clear hRB hvl
 have hrl:e.log.recs.length≤1048576:=hl.log.len
 obtain ⟨W,hW,b0,hbW,hsW⟩:=boxes1 w e.cells 59
 have HB:Hid (∀ u,Below W.heap.size W u→Box u w.heap.size e.cells 59):=fun u hu=>b0.below hu b0.lt
 have HR:Hid (∀ u,Below W.heap.size W u→e.reads u):=fun u hu=>(re.below hbW).below hu
 have HEND:Hid (∀ u,Below W.heap.size W u→Below w.heap.size w u):=fun u hu=>hbW.trans (hu.mono hbW.size)
 have hw0:w.heap.size<W.heap.size:=by omega
 have N:Below W.heap.size W W:=Below.refl _ _
 clear b0 hsW
 obtain ⟨_,_,p2,_,_,_,_⟩:=eng_parts se (HB.out W N)
 have l0:W.cell? ⟨w.heap.size,138,none⟩=some (.slice e.log.a e.log.recs.length e.log.c):=p2 0 _ rfl
 clear p2 hl re
 go_enter Tryz.func159,Tryz.ntmps159
 go_upto_region 1 with fail
 rw [hW.out]
 clear hW
 go_wp2_with fail
 clear l0
 go_loopw [9] (fun i wr=>∃ k:Nat,k≤e.log.recs.length∧i=.int .i64 (k:Int)∧Hid (∀ j,j<k→nextAt e.v j=true)∧Below W.heap.size W wr) (fun i _=>e.log.recs.length-(intOf i).toNat)
 case atStart=>exact ⟨0,Nat.zero_le _,rfl,fun j hj=>by omega,N⟩
 case round=>
  obtain ⟨k,hk,rfl,hall,hbr⟩:=hrel
  clear N
  have hsr:=hbr.size
  by_cases hlt:k<e.log.recs.length
  ·obtain ⟨b,off,ha,hc⟩:=(HR.out _ hbr).log (by intro e0;rw [e0] at hlt;simp at hlt)
   have hcr:wr.rangeAt b (off+k*15) (e.log.recs.getD k zeroR).cells:=(hc k hlt).1
   have HXK:Hid (_=_):=HXA.out k
   have HXN:Hid (_→_):=HNO.out k hlt
   rw [ha]
   clear hc ha
   generalize e.log.recs.getD k zeroR=z at*
   obtain ⟨ZV,hZV,bZ,hbZ,hsZ⟩:=boxes1 wr [.int .i64 0,.int .i64 0,.int .i64 0,.int .i64 0,.int .i64 0,.bool false,.int .i64 0,.slice none 0 0,.slice none 0 0,.bool false,.int .i64 0,.slice none 0 0,.slice none 0 0,.int .i64 0,.slice none 0 0] 135
   obtain ⟨V,hV,hwS,hsS,HT,_,bS⟩:=rec_out z _ rfl bZ
   have nb:Below wr.heap.size wr V:=hbZ.trans (hwS.below (Nat.le_refl _) (by omega))
   have nV:Below W.heap.size W V:=hbr.trans (nb.mono hbr.size)
   have EV:Hid (ZV.setCells wr.heap.size 0 z.cells.toArray.toList=V):=hV.out
   have x1:=bS.cell 1 _ rfl
   obtain ⟨_,_,_,_,_,p5,_⟩:=eng_parts se (HB.out _ nV)
   have hkl:(k:Int)<(e.log.recs.length:Int):=by omega
   have hk0:(0:Int)≤(k:Int):=by omega
   clear bZ hbZ hsZ hwS hsS hV nb bS
   go_upto_region 4 with (first | (guard_target=wpList _ _ _ (Oper.mk (some 12) _ _ _ _ _::_) _ _;refine wpList_load_mid rfl 135 (.tmp 11) rfl b (off+k*15) rfl (z.cells) _ hcr Tryz.underlying135 rfl (rec_info _) ?_) | (guard_target=wpList _ _ _ (Oper.mk none (Op.store _ (Operand.tmp 4) _) _ _ _ _::_) _ _;refine wpList_store_mid rfl 135 (.tmp 4) (.tmp 12) rfl wr.heap.size 0 z.cells.toArray rfl rfl (by rw [hZV.out];exact HT.out) (by rw [List.size_toArray];exact rec_info _) (rec_one _) ?_) | fail)
   rw [hZV.out,EV.out]
   clear hZV EV HT hcr
   by_cases hx:z.tx<e.next
   ·have hxn:¬ e.next≤z.tx:=by omega
    have HK:Hid (∀ j,j<k+1→nextAt e.v j=true):=fun j hj=>by
     by_cases q:j=k
     ·rw [q,HXK.out];exact decide_eq_true hx
     ·exact hall.out j (by omega)
    clear hx
    go_wp2_with fail
    go_roundw
    case rel=>exact ⟨k+1,by omega,by go_num,HK,nV⟩
    case measure=>simp [intOf];omega
   ·have hxn:e.next≤z.tx:=by omega
    have HE:Hid (RB=false∧Below w.heap.size w V):=⟨HXN.out (by rw [HXK.out];exact decide_eq_false hx),HEND.out _ nV⟩
    clear hx
    go_wp2
    go_ret
    exact ⟨ret_bool HE.out.1.symm,HE.out.2⟩
  ·have e1:k=e.log.recs.length:=by omega
   have HE:Hid (RB=inB e.next 1 1001∧Below w.heap.size w wr):=⟨HYES.out (by rw [e1] at hall;exact hall.out),HEND.out _ hbr⟩
   have hge:¬ (k:Int)<(e.log.recs.length:Int):=by omega
   obtain ⟨_,_,_,_,_,p5,_⟩:=eng_parts se (HB.out _ hbr)
   clear hall e1
   by_cases h1:1≤e.next
   ·by_cases h2:e.next≤1001
    ·have HF:Hid (RB=true):=by rw [Hid,HE.out.1];simp [inB,h1,h2]
     go_wp2
     go_ret
     exact ⟨ret_bool HF.out.symm,HE.out.2⟩
    ·have HF:Hid (RB=false):=by rw [Hid,HE.out.1];simp [inB,h2]
     go_wp2
     go_ret
     exact ⟨ret_bool HF.out.symm,HE.out.2⟩
   ·have HF:Hid (RB=false):=by rw [Hid,HE.out.1];simp [inB,h1]
    go_wp2
    go_ret
    exact ⟨ret_bool HF.out.symm,HE.out.2⟩
theorem lastLsn_any (l:LogA) (tx:Int) (w:World) (hr:l.reads w) (hl:l.recs.length≤1048576):
  Calls Tryz.prog 188 #[.agg l.cells.toArray,.int .i64 tx] w fun r w'=>r=.returned (.int .i64 ((chainOf l.v tx).headD 0))∧Below w.heap.size w w':=by
 obtain ⟨W,hW,b0,hbW,hsW⟩:=boxes1 w l.cells 55
 have r0:W.rangeAt w.heap.size 0 l.cells:=Box.range [] l.cells [] (by simpa using b0)
 have C:=implChain_any l tx W (LogA.reads.below hr hbW) hl
 clear b0 hsW
 go_enter Tryz.func188,Tryz.ntmps188
 go_wp2_with (first | (guard_target=wpList _ _ _ (Oper.mk (some 6) _ _ _ _ _::_) _ _;refine wpList_load_mid rfl 55 (.tmp 2) rfl w.heap.size 0 rfl (l.cells) _ (by rw [hW.out];exact r0) Tryz.underlying55 rfl (log_info _) ?_) | fail)
 rw [hW.out]
 clear hW r0
 refine C.mono ?_
 clear C
 rintro r w1 ⟨a,c,ys,rfl,hy,oy,hb⟩
 have n1:Below w.heap.size w w1:=hbW.trans (hb.mono hbW.size)
 have HY:Hid ((chainOf l.v tx).headD 0=ys.headD 0):=by rw [Hid,hy.out]
 have ry:=oy.reads
 clear oy hy hb hbW
 cases ys with
 | nil=>
  go_wp2
  go_ret
  exact ⟨ret_int HY.out.symm,n1⟩
 | cons y r=>
  obtain ⟨b,off,rfl,hc⟩:=ry (by simp)
  have c0:=hc 0 (by simp)
  simp only [Nat.add_zero,List.getD_cons_zero] at c0
  have HY2:Hid ((chainOf l.v tx).headD 0=y):=by rw [Hid,HY.out];rfl
  have hn0:(((y::r).length:Int) == 0)=false:=beq_eq_false_iff_ne.2 (by simp;omega)
  have hp:(0:Int)<((y::r).length:Int):=by simp only [List.length_cons];omega
  have hpn:0<(y::r).length:=by simp
  clear hc HY ry
  generalize y::r=ys at*
  go_wp2
  go_ret
  exact ⟨ret_int HY2.out.symm,n1⟩
theorem liveFrom_no (tx:Int) (ls:List LiveV):∀ k,(∀ j,j<ls.length→(ls.getD j zeroL).tx≠tx)→liveFrom tx ls k= -1:=by
 induction ls with
 | nil=>intro k _;rfl
 | cons l r ih=>
  intro k h
  have h0:=h 0 (by simp)
  simp only [List.getD_cons_zero] at h0
  rw [liveFrom,if_neg h0,ih (k+1) (fun j hj=>by have:=h (j+1) (by simpa using hj);simpa using this)]
theorem liveFrom_yes (tx:Int) (ls:List LiveV):∀ k j,j<ls.length→(ls.getD j zeroL).tx=tx→0≤liveFrom tx ls k:=by
 induction ls with
 | nil=>intro k j h;simp at h
 | cons l r ih=>
  intro k j hj h
  rw [liveFrom]
  split
  ·omega
  ·rename_i hn
   cases j with
   | zero=>simp only [List.getD_cons_zero] at h;exact absurd h hn
   | succ j=>exact ih (k+1) j (by simpa using hj) (by simpa using h)
theorem isUnderWay_any (a:Option Addr) (c:Nat) (ls:List LiveV) (tx:Int) (w:World) (hr:ReadsL w a ls) (hl:ls.length≤1099511627776):
  Calls Tryz.prog 189 #[.slice a ls.length c,.int .i64 tx] w fun r w'=>r=.returned (.bool (decide (0≤liveOf ls tx)))∧Below w.heap.size w w':=by
 have HY:Hid (∀ k,k<ls.length→(ls.getD k zeroL).tx=tx→decide (0≤liveOf ls tx)=true):=fun k hk h=>decide_eq_true (liveFrom_yes tx ls 0 k hk h)
 have HN:Hid ((∀ k,k<ls.length→(ls.getD k zeroL).tx≠tx)→decide (0≤liveOf ls tx)=false):=fun h=>decide_eq_false (by (unfold liveOf;rw [liveFrom_no tx ls 0 h];omega))
 have HR:Hid (ReadsL w a ls):=hr
 generalize decide (0≤liveOf ls tx)=RB at*
 clear hr
 go_enter Tryz.func189,Tryz.ntmps189
 go_wp2_with fail
 go_loopw [9] (fun i wr=>∃ k:Nat,k≤ls.length∧i=.int .i64 (k:Int)∧Hid (∀ j,j<k→(ls.getD j zeroL).tx≠tx)∧Below w.heap.size w wr) (fun i _=>ls.length-(intOf i).toNat)
 case atStart=>exact ⟨0,Nat.zero_le _,rfl,fun j hj=>by omega,Below.refl _ _⟩
 case round=>
  obtain ⟨k,hk,rfl,hall,hbr⟩:=hrel
  by_cases hlt:k<ls.length
  ·obtain ⟨b,off,rfl,hc⟩:=(HR.out.below hbr) (by intro e0;rw [e0] at hlt;simp at hlt)
   obtain ⟨c0,c1,c2⟩:=hc k hlt
   have HYK:Hid (_→_):=HY.out k hlt
   obtain ⟨t,ht⟩:∃ t,Hid (ls.getD k zeroL=t):=⟨_,rfl⟩
   rw [ht.out] at c0 c1 c2 HYK
   clear hc
   obtain ⟨V,hV,bV,hbV,hsV⟩:=boxes1 wr [.int .i64 t.tx,.int .i64 t.last,.bool t.aborts] 130
   have nV:Below w.heap.size w V:=hbr.trans (hbV.mono hbr.size)
   have x0:=bV.cell 0 _ rfl
   have hkl:(k:Int)<(ls.length:Int):=by omega
   have hk0:(0:Int)≤(k:Int):=by omega
   clear hbV hsV bV
   go_upto_region 4 with fail
   rw [hV.out]
   clear hV c0 c1 c2
   by_cases hx:t.tx=tx
   ·have hxb:(t.tx == tx)=true:=by simp [hx]
    have HE:Hid (RB=true):=HYK.out hx
    clear hx
    go_wp2
    go_ret
    exact ⟨ret_bool HE.out.symm,nV⟩
   ·have hxb:(t.tx == tx)=false:=by simpa using hx
    have HK:Hid (∀ j,j<k+1→(ls.getD j zeroL).tx≠tx):=fun j hj=>by
     by_cases q:j=k
     ·rw [q,ht.out];exact hx
     ·exact hall.out j (by omega)
    clear hx
    go_wp2_with fail
    go_roundw
    case rel=>exact ⟨k+1,by omega,by go_num,HK,nV⟩
    case measure=>simp [intOf];omega
  ·have e1:k=ls.length:=by omega
   have HE:Hid (RB=false):=HN.out (by rw [e1] at hall;exact hall.out)
   have hge:¬ (k:Int)<(ls.length:Int):=by omega
   clear hall e1
   go_wp2
   go_ret
   exact ⟨ret_bool HE.out.symm,hbr⟩
def aheadV (ls:List LiveV) (k:Nat):Int:=if k=0 then 0 else (ls.getD (k-1) zeroL).tx
theorem txsOk_any (e:EngA) (se:e.shape) (w:World) (re:e.reads w) (hl:e.short 1048576) (hlog:okLog e.log.v=true):
  Calls Tryz.prog 160 #[.agg e.cells.toArray] w fun r w'=>r=.returned (.bool (decide (e.txs.length≤6) && txsB e.v))∧Below w.heap.size w w':=by
 have HNO:Hid (∀ k,k<e.txs.length→txAt e.v k=false→(decide (e.txs.length≤6) && txsB e.v)=false):=fun k hk h=>by (have:txsB e.v=false:=all_no k hk h;rw [this,Bool.and_false])
 have HYES:Hid (e.txs.length≤6→(∀ k,k<e.txs.length→txAt e.v k=true)→(decide (e.txs.length≤6) && txsB e.v)=true):=fun h6 h=>by (have:txsB e.v=true:=all_yes h;rw [this,decide_eq_true h6];rfl)
 have HLONG:Hid (¬ e.txs.length≤6→(decide (e.txs.length≤6) && txsB e.v)=false):=fun h=>by (rw [decide_eq_false h];rfl)
 have HTX:Hid (∀ k,txAt e.v k=(inB (e.txs.getD k zeroL).tx 1 (e.next-1) && (!(e.txs.getD k zeroL).aborts && (decide ((e.txs.getD k zeroL).last=lastOf (e.log.recs.map RecA.v) (e.txs.getD k zeroL).tx) && (decide (k=0) || decide ((e.txs.getD (k-1) zeroL).tx<(e.txs.getD k zeroL).tx)))))):=fun k=>rfl
 have HLH:Hid (∀ tx,1≤tx→(chainOf e.log.v tx).headD 0=lastOf (e.log.recs.map RecA.v) tx):=fun tx h=>last_head hlog tx h
 obtain ⟨ROK,hRB⟩:∃ RB,(decide (e.txs.length≤6) && txsB e.v)=RB:=⟨_,rfl⟩
 rw [hRB] at HNO HYES HLONG ⊢
 clear hRB hlog
 have hlt:=hl.txs
 have hrl:e.log.recs.length≤1048576:=hl.log.len
 obtain ⟨W,hW,b0,hbW,hsW⟩:=boxes1 w e.cells 59
 have HB:Hid (∀ u,Below W.heap.size W u→Box u w.heap.size e.cells 59):=fun u hu=>b0.below hu b0.lt
 have HR:Hid (∀ u,Below W.heap.size W u→e.reads u):=fun u hu=>(re.below hbW).below hu
 have HEND:Hid (∀ u,Below W.heap.size W u→Below w.heap.size w u):=fun u hu=>hbW.trans (hu.mono hbW.size)
 have hw0:w.heap.size<W.heap.size:=by omega
 have N:Below W.heap.size W W:=Below.refl _ _
 clear b0 hsW
 obtain ⟨_,_,_,p3,_,_,_⟩:=eng_parts se (HB.out W N)
 clear hl re
 go_enter Tryz.func160,Tryz.ntmps160
 go_upto_region 1 with fail
 rw [hW.out]
 clear hW
 by_cases h6:e.txs.length≤6
 ·have h6i:¬ (6:Int)<(e.txs.length:Int):=by omega
  have HY6:Hid (_→_):=HYES.out h6
  clear HLONG HYES h6
  go_wp2_with fail
  clear p3 h6i
  go_loopw [3,13] (fun ah i wr=>∃ k:Nat,k≤e.txs.length∧i=.int .i64 (k:Int)∧ah=.int .i64 (aheadV e.txs k)∧Hid (∀ j,j<k→txAt e.v j=true)∧Hid (0≤aheadV e.txs k)∧Below W.heap.size W wr) (fun _ i _=>e.txs.length-(intOf i).toNat)
  case atStart=>exact ⟨0,Nat.zero_le _,rfl,rfl,fun j hj=>by omega,by show (0:Int)≤0;omega,N⟩
  case round=>
   obtain ⟨k,hk,rfl,rfl,hall,hah,hbr⟩:=hrel
   clear N
   have hsr:=hbr.size
   by_cases hlt2:k<e.txs.length
   ·obtain ⟨b,off,ha,hc⟩:=(HR.out _ hbr).txs (by intro e0;rw [e0] at hlt2;simp at hlt2)
    obtain ⟨c0,c1,c2⟩:=hc k hlt2
    have HTK:Hid (_=_):=HTX.out k
    have HNK:Hid (_→_):=HNO.out k hlt2
    have HAN:Hid (aheadV e.txs (k+1)=(e.txs.getD k zeroL).tx):=by rw [Hid,aheadV,if_neg (by omega),Nat.add_sub_cancel]
    have HAK:Hid ((k=0∧aheadV e.txs k=0)∨(k≠0∧aheadV e.txs k=(e.txs.getD (k-1) zeroL).tx)):=by
     by_cases q:k=0
     ·exact .inl ⟨q,by rw [aheadV,if_pos q]⟩
     ·exact .inr ⟨q,by rw [aheadV,if_neg q]⟩
    rw [ha]
    clear hc ha
    generalize e.txs.getD k zeroL=t at*
    generalize aheadV e.txs k=ah at*
    obtain ⟨V,hV,bV,hbV,hsV⟩:=boxes1 wr [.int .i64 t.tx,.int .i64 t.last,.bool t.aborts] 130
    have nV:Below W.heap.size W V:=hbr.trans (hbV.mono hbr.size)
    obtain ⟨ab,hab⟩:∃ ab,Hid (t.aborts=ab):=⟨_,rfl⟩
    have HS:Hid (∀ u,Below V.heap.size V u→(u.cell? ⟨wr.heap.size,0,none⟩=some (.int .i64 t.tx)∧u.cell? ⟨wr.heap.size,1,none⟩=some (.int .i64 t.last)∧u.cell? ⟨wr.heap.size,2,none⟩=some (.bool ab)∧u.cell? ⟨w.heap.size,142,none⟩=some (.int .i64 e.next)∧u.rangeAt w.heap.size 138 e.log.cells)):=fun u hu=>by
     have bu:=bV.below hu bV.lt
     obtain ⟨_,_,q2,_,_,q5,_⟩:=eng_parts se (HB.out u (nV.trans (hu.mono nV.size)))
     have z2:=bu.cell 2 _ rfl
     rw [hab.out] at z2
     exact ⟨bu.cell 0 _ rfl,bu.cell 1 _ rfl,z2,q5,q2⟩
    have CL:=fun u (hu:Below V.heap.size V u)=>lastLsn_any e.log t.tx u (HR.out _ (nV.trans (hu.mono nV.size))).log hrl
    have hkl:(k:Int)<(e.txs.length:Int):=by omega
    have hk0:(0:Int)≤(k:Int):=by omega
    have hlV:=bV.lt
    clear bV hbV hsV
    go_upto_region 7 with fail
    rw [hV.out]
    clear hV c0 c1 c2
    have D0:Below V.heap.size V V.drew:=(Below.refl _ _).drew
    have N2:Below W.heap.size W V.drew:=nV.trans (D0.mono nV.size)
    by_cases hA:t.tx≤ah
    ·have HFALSE:Hid (txAt e.v k=false):=by
      rw [Hid,HTK.out]
      rcases HAK.out with ⟨q,h0⟩ | ⟨q,h1⟩
      ·have:inB t.tx 1 (e.next-1)=false:=by unfold inB;exact decide_eq_false (by omega)
       rw [this];rfl
      ·have h2:decide ((e.txs.getD (k-1) zeroL).tx<t.tx)=false:=decide_eq_false (by omega)
       rw [h2,decide_eq_false q];simp
     refine wp_region_held_drew (S:=fun u=>(u.cell? ⟨wr.heap.size,0,none⟩=some (.int .i64 t.tx)∧u.cell? ⟨wr.heap.size,1,none⟩=some (.int .i64 t.last)∧u.cell? ⟨wr.heap.size,2,none⟩=some (.bool ab)∧u.cell? ⟨w.heap.size,142,none⟩=some (.int .i64 e.next)∧u.rangeAt w.heap.size 138 e.log.cells)) (by kernel_rfl) (HS.out _ D0) (fun hHeld=>?_)
     generalize V.drew=d0 at*
     refine tq 0 (v:=.pointer (some ⟨wr.heap.size,0,none⟩)) rfl hHeld ?_
     try simp only [zz]
     refine tk 1 (v:=.int .i64 t.tx) rfl (Or.inl ⟨by rfl,?_⟩) hHeld ?_
     ·intro w' hSw
      have hx:=hSw.1
      go_simp<;>rfl
     try simp only [zz]
     refine tq 2 (v:=.int .i64 ah) rfl hHeld ?_
     try simp only [zz]
     refine tq 3 (v:=.bool true) rfl hHeld ?_
     try simp only [zz]
     refine tq 4 (v:=.bool true) rfl hHeld ?_
     try simp only [zz]
     refine tk 5 (v:=undef) rfl (Or.inr ⟨by rfl,rfl⟩) hHeld ?_
     try simp only [zz]
     refine tk 6 (v:=undef) rfl (Or.inr ⟨by rfl,rfl⟩) hHeld ?_
     try simp only [zz]
     refine tk 7 (v:=undef) rfl (Or.inr ⟨by rfl,rfl⟩) hHeld ?_
     try simp only [zz]
     refine tk 8 (v:=undef) rfl (Or.inr ⟨by rfl,rfl⟩) hHeld ?_
     try simp only [zz]
     refine tk 9 (v:=undef) rfl (Or.inr ⟨by rfl,rfl⟩) hHeld ?_
     try simp only [zz]
     refine tq 10 (v:=.bool true) rfl hHeld ?_
     try simp only [zz]
     refine tq 11 (v:=.bool true) rfl hHeld ?_
     try simp only [zz]
     refine tk 12 (v:=undef) rfl (Or.inr ⟨by rfl,rfl⟩) hHeld ?_
     try simp only [zz]
     refine tk 13 (v:=undef) rfl (Or.inr ⟨by rfl,rfl⟩) hHeld ?_
     try simp only [zz]
     refine tq 14 (v:=.bool true) rfl hHeld ?_
     try simp only [zz]
     refine tq 15 (v:=.bool true) rfl hHeld ?_
     try simp only [zz]
     refine tk 16 (v:=undef) rfl (Or.inr ⟨by rfl,rfl⟩) hHeld ?_
     try simp only [zz]
     refine tk 17 (v:=undef) rfl (Or.inr ⟨by rfl,rfl⟩) hHeld ?_
     try simp only [zz]
     refine tk 18 (v:=undef) rfl (Or.inr ⟨by rfl,rfl⟩) hHeld ?_
     try simp only [zz]
     refine tk 19 (v:=undef) rfl (Or.inr ⟨by rfl,rfl⟩) hHeld ?_
     try simp only [zz]
     refine tk 20 (v:=undef) rfl (Or.inr ⟨by rfl,rfl⟩) hHeld ?_
     try simp only [zz]
     refine tk 21 (v:=undef) rfl (Or.inr ⟨by rfl,rfl⟩) hHeld ?_
     try simp only [zz]
     refine tk 22 (v:=undef) rfl (Or.inr ⟨by rfl,rfl⟩) hHeld ?_
     try simp only [zz]
     refine tk 23 (v:=undef) rfl (Or.inr ⟨by rfl,rfl⟩) hHeld ?_
     try simp only [zz]
     refine tq 24 (v:=.bool true) rfl hHeld ?_
     try simp only [zz]
     refine wpAnyH_done (by kernel_rfl) ?_ _
     clear hHeld
     have HE:Hid (ROK=false∧Below w.heap.size w d0):=⟨HNK.out HFALSE.out,HEND.out _ N2⟩
     go_wp2
     go_ret
     exact ⟨ret_bool HE.out.1.symm,HE.out.2⟩
    ·have hAn:ah<t.tx:=by omega
     have HGE:Hid (0≤t.tx):=by have:=hah.out;rw [Hid];omega
     by_cases hB:e.next≤t.tx
     ·have HFALSE:Hid (txAt e.v k=false):=by
       have:inB t.tx 1 (e.next-1)=false:=by unfold inB;exact decide_eq_false (by omega)
       rw [Hid,HTK.out,this];rfl
      refine wp_region_held_drew (S:=fun u=>(u.cell? ⟨wr.heap.size,0,none⟩=some (.int .i64 t.tx)∧u.cell? ⟨wr.heap.size,1,none⟩=some (.int .i64 t.last)∧u.cell? ⟨wr.heap.size,2,none⟩=some (.bool ab)∧u.cell? ⟨w.heap.size,142,none⟩=some (.int .i64 e.next)∧u.rangeAt w.heap.size 138 e.log.cells)) (by kernel_rfl) (HS.out _ D0) (fun hHeld=>?_)
      generalize V.drew=d0 at*
      refine tq 0 (v:=.pointer (some ⟨wr.heap.size,0,none⟩)) rfl hHeld ?_
      try simp only [zz]
      refine tk 1 (v:=.int .i64 t.tx) rfl (Or.inl ⟨by rfl,?_⟩) hHeld ?_
      ·intro w' hSw
       have hx:=hSw.1
       go_simp<;>rfl
      try simp only [zz]
      refine tq 2 (v:=.int .i64 ah) rfl hHeld ?_
      try simp only [zz]
      refine tq 3 (v:=.bool false) rfl hHeld ?_
      try simp only [zz]
      refine tq 4 (v:=.bool false) rfl hHeld ?_
      try simp only [zz]
      refine tq 5 (v:=.pointer (some ⟨wr.heap.size,0,none⟩)) rfl hHeld ?_
      try simp only [zz]
      refine tk 6 (v:=.int .i64 t.tx) rfl (Or.inl ⟨by rfl,?_⟩) hHeld ?_
      ·intro w' hSw
       have hx:=hSw.1
       go_simp<;>rfl
      try simp only [zz]
      refine tq 7 (v:=.pointer (some ⟨w.heap.size,142,none⟩)) rfl hHeld ?_
      try simp only [zz]
      refine tk 8 (v:=.int .i64 e.next) rfl (Or.inl ⟨by rfl,?_⟩) hHeld ?_
      ·intro w' hSw
       have hx:=hSw.2.2.2.1
       go_simp<;>rfl
      try simp only [zz]
      refine tq 9 (v:=.bool true) rfl hHeld ?_
      try simp only [zz]
      refine tq 10 (v:=.bool true) rfl hHeld ?_
      try simp only [zz]
      refine tq 11 (v:=.bool true) rfl hHeld ?_
      try simp only [zz]
      refine tk 12 (v:=undef) rfl (Or.inr ⟨by rfl,rfl⟩) hHeld ?_
      try simp only [zz]
      refine tk 13 (v:=undef) rfl (Or.inr ⟨by rfl,rfl⟩) hHeld ?_
      try simp only [zz]
      refine tq 14 (v:=.bool true) rfl hHeld ?_
      try simp only [zz]
      refine tq 15 (v:=.bool true) rfl hHeld ?_
      try simp only [zz]
      refine tk 16 (v:=undef) rfl (Or.inr ⟨by rfl,rfl⟩) hHeld ?_
      try simp only [zz]
      refine tk 17 (v:=undef) rfl (Or.inr ⟨by rfl,rfl⟩) hHeld ?_
      try simp only [zz]
      refine tk 18 (v:=undef) rfl (Or.inr ⟨by rfl,rfl⟩) hHeld ?_
      try simp only [zz]
      refine tk 19 (v:=undef) rfl (Or.inr ⟨by rfl,rfl⟩) hHeld ?_
      try simp only [zz]
      refine tk 20 (v:=undef) rfl (Or.inr ⟨by rfl,rfl⟩) hHeld ?_
      try simp only [zz]
      refine tk 21 (v:=undef) rfl (Or.inr ⟨by rfl,rfl⟩) hHeld ?_
      try simp only [zz]
      refine tk 22 (v:=undef) rfl (Or.inr ⟨by rfl,rfl⟩) hHeld ?_
      try simp only [zz]
      refine tk 23 (v:=undef) rfl (Or.inr ⟨by rfl,rfl⟩) hHeld ?_
      try simp only [zz]
      refine tq 24 (v:=.bool true) rfl hHeld ?_
      try simp only [zz]
      refine wpAnyH_done (by kernel_rfl) ?_ _
      clear hHeld
      have HE:Hid (ROK=false∧Below w.heap.size w d0):=⟨HNK.out HFALSE.out,HEND.out _ N2⟩
      go_wp2
      go_ret
      exact ⟨ret_bool HE.out.1.symm,HE.out.2⟩
     ·have hBn:t.tx<e.next:=by omega
      have HIN:Hid (inB t.tx 1 (e.next-1)=true):=by have:=hah.out;rw [Hid];unfold inB;exact decide_eq_true (by omega)
      have HPR:Hid ((decide (k=0) || decide ((e.txs.getD (k-1) zeroL).tx<t.tx))=true):=by
       rcases HAK.out with ⟨q,_⟩ | ⟨q,h1⟩
       ·rw [Hid,decide_eq_true q];rfl
       ·rw [Hid,decide_eq_true (show (e.txs.getD (k-1) zeroL).tx<t.tx by omega),Bool.or_true]
      obtain ⟨lst,HLT⟩:∃ lst,Hid ((chainOf e.log.v t.tx).headD 0=lst):=⟨_,rfl⟩
      have HLE:Hid (lastOf (e.log.recs.map RecA.v) t.tx=lst):=by have:=hah.out;rw [Hid,← HLT.out];exact (HLH.out t.tx (by omega)).symm
      cases ab with
      | true=>
       have HFALSE:Hid (txAt e.v k=false):=by rw [Hid,HTK.out,HIN.out,hab.out];rfl
       refine wp_region_held_drew (S:=fun u=>(u.cell? ⟨wr.heap.size,0,none⟩=some (.int .i64 t.tx)∧u.cell? ⟨wr.heap.size,1,none⟩=some (.int .i64 t.last)∧u.cell? ⟨wr.heap.size,2,none⟩=some (.bool true)∧u.cell? ⟨w.heap.size,142,none⟩=some (.int .i64 e.next)∧u.rangeAt w.heap.size 138 e.log.cells)) (by kernel_rfl) (HS.out _ D0) (fun hHeld=>?_)
       generalize V.drew=d0 at*
       refine tq 0 (v:=.pointer (some ⟨wr.heap.size,0,none⟩)) rfl hHeld ?_
       try simp only [zz]
       refine tk 1 (v:=.int .i64 t.tx) rfl (Or.inl ⟨by rfl,?_⟩) hHeld ?_
       ·intro w' hSw
        have hx:=hSw.1
        go_simp<;>rfl
       try simp only [zz]
       refine tq 2 (v:=.int .i64 ah) rfl hHeld ?_
       try simp only [zz]
       refine tq 3 (v:=.bool false) rfl hHeld ?_
       try simp only [zz]
       refine tq 4 (v:=.bool false) rfl hHeld ?_
       try simp only [zz]
       refine tq 5 (v:=.pointer (some ⟨wr.heap.size,0,none⟩)) rfl hHeld ?_
       try simp only [zz]
       refine tk 6 (v:=.int .i64 t.tx) rfl (Or.inl ⟨by rfl,?_⟩) hHeld ?_
       ·intro w' hSw
        have hx:=hSw.1
        go_simp<;>rfl
       try simp only [zz]
       refine tq 7 (v:=.pointer (some ⟨w.heap.size,142,none⟩)) rfl hHeld ?_
       try simp only [zz]
       refine tk 8 (v:=.int .i64 e.next) rfl (Or.inl ⟨by rfl,?_⟩) hHeld ?_
       ·intro w' hSw
        have hx:=hSw.2.2.2.1
        go_simp<;>rfl
       try simp only [zz]
       refine tq 9 (v:=.bool false) rfl hHeld ?_
       try simp only [zz]
       refine tq 10 (v:=.bool false) rfl hHeld ?_
       try simp only [zz]
       refine tq 11 (v:=.bool false) rfl hHeld ?_
       try simp only [zz]
       refine tq 12 (v:=.pointer (some ⟨wr.heap.size,2,none⟩)) rfl hHeld ?_
       try simp only [zz]
       refine tk 13 (v:=.bool true) rfl (Or.inl ⟨by rfl,?_⟩) hHeld ?_
       ·intro w' hSw
        have hx:=hSw.2.2.1
        go_simp<;>rfl
       try simp only [zz]
       refine tq 14 (v:=.bool true) rfl hHeld ?_
       try simp only [zz]
       refine tq 15 (v:=.bool true) rfl hHeld ?_
       try simp only [zz]
       refine tk 16 (v:=undef) rfl (Or.inr ⟨by rfl,rfl⟩) hHeld ?_
       try simp only [zz]
       refine tk 17 (v:=undef) rfl (Or.inr ⟨by rfl,rfl⟩) hHeld ?_
       try simp only [zz]
       refine tk 18 (v:=undef) rfl (Or.inr ⟨by rfl,rfl⟩) hHeld ?_
       try simp only [zz]
       refine tk 19 (v:=undef) rfl (Or.inr ⟨by rfl,rfl⟩) hHeld ?_
       try simp only [zz]
       refine tk 20 (v:=undef) rfl (Or.inr ⟨by rfl,rfl⟩) hHeld ?_
       try simp only [zz]
       refine tk 21 (v:=undef) rfl (Or.inr ⟨by rfl,rfl⟩) hHeld ?_
       try simp only [zz]
       refine tk 22 (v:=undef) rfl (Or.inr ⟨by rfl,rfl⟩) hHeld ?_
       try simp only [zz]
       refine tk 23 (v:=undef) rfl (Or.inr ⟨by rfl,rfl⟩) hHeld ?_
       try simp only [zz]
       refine tq 24 (v:=.bool true) rfl hHeld ?_
       try simp only [zz]
       refine wpAnyH_done (by kernel_rfl) ?_ _
       clear hHeld
       have HE:Hid (ROK=false∧Below w.heap.size w d0):=⟨HNK.out HFALSE.out,HEND.out _ N2⟩
       go_wp2
       go_ret
       exact ⟨ret_bool HE.out.1.symm,HE.out.2⟩
      | false=>
       by_cases hD:t.last=lst
       ·have hDb:(t.last != lst)=false:=by simp [hD]
        have HTRUE:Hid (∀ j,j<k+1→txAt e.v j=true):=fun j hj=>by
         by_cases q:j=k
         ·rw [q,HTK.out,HIN.out,hab.out,HLE.out,decide_eq_true hD,HPR.out];rfl
         ·exact hall.out j (by omega)
        clear hD
        refine wp_region_held_drew (S:=fun u=>(u.cell? ⟨wr.heap.size,0,none⟩=some (.int .i64 t.tx)∧u.cell? ⟨wr.heap.size,1,none⟩=some (.int .i64 t.last)∧u.cell? ⟨wr.heap.size,2,none⟩=some (.bool false)∧u.cell? ⟨w.heap.size,142,none⟩=some (.int .i64 e.next)∧u.rangeAt w.heap.size 138 e.log.cells)) (by kernel_rfl) (HS.out _ D0) (fun hHeld=>?_)
        generalize V.drew=d0 at*
        refine tq 0 (v:=.pointer (some ⟨wr.heap.size,0,none⟩)) rfl hHeld ?_
        try simp only [zz]
        refine tk 1 (v:=.int .i64 t.tx) rfl (Or.inl ⟨by rfl,?_⟩) hHeld ?_
        ·intro w' hSw
         have hx:=hSw.1
         go_simp<;>rfl
        try simp only [zz]
        refine tq 2 (v:=.int .i64 ah) rfl hHeld ?_
        try simp only [zz]
        refine tq 3 (v:=.bool false) rfl hHeld ?_
        try simp only [zz]
        refine tq 4 (v:=.bool false) rfl hHeld ?_
        try simp only [zz]
        refine tq 5 (v:=.pointer (some ⟨wr.heap.size,0,none⟩)) rfl hHeld ?_
        try simp only [zz]
        refine tk 6 (v:=.int .i64 t.tx) rfl (Or.inl ⟨by rfl,?_⟩) hHeld ?_
        ·intro w' hSw
         have hx:=hSw.1
         go_simp<;>rfl
        try simp only [zz]
        refine tq 7 (v:=.pointer (some ⟨w.heap.size,142,none⟩)) rfl hHeld ?_
        try simp only [zz]
        refine tk 8 (v:=.int .i64 e.next) rfl (Or.inl ⟨by rfl,?_⟩) hHeld ?_
        ·intro w' hSw
         have hx:=hSw.2.2.2.1
         go_simp<;>rfl
        try simp only [zz]
        refine tq 9 (v:=.bool false) rfl hHeld ?_
        try simp only [zz]
        refine tq 10 (v:=.bool false) rfl hHeld ?_
        try simp only [zz]
        refine tq 11 (v:=.bool false) rfl hHeld ?_
        try simp only [zz]
        refine tq 12 (v:=.pointer (some ⟨wr.heap.size,2,none⟩)) rfl hHeld ?_
        try simp only [zz]
        refine tk 13 (v:=.bool false) rfl (Or.inl ⟨by rfl,?_⟩) hHeld ?_
        ·intro w' hSw
         have hx:=hSw.2.2.1
         go_simp<;>rfl
        try simp only [zz]
        refine tq 14 (v:=.bool false) rfl hHeld ?_
        try simp only [zz]
        refine tq 15 (v:=.bool false) rfl hHeld ?_
        try simp only [zz]
        refine tq 16 (v:=.pointer (some ⟨wr.heap.size,1,none⟩)) rfl hHeld ?_
        try simp only [zz]
        refine tk 17 (v:=.int .i64 t.last) rfl (Or.inl ⟨by rfl,?_⟩) hHeld ?_
        ·intro w' hSw
         have hx:=hSw.2.1
         go_simp<;>rfl
        try simp only [zz]
        refine tq 18 (v:=.pointer (some ⟨w.heap.size,138,none⟩)) rfl hHeld ?_
        try simp only [zz]
        refine tk 19 rfl (yieldsIf_load_mid (by rfl) _ _ rfl _ _ rfl (e.log.cells) _ (fun _ h=>h.2.2.2.2) Tryz.underlying55 rfl (log_info _)) hHeld ?_
        try simp only [zz]
        refine tq 20 (v:=.pointer (some ⟨wr.heap.size,0,none⟩)) rfl hHeld ?_
        try simp only [zz]
        refine tk 21 (v:=.int .i64 t.tx) rfl (Or.inl ⟨by rfl,?_⟩) hHeld ?_
        ·intro w' hSw
         have hx:=hSw.1
         go_simp<;>rfl
        try simp only [zz]
        refine wpAnyH_ready (rs:=[22]) (by kernel_rfl) (by simp) ?_
        refine AllReadyH.cons rfl (fun K hK=>?_) AllReadyH.nil
        go_simp
        refine (CL _ D0).mono ?_
        rintro r d1 ⟨rfl,hb1⟩
        have D1:Below V.heap.size V d1:=D0.trans (hb1.mono D0.size)
        have N3:Below W.heap.size W d1:=nV.trans (D1.mono nV.size)
        rw [HLT.out]
        refine hK.out _ _ (HS.out _ D1) (fun hHeld=>?_)
        clear hK K hb1
        try simp only [zz]
        refine tq 23 (v:=.bool false) rfl hHeld ?_
        try simp only [zz]
        refine tq 24 (v:=.bool false) rfl hHeld ?_
        try simp only [zz]
        refine wpAnyH_done (by kernel_rfl) ?_ _
        clear hHeld
        have y0:=(HS.out _ D1).1
        go_wp2_with fail
        go_roundw
        case rel=>exact ⟨k+1,by omega,by go_num,by rw [HAN.out],HTRUE,by rw [Hid,HAN.out];exact HGE.out,N3⟩
        case measure=>simp [intOf];omega
       ·have hDb:(t.last != lst)=true:=by simpa using hD
        have HFALSE:Hid (txAt e.v k=false):=by rw [Hid,HTK.out,HIN.out,hab.out,HLE.out,decide_eq_false hD];rfl
        clear hD
        refine wp_region_held_drew (S:=fun u=>(u.cell? ⟨wr.heap.size,0,none⟩=some (.int .i64 t.tx)∧u.cell? ⟨wr.heap.size,1,none⟩=some (.int .i64 t.last)∧u.cell? ⟨wr.heap.size,2,none⟩=some (.bool false)∧u.cell? ⟨w.heap.size,142,none⟩=some (.int .i64 e.next)∧u.rangeAt w.heap.size 138 e.log.cells)) (by kernel_rfl) (HS.out _ D0) (fun hHeld=>?_)
        generalize V.drew=d0 at*
        refine tq 0 (v:=.pointer (some ⟨wr.heap.size,0,none⟩)) rfl hHeld ?_
        try simp only [zz]
        refine tk 1 (v:=.int .i64 t.tx) rfl (Or.inl ⟨by rfl,?_⟩) hHeld ?_
        ·intro w' hSw
         have hx:=hSw.1
         go_simp<;>rfl
        try simp only [zz]
        refine tq 2 (v:=.int .i64 ah) rfl hHeld ?_
        try simp only [zz]
        refine tq 3 (v:=.bool false) rfl hHeld ?_
        try simp only [zz]
        refine tq 4 (v:=.bool false) rfl hHeld ?_
        try simp only [zz]
        refine tq 5 (v:=.pointer (some ⟨wr.heap.size,0,none⟩)) rfl hHeld ?_
        try simp only [zz]
        refine tk 6 (v:=.int .i64 t.tx) rfl (Or.inl ⟨by rfl,?_⟩) hHeld ?_
        ·intro w' hSw
         have hx:=hSw.1
         go_simp<;>rfl
        try simp only [zz]
        refine tq 7 (v:=.pointer (some ⟨w.heap.size,142,none⟩)) rfl hHeld ?_
        try simp only [zz]
        refine tk 8 (v:=.int .i64 e.next) rfl (Or.inl ⟨by rfl,?_⟩) hHeld ?_
        ·intro w' hSw
         have hx:=hSw.2.2.2.1
         go_simp<;>rfl
        try simp only [zz]
        refine tq 9 (v:=.bool false) rfl hHeld ?_
        try simp only [zz]
        refine tq 10 (v:=.bool false) rfl hHeld ?_
        try simp only [zz]
        refine tq 11 (v:=.bool false) rfl hHeld ?_
        try simp only [zz]
        refine tq 12 (v:=.pointer (some ⟨wr.heap.size,2,none⟩)) rfl hHeld ?_
        try simp only [zz]
        refine tk 13 (v:=.bool false) rfl (Or.inl ⟨by rfl,?_⟩) hHeld ?_
        ·intro w' hSw
         have hx:=hSw.2.2.1
         go_simp<;>rfl
        try simp only [zz]
        refine tq 14 (v:=.bool false) rfl hHeld ?_
        try simp only [zz]
        refine tq 15 (v:=.bool false) rfl hHeld ?_
        try simp only [zz]
        refine tq 16 (v:=.pointer (some ⟨wr.heap.size,1,none⟩)) rfl hHeld ?_
        try simp only [zz]
        refine tk 17 (v:=.int .i64 t.last) rfl (Or.inl ⟨by rfl,?_⟩) hHeld ?_
        ·intro w' hSw
         have hx:=hSw.2.1
         go_simp<;>rfl
        try simp only [zz]
        refine tq 18 (v:=.pointer (some ⟨w.heap.size,138,none⟩)) rfl hHeld ?_
        try simp only [zz]
        refine tk 19 rfl (yieldsIf_load_mid (by rfl) _ _ rfl _ _ rfl (e.log.cells) _ (fun _ h=>h.2.2.2.2) Tryz.underlying55 rfl (log_info _)) hHeld ?_
        try simp only [zz]
        refine tq 20 (v:=.pointer (some ⟨wr.heap.size,0,none⟩)) rfl hHeld ?_
        try simp only [zz]
        refine tk 21 (v:=.int .i64 t.tx) rfl (Or.inl ⟨by rfl,?_⟩) hHeld ?_
        ·intro w' hSw
         have hx:=hSw.1
         go_simp<;>rfl
        try simp only [zz]
        refine wpAnyH_ready (rs:=[22]) (by kernel_rfl) (by simp) ?_
        refine AllReadyH.cons rfl (fun K hK=>?_) AllReadyH.nil
        go_simp
        refine (CL _ D0).mono ?_
        rintro r d1 ⟨rfl,hb1⟩
        have D1:Below V.heap.size V d1:=D0.trans (hb1.mono D0.size)
        have N3:Below W.heap.size W d1:=nV.trans (D1.mono nV.size)
        rw [HLT.out]
        refine hK.out _ _ (HS.out _ D1) (fun hHeld=>?_)
        clear hK K hb1
        try simp only [zz]
        refine tq 23 (v:=.bool true) rfl hHeld ?_
        try simp only [zz]
        refine tq 24 (v:=.bool true) rfl hHeld ?_
        try simp only [zz]
        refine wpAnyH_done (by kernel_rfl) ?_ _
        clear hHeld
        have HE:Hid (ROK=false∧Below w.heap.size w d1):=⟨HNK.out HFALSE.out,HEND.out _ N3⟩
        go_wp2
        go_ret
        exact ⟨ret_bool HE.out.1.symm,HE.out.2⟩
   ·have e1:k=e.txs.length:=by omega
    have HE:Hid (ROK=true∧Below w.heap.size w wr):=⟨HY6.out (by rw [e1] at hall;exact hall.out),HEND.out _ hbr⟩
    have hge:¬ (k:Int)<(e.txs.length:Int):=by omega
    clear hall e1
    go_wp2
    go_ret
    exact ⟨ret_bool HE.out.1.symm,HE.out.2⟩
 ·have h6i:(6:Int)<(e.txs.length:Int):=by omega
  have HE:Hid (ROK=false∧Below w.heap.size w W):=⟨HLONG.out h6,HEND.out _ N⟩
  clear h6
  go_wp2
  go_ret
  exact ⟨ret_bool HE.out.1.symm,HE.out.2⟩
end Go.Proofs.YtnoeobahjbdoiaaGreatDoor