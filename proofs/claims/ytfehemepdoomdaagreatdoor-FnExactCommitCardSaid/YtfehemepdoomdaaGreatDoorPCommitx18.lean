/- Several texts in one, in their order. -/
import Derived.Test.YtfehemepdoomdaaGreatDoorPCommitx17
import Derived.Test.YtfehemepdoomdaaGreatDoorPCommitx1
set_option maxHeartbeats 8000000
set_option maxRecDepth 100000
namespace Go.Proofs.YtfehemepdoomdaaGreatDoor
open Go.RowKit Go.Maps Go.MapKept
theorem liveFrom_hit (tx:Int) (ls:List LiveV):∀ (i k:Nat),k<ls.length→liveFrom tx ls i=((i+k:Nat):Int)→(ls.getD k zeroL).tx=tx:=by
 induction ls with
 | nil=>intro i k hk;simp at hk
 | cons l r ih=>
  intro i k hk h
  by_cases q:l.tx=tx
  ·rw [liveFrom,if_pos q] at h
   obtain rfl:k=0:=by omega
   exact q
  ·rw [liveFrom,if_neg q] at h
   cases k with
   | zero=>
    rcases liveFrom_lt tx r (i+1) with h1 | ⟨j,h1,_⟩
    ·rw [h1] at h;omega
    ·rw [h1] at h;omega
   | succ k=>
    have:=ih (i+1) k (by simpa using hk) (by rw [h];congr 1;omega)
    simpa using this
theorem ErrT.step {M:Nat} {n:Int} {R:Nat} {e e':EngA} {w w':World} (h:ErrT w) (s:RunStep M n R e w e' w') (hG:Off R e 0):ErrT w':=by
 have:=s.block h.lt hG
 unfold ErrT at h ⊢
 rw [World.cell?_of_block this]
 exact h
def commitR (e:EngV) (k:Nat):EngV:=
 { addV { addV e (recE (e.txs.getD k zeroL).tx (e.txs.getD k zeroL).last 2).v with txs:=e.txs.set k { (e.txs.getD k zeroL) with last:=(e.log.recs.length:Int)+1 },log:=(addV e (recE (e.txs.getD k zeroL).tx (e.txs.getD k zeroL).last 2).v).log.upTo ((e.log.recs.length:Int)+1) } (recE (e.txs.getD k zeroL).tx ((e.log.recs.length:Int)+1) 5).v with txs:=e.txs.filter (fun l=>l.tx != (e.txs.getD k zeroL).tx) }
theorem runCommit_any (M:Nat) (n:Int) (R:Nat) (e:EngA) (tx:Int) (ms:List ClaimV) (w:World) (h:RunAt M n w R e) (hg:ErrT w) (hG:Off R e 0) (hl:e.log.recs.length≤3980) (hlt:e.txs.length≤1000) (hs:e.log.sure≤e.log.recs.length) (hm:MapAt w M ms) (hM:Off R e M)
  (hok2:∀ k,k<e.txs.length→okR (lsnR (recE (e.txs.getD k zeroL).tx (e.txs.getD k zeroL).last 2).v ((e.log.recs.length:Int)+1))=true)
  (hok5:∀ k,k<e.txs.length→okR (lsnR (recE (e.txs.getD k zeroL).tx ((e.log.recs.length:Int)+1) 5).v ((e.log.recs.length:Int)+2))=true):
  Calls Tryz.prog 26 #[.pointer (some ⟨R,0,none⟩),.int .i64 tx] w fun r w'=>(liveOf e.txs tx= -1∧r=.returned (.int .i64 2)∧w'=w)∨∃ k:Nat,k<e.txs.length∧liveOf e.txs tx=(k:Int)∧(e.txs.getD k zeroL).tx=tx∧r=.returned (.int .i64 0)∧∃ e',Hid (e'.v=commitR e.v k)∧RunAt M n w' R e'∧MapAt w' M (delTo tx ms 31)∧Touch (M::R::e.blocks) w w'∧(∀ k∈e'.blocks,k∈e.blocks∨w.heap.size≤k):=by
 have CL:=live_any R e h.shape M n tx w h.box h.own.txs.reads (by omega)
 have HGO:Hid (∀ (k g:Nat),k<e.txs.length→e.aT=some ⟨g,0,none⟩→liveOf e.txs tx=(k:Int)→∀ u,Below w.heap.size w u→
   Calls Tryz.prog 65 #[.pointer (some ⟨R,0,none⟩),.pointer (some ⟨g,k*3,none⟩),.agg (recE 0 0 2).cells.toArray] u fun r w1=>r=.returned (.int .i64 ((e.log.recs.length:Int)+1))∧
    Calls Tryz.prog 64 #[.pointer (some ⟨R,138,none⟩),.int .i64 ((e.log.recs.length:Int)+1)] w1 fun r w2=>(∃ v,r=.returned v)∧
     Calls Tryz.prog 66 #[.pointer (some ⟨R,0,none⟩),.pointer (some ⟨g,k*3,none⟩)] w2 fun r w'=>(∃ v,r=.returned v)∧Hid ((e.txs.getD k zeroL).tx=tx∧∃ e',Hid (e'.v=commitR e.v k)∧RunAt M n w' R e'∧MapAt w' M (delTo tx ms 31)∧Touch (M::R::e.blocks) w w'∧(∀ k∈e'.blocks,k∈e.blocks∨w.heap.size≤k))):=by
  intro k g hk hga hlv u hu
  have htx:(e.txs.getD k zeroL).tx=tx:=liveFrom_hit tx e.txs 0 k hk (by rw [Nat.zero_add];exact hlv)
  have h5:=hok5 k hk
  refine (runTell_any M n R e k 2 u (h.below hu) (hg.keep hu) hk g hga (by omega) (hok2 k hk)).mono ?_
  rintro r w1 ⟨rfl,e1,HV,ha1,s1⟩
  have t1:e1.txs=e.txs.set k { (e.txs.getD k zeroL) with last:=(e.log.recs.length:Int)+1 }:=v_txs HV.out
  have r1:e1.log.recs.length=e.log.recs.length+1:=by rw [v_recs_len HV.out];simp [addV,EngA.v,LogA.v]
  have su1:e1.log.sure=e.log.sure:=congrArg (fun x:EngV=>x.log.sure) HV.out
  refine ⟨rfl,(runForce_any M n R e1 ((e.log.recs.length:Int)+1) w1 s1.at' (by omega)).mono ?_⟩
  rintro r w2 ⟨hr,s2,_⟩
  refine ⟨hr,?_⟩
  have s12:=s1.trans s2
  have z1:(e1.withLog (e1.log.upTo ((e.log.recs.length:Int)+1))).txs.getD k zeroL={ (e.txs.getD k zeroL) with last:=(e.log.recs.length:Int)+1 }:=by
   show e1.txs.getD k zeroL=_
   rw [t1,List.getD,List.getElem?_set_self hk]
   rfl
  have hsz:=hu.size
  have hMu:M<u.heap.size:=by have:=hm.lt;omega
  have hm2:MapAt w2 M ms:=by
   obtain ⟨es,clock,q1,q2⟩:=hm.below hu
   exact ⟨es,clock,by rw [s12.block hMu hM];exact q1,q2⟩
  refine (runEnd_any M n R (e1.withLog (e1.log.upTo ((e.log.recs.length:Int)+1))) k ms w2 s2.at' (ErrT.step (hg.keep hu) s12 hG) (by show k<e1.txs.length;rw [t1,List.length_set];exact hk) g (by show e1.aT=_;rw [ha1];exact hga) (by show e1.log.recs.length≤_;omega) (by show e1.txs.length≤_;rw [t1,List.length_set];exact hlt) hm2 (s12.off hMu hM) ?_).mono ?_
  ·rw [z1]
   show okR (lsnR (recE (e.txs.getD k zeroL).tx ((e.log.recs.length:Int)+1) 5).v ((e1.log.recs.length:Int)+1))=true
   rw [r1,show ((e.log.recs.length+1:Nat):Int)+1=(e.log.recs.length:Int)+2 by omega]
   exact h5
  ·rintro r w' ⟨hr',e',HV',a',m',t',f',_⟩
   rw [z1] at HV' m'
   have s0:=EngStepG.after hu s12
   refine ⟨hr',htx,e',?_,a',by rw [← htx];exact m',?_,fun j hj=>?_⟩
   ·rw [Hid,HV'.out]
    have q:(e1.withLog (e1.log.upTo ((e.log.recs.length:Int)+1))).v={ e1.v with log:=e1.v.log.upTo ((e.log.recs.length:Int)+1) }:=by
     show ({ e1.v with log:=(e1.log.upTo ((e.log.recs.length:Int)+1)).v }:EngV)=_
     rw [LogA.upTo_v]
     rfl
    rw [q,HV.out]
    have q2:(e1.withLog (e1.log.upTo ((e.log.recs.length:Int)+1))).txs=e1.txs:=rfl
    rw [q2,t1]
    have q3:=filter_set_out (fun l:LiveV=>l.tx != (e.txs.getD k zeroL).tx) e.txs k { (e.txs.getD k zeroL) with last:=(e.log.recs.length:Int)+1 } zeroL (by simp) (by simp)
    have hL:e.v.log.recs.length=e.log.recs.length:=by simp [EngA.v,LogA.v]
    have hT:e.v.txs=e.txs:=rfl
    unfold commitR
    rw [hL,hT,← q3]
   ·refine ⟨t'.os.trans s0.touch.os,t'.tape.trans s0.touch.tape,t'.output.trans s0.touch.output,Nat.le_trans s0.size t'.size,fun j hj hn=>?_⟩
    rw [t'.block j (Nat.lt_of_lt_of_le hj s0.size) (fun hh=>?_)]
    ·exact s0.touch.block j hj (fun hh=>hn (List.mem_cons_of_mem _ hh))
    ·rcases List.mem_cons.1 hh with q | q
     ·exact hn (by rw [q];exact List.mem_cons_self)
     ·rcases List.mem_cons.1 q with q | q
      ·exact hn (by rw [q];exact List.mem_cons_of_mem _ List.mem_cons_self)
      ·rcases s0.fresh j q with q | q
       ·exact hn (List.mem_cons_of_mem _ (List.mem_cons_of_mem _ q))
       ·omega
   ·rcases f' j hj with q | q
    ·exact s0.fresh j q
    ·exact .inr (Nat.le_trans s0.size q)
 have CL2:Calls Tryz.prog 63 #[.pointer (some ⟨R,0,none⟩),.int .i64 tx] w fun r w'=>w'=w∧((r=.returned (.pointer none)∧liveOf e.txs tx= -1)∨∃ (k g:Nat),k<e.txs.length∧liveOf e.txs tx=(k:Int)∧e.aT=some ⟨g,0,none⟩∧r=.returned (.pointer (some ⟨g,k*3,none⟩))):=by
  refine CL.mono ?_
  rintro r w' ⟨rfl,q | ⟨k,g,off,hk,hlv,ha,rfl⟩⟩
  ·exact ⟨rfl,.inl q⟩
  ·have:off=0:=by
    rcases h.own.txs.1.2 with ⟨_,h0⟩ | ⟨g1,cap',cur,hv,_⟩
    ·omega
    ·simp only [Value.slice.injEq] at hv
     rw [ha] at hv
     simp only [Option.some.injEq,Addr.mk.injEq] at hv
     exact hv.1.2.1
   subst this
   exact ⟨rfl,.inr ⟨k,g,hk,hlv,ha,by rw [Nat.zero_add]⟩⟩
 clear CL h hg hG hl hlt hs hm hM hok2 hok5
 go_enter Tryz.func26,Tryz.ntmps26
 go_wp2_with fail
 refine CL2.mono ?_
 clear CL2
 rintro r w0 ⟨rfl,⟨rfl,hlv⟩ | ⟨k,g,hk,hlv,ha,rfl⟩⟩
 ·go_wp2_with fail
  go_ret
  exact .inl ⟨hlv,rfl,rfl⟩
 ·have C:=HGO.out k g hk ha hlv w0.drew ((Below.refl _ _).drew)
  have HL:Hid (_=_):=hlv
  clear HGO ha hlv
  go_upto_region 4 with fail
  refine wp_region_held_drew (S:=fun _=>True) (by kernel_rfl) trivial (fun hHeld=>?_)
  generalize w0.drew=d0 at*
  refine tq 0 (v:=.pointer (some ⟨R,0,none⟩)) rfl hHeld ?_
  try simp only [zz]
  refine tq 1 (v:=.pointer (some ⟨R,0,none⟩)) rfl hHeld ?_
  try simp only [zz]
  refine tq 2 (v:=.pointer (some ⟨R,0,none⟩)) rfl hHeld ?_
  try simp only [zz]
  refine tq 3 (v:=.pointer (some ⟨R,138,none⟩)) rfl hHeld ?_
  try simp only [zz]
  refine tq 4 (v:=.pointer (some ⟨R,0,none⟩)) rfl hHeld ?_
  try simp only [zz]
  refine tq 5 (v:=.pointer (some ⟨g,k*3,none⟩)) rfl hHeld ?_
  try simp only [zz]
  refine tk 6 (v:=.agg (recE 0 0 2).cells.toArray) rfl (Or.inl ⟨by rfl,?_⟩) hHeld ?_
  ·intro w' hSw
   have hx:(Instr.build 99 #[(3,Value.int .i64 2)]).run Tryz.prog w'=.ok (.agg (recE 0 0 2).cells.toArray) w':=run_build w' _ _ _ (by kernel_rfl)
   go_simp<;>rfl
  try simp only [zz]
  refine wpAnyH_ready (rs:=[7]) (by kernel_rfl) (by simp) ?_
  refine AllReadyH.cons rfl (fun K hK=>?_) AllReadyH.nil
  go_simp
  refine C.mono ?_
  clear C
  rintro r w1 ⟨rfl,C2⟩
  refine hK.out _ _ trivial (fun hHeld=>?_)
  clear hK K
  try simp only [zz]
  refine wpAnyH_ready (rs:=[8]) (by kernel_rfl) (by simp) ?_
  refine AllReadyH.cons rfl (fun K hK=>?_) AllReadyH.nil
  go_simp
  refine C2.mono ?_
  clear C2
  rintro r w2 ⟨⟨v2,rfl⟩,C3⟩
  refine hK.out _ _ trivial (fun hHeld=>?_)
  clear hK K
  try simp only [zz]
  refine wpAnyH_done (by kernel_rfl) ?_ _
  clear hHeld
  go_wp2_with fail
  refine C3.mono ?_
  clear C3
  rintro r w3 ⟨⟨v3,rfl⟩,HE⟩
  go_wp2_with fail
  go_ret
  exact .inr ⟨k,hk,HL.out,HE.out.1,rfl,HE.out.2⟩
end Go.Proofs.YtfehemepdoomdaaGreatDoor
namespace Go.Proofs.YtfehemepdoomdaaGreatDoor
open Go.RowKit
theorem filter_lastV (ls:List LiveV) (tx n:Int):(lastV ls tx n).filter (fun l=>l.tx != tx)=ls.filter (fun l=>l.tx != tx):=by
 unfold lastV
 by_cases h:0≤liveOf ls tx
 ·rw [if_pos h]
  rcases live_cases ls tx with q | ⟨j,q,hj⟩
  ·omega
  ·have ht:(ls.getD j zeroL).tx=tx:=liveFrom_hit tx ls 0 j hj (by rw [Nat.zero_add];exact q)
   rw [q,Int.toNat_natCast]
   have hf:((ls.getD j zeroL).tx != tx)=false:=by rw [ht];simp
   exact filter_set_out _ ls j _ zeroL hf hf
 ·rw [if_neg h]
theorem okEng_last {e:EngV} (h:okEng e=true) (k:Nat) (hk:k<e.txs.length):(e.txs.getD k zeroL).last=lastOf e.log.recs (e.txs.getD k zeroL).tx:=by
 have h1:=okEng_tx h k hk
 unfold txAt at h1
 simp only [Bool.and_eq_true,decide_eq_true_eq] at h1
 exact h1.2.2.1
theorem commit_same {e:EngV} (h:okEng e=true) {tx:Int} {k:Nat} (hk:k<e.txs.length) (htx:(e.txs.getD k zeroL).tx=tx):{ commitR e k with holds:=e.holds.filter (fun l=>l.tx != tx) }=commitV e tx:=by
 have hlast:=okEng_last h k hk
 rw [htx] at hlast
 have e1:∀ p c,(recV tx p c).tx=tx:=fun _ _=>rfl
 unfold commitR commitV endsV
 simp only [logV,addV,e1,filter_lastV,htx,hlast]
 rfl
theorem recE_ok {tx prev n c:Int} (hc:c=2∨c=3∨c=5) (h1:1≤tx∧tx≤1000) (h2:0≤prev∧prev≤n-1) (h3:1≤n∧n≤1000000):okR (lsnR (recE tx prev c).v n)=true:=by
 have a1:inB n 1 1000000=true:=by simp only [inB,decide_eq_true_eq];omega
 have a2:inB tx 1 1000=true:=by simp only [inB,decide_eq_true_eq];omega
 have a3:inB prev 0 (n-1)=true:=by simp only [inB,decide_eq_true_eq];omega
 rcases hc with rfl | rfl | rfl<;>simp only [okR,lsnR,recE,RecA.v,a1,a2,a3]<;>rfl
theorem commit_ok2 {e:EngV} (h:okEng e=true) (hl:e.log.recs.length≤3980) (k:Nat) (hk:k<e.txs.length):okR (lsnR (recE (e.txs.getD k zeroL).tx (e.txs.getD k zeroL).last 2).v ((e.log.recs.length:Int)+1))=true:=by
 have hm:e.txs.getD k zeroL∈e.txs:=by
  have:e.txs.getD k zeroL=e.txs[k]:=by simp [List.getD,hk]
  rw [this];exact List.getElem_mem hk
 obtain ⟨q1,q2,_,_,q3,q4⟩:=okEng_live h _ hm
 exact recE_ok (.inl rfl) ⟨q1,q2⟩ ⟨q3,by omega⟩ ⟨by omega,by omega⟩
theorem commit_ok5 {e:EngV} (h:okEng e=true) (hl:e.log.recs.length≤3980) (k:Nat) (hk:k<e.txs.length):okR (lsnR (recE (e.txs.getD k zeroL).tx ((e.log.recs.length:Int)+1) 5).v ((e.log.recs.length:Int)+2))=true:=by
 have hm:e.txs.getD k zeroL∈e.txs:=by
  have:e.txs.getD k zeroL=e.txs[k]:=by simp [List.getD,hk]
  rw [this];exact List.getElem_mem hk
 obtain ⟨q1,q2,_,_,q3,q4⟩:=okEng_live h _ hm
 exact recE_ok (.inr (.inr rfl)) ⟨q1,q2⟩ ⟨by omega,by omega⟩ ⟨by omega,by omega⟩
end Go.Proofs.YtfehemepdoomdaaGreatDoor
namespace Go.Proofs.YtfehemepdoomdaaGreatDoor
open Go.RowKit
def commitAns (e:EngV) (tx:Int):EngV × Int:=if refuseV e true≠0 then (e,refuseV e true) else if liveOf e.txs tx= -1 then (e,2) else (commitV e tx,0)
theorem implCommit_any (e:EngA) (tx:Int) (se:e.shape) (w:World) (hg:ErrT w) (re:e.reads w) (hl:e.short 1048576) (hc:e.caps):
  Calls Tryz.prog 7 #[.agg e.cells.toArray,.int .i64 tx] w fun r w'=>EngOne (commitAns e.v tx) w r w':=by
 obtain ⟨Z,hZ⟩:∃ Z,Hid (zeroE=Z):=⟨_,rfl⟩
 have sZ:Z.shape:=by rw [← hZ.out];exact zeroE_shape
 have HZ:=Tryz.zeroEng
 rw [hZ.out] at HZ
 obtain ⟨W,hW,b0,bR,hbW,hsW⟩:=boxes2 w e.cells Z.cells 58 58
 have HB:Hid (∀ u,Below W.heap.size W u→Box u w.heap.size e.cells 58):=fun u hu=>b0.below hu b0.lt
 have HBR:Hid (∀ u,Below W.heap.size W u→Box u (w.heap.size+1) Z.cells 58):=fun u hu=>bR.below hu bR.lt
 have HR:Hid (∀ u,Below W.heap.size W u→e.reads u):=fun u hu=>(re.below hbW).below hu
 have HEND:Hid (∀ u,Below W.heap.size W u→Below w.heap.size w u):=fun u hu=>hbW.trans (hu.mono hbW.size)
 have HG:Hid (∀ u,Below W.heap.size W u→ErrT u):=fun u hu=>hg.keep (hbW.trans (hu.mono hbW.size))
 have hw0:w.heap.size+1<W.heap.size:=by omega
 have N0:Below W.heap.size W W:=Below.refl _ _
 have HIe:=eng_info se
 have r0:W.rangeAt w.heap.size 0 e.cells:=Box.range [] e.cells [] (by simpa using HB.out _ N0)
 have FIN:Hid (∀ (D:EngA) (u:World),D.shape→Below W.heap.size W u→D.own u W.heap.size u.heap.size→∃ WF,Hid (u.setCells (w.heap.size+1) 0 D.cells.toArray.toList=WF)∧Hid (u.there (w.heap.size+1) 0 D.cells.toArray.size)∧Hid ((loadVar 58 ⟨w.heap.size+1,0,none⟩).run Tryz.prog WF=.ok (.agg D.cells.toArray) WF)∧Hid (D.own WF w.heap.size WF.heap.size∧Below w.heap.size w WF)):=fun D u sD hu od=>by
  obtain ⟨WF,hWF,hwF,hsF,HTF,bF⟩:=eng_out sD sZ (HBR.out u hu)
  exact ⟨WF,hWF,HTF,eng_load sD bF,(od.within hwF (.inr (by omega))).widen (by omega) (by omega) (Nat.le_refl _),(HEND.out _ hu).trans (hwF.below (by omega) (by have:=hu.size;omega))⟩
 have C:=refusal_any e true se W (HG.out _ N0) (HR.out _ N0) hl
 clear b0 bR hsW
 go_enter Tryz.func7,Tryz.ntmps7
 go_upto_region 1 with (first | (guard_target=wpList _ _ _ (Oper.mk _ (Op.alloc _) _ _ _ _::_) _ _;refine alloc_of 58 Z.cells HZ ?_) | fail)
 rw [hW.out]
 clear hW
 go_wp2_with (first | (guard_target=wpList _ _ _ (Oper.mk (some 9) _ _ _ _ _::_) _ _;refine wpList_load_mid rfl 58 (.tmp 2) rfl w.heap.size 0 rfl (e.cells) _ (r0) Tryz.underlying58 rfl HIe ?_) | fail)
 refine C.mono ?_
 clear C r0
 rintro r d1 ⟨rfl,hb⟩
 have N1:Below W.heap.size W d1:=N0.trans (hb.mono N0.size)
 clear hb
 have r1:d1.rangeAt w.heap.size 0 e.cells:=Box.range [] e.cells [] (by simpa using HB.out _ N1)
 by_cases hz:refuseV e.v true=0
 rotate_left
 ·have HV:Hid (commitAns e.v tx=(e.v,refuseV e.v true)):=by rw [Hid,commitAns,if_pos hz]
  have hzb:(refuseV e.v true == 0)=false:=by simpa using hz
  have C:=copyEngine_any e se d1 (HR.out _ N1) hl hc
  generalize refuseV e.v true=RV at*
  go_wp2_with (first | (guard_target=wpList _ _ _ (Oper.mk (some 13) _ _ _ _ _::_) _ _;refine wpList_load_mid rfl 58 (.tmp 2) rfl w.heap.size 0 rfl (e.cells) _ (r1) Tryz.underlying58 rfl HIe ?_) | fail)
  refine C.mono ?_
  clear C r1
  rintro r d2 ⟨t,rfl,st,hv,ot,hb⟩
  have N2:Below W.heap.size W d2:=N1.trans (hb.mono N1.size)
  obtain ⟨WF,hWF,HTF,HLF,HE⟩:=FIN.out t d2 st N2 (ot.widen (by have:=N1.size;omega) (Nat.le_refl _) (Nat.le_refl _))
  have HIt:=eng_info st
  have HOt:=all_oneCell_toArray (oneE t)
  clear hb ot
  go_wp2_with (first | (guard_target=wpList _ _ _ (Oper.mk none (Op.store _ (Operand.tmp 4) _) _ _ _ _::_) _ _;refine wpList_store_mid rfl 58 (.tmp 4) (.tmp 14) rfl (w.heap.size+1) 0 (t.cells).toArray rfl rfl HTF.out (by rw [List.size_toArray];exact HIt) HOt ?_) | fail)
  rw [hWF.out]
  exact bodyPost_ret (v:=.tuple #[.agg t.cells.toArray,.int .i64 RV]) (results_cell_one Tryz.results7 rfl HLF.out rfl) rfl ⟨t,by rw [HV.out],st,by rw [HV.out];exact hv,HE.out.1,HE.out.2⟩
 have hok:=refuse_ok hz
 have HCO:Hid (ClaimsOk (claimsTo e.holds e.holds.length) e.holds):=okEng_holds hok
 have HOK:Hid (okEng e.v=true∧e.v.log.recs.length≤3800):=⟨hok,refuse_len hz⟩
 have HV:Hid (commitAns e.v tx=if liveOf e.v.txs tx= -1 then (e.v,2) else (commitV e.v tx,0)):=by rw [Hid,commitAns,if_neg (fun q=>q hz)]
 have C:=run_any e se d1 (HR.out _ N1) hl hc
 have hlH:=hl.holds
 rw [hz]
 clear hok hz
 go_wp2_with (first | (guard_target=wpList _ _ _ (Oper.mk (some 16) _ _ _ _ _::_) _ _;refine wpList_load_mid rfl 58 (.tmp 2) rfl w.heap.size 0 rfl (e.cells) _ (r1) Tryz.underlying58 rfl HIe ?_) | fail)
 refine C.mono ?_
 clear C r1
 rintro r d2 ⟨t,M,R,rfl,st,hv,ot,hMR,hRl,hM,hm,bR,hb⟩
 have N2:Below W.heap.size W d2:=N1.trans (hb.mono N1.size)
 have z1:=N1.size
 have z2:=hb.size
 clear hb
 have C:Calls Tryz.prog 26 #[.pointer (some ⟨R,0,none⟩),.int .i64 tx] d2 fun r d3=>r=.returned (.int .i64 (commitAns e.v tx).2)∧
   Calls Tryz.prog 27 #[.pointer (some ⟨R,0,none⟩)] d3 fun r w'=>∃ D:EngA,r=.returned (.agg D.cells.toArray)∧D.shape∧Hid (D.v=(commitAns e.v tx).1)∧D.own w' W.heap.size w'.heap.size∧Below W.heap.size W w':=by
  have hokt:okEng t.v=true:=by rw [hv.out];exact HOK.out.1
  have hL:t.v.log.recs.length=t.log.recs.length:=by simp [EngA.v,LogA.v]
  have h38:t.v.log.recs.length≤3980:=by rw [hv.out];have:=HOK.out.2;omega
  have hblk:=ot.blocks_lt
  have hgw:=hg.lt
  have hww:=(HEND.out _ N1).size
  have h6:t.txs.length≤1000:=by
   have h1:=hokt
   unfold okEng okTxs at h1
   simp only [Bool.and_eq_true,decide_eq_true_eq] at h1
   have:t.v.txs.length≤6:=h1.2.2.2.1.2.2
   have e1:t.v.txs=t.txs:=rfl
   rw [e1] at this
   omega
  have hsu:t.log.sure≤t.log.recs.length:=by have:=okEng_sure hokt;simpa [EngA.v,LogA.v] using this
  have hat:=runAt_of st ot hMR bR
  refine (runCommit_any M (e.holds.length:Int) R t tx (claimsTo e.holds e.holds.length) d2 hat (HG.out _ N2) ⟨by omega,fun hk=>by have:=hblk _ hk;omega⟩ (by omega) h6 hsu hm ⟨by omega,fun hk=>by have:=hblk _ hk;omega⟩
   (fun k hk=>by have:=commit_ok2 hokt h38 k hk;rw [hL] at this;exact this) (fun k hk=>by have:=commit_ok5 hokt h38 k hk;rw [hL] at this;exact this)).mono ?_
  have hte:t.txs=e.txs:=v_txs hv.out
  have hthold:t.v=e.v:=hv.out
  rintro r d3 (⟨hn,rfl,rfl⟩ | ⟨k,hk,hlv,htx,rfl,s,hvs,sa,m3,tt,fr⟩)
  ·have hA:commitAns e.v tx=(e.v,2):=by
    rw [HV.out,if_pos]
    show liveOf e.txs tx= -1
    rw [← hte];exact hn
   rw [hA]
   refine ⟨rfl,(restStep_any W d1 d3 d3 M R e.holds t t ot hMR hM hm (EngStepG.refl hat) HCO.out hlH N2 z1 z2).mono ?_⟩
   rintro r w' ⟨D,rfl,sD,hvD,oD,N4⟩
   refine ⟨D,rfl,sD,?_,oD,N4⟩
   rw [Hid,hvD.out,hthold]
   rfl
  ·have hA:commitAns e.v tx=(commitV e.v tx,0):=by
    rw [HV.out,if_neg]
    show ¬ liveOf e.txs tx= -1
    rw [← hte,hlv];omega
   rw [hA]
   have hnd:=claimsTo_nd e.holds e.holds.length
   refine ⟨rfl,(restEnd_any W d1 d2 d3 M R _ _ (e.holds.filter (fun l=>l.tx != tx)) t s ot hMR hM m3 sa tt fr (HCO.out.ended hnd tx) (delTo_place hnd (fun k=>by have:=claims_place e.holds k e.holds.length;omega) (by omega) 31) N2 z1 z2).mono ?_⟩
   rintro r w' ⟨D,rfl,sD,hvD,oD,N4⟩
   refine ⟨D,rfl,sD,?_,oD,N4⟩
   rw [Hid,hvD.out,hvs.out,← hthold]
   have hh:t.v.holds=e.holds:=v_holds hv.out
   have:=commit_same hokt (e:=t.v) hk htx
   rw [hh] at this
   exact this
 clear ot hm bR
 obtain ⟨cc,HCC⟩:∃ cc,Hid ((commitAns e.v tx).2=cc):=⟨_,rfl⟩
 rw [HCC.out] at C
 go_wp2_with fail
 refine C.mono ?_
 clear C
 rintro r d3 ⟨rfl,C⟩
 go_wp2_with fail
 refine C.mono ?_
 clear C
 rintro r d4 ⟨D,rfl,sD,hvD,oD,N4⟩
 obtain ⟨WF,hWF,HTF,HLF,HE⟩:=FIN.out D d4 sD N4 oD
 have HID:=eng_info sD
 have HOD:=all_oneCell_toArray (oneE D)
 clear oD
 go_wp2_with (first | (guard_target=wpList _ _ _ (Oper.mk none (Op.store _ (Operand.tmp 4) _) _ _ _ _::_) _ _;refine wpList_store_mid rfl 58 (.tmp 4) (.tmp 22) rfl (w.heap.size+1) 0 (D.cells).toArray rfl rfl HTF.out (by rw [List.size_toArray];exact HID) HOD ?_) | fail)
 rw [hWF.out]
 exact bodyPost_ret (v:=.tuple #[.agg D.cells.toArray,.int .i64 cc]) (results_cell_one Tryz.results7 rfl HLF.out rfl) rfl ⟨D,by rw [HCC.out],sD,hvD,HE.out.1,HE.out.2⟩
end Go.Proofs.YtfehemepdoomdaaGreatDoor