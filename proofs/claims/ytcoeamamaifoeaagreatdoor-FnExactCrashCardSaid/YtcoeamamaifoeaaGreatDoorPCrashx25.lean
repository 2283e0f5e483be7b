/- Several texts in one, in their order. -/
import Derived.Test.YtcoeamamaifoeaaGreatDoorPCrashx24
import Derived.Test.YtcoeamamaifoeaaGreatDoorPCrashx7
import Derived.Test.YtcoeamamaifoeaaGreatDoorPCrashx6
import Derived.Test.YtcoeamamaifoeaaGreatDoorPCrashx1
set_option maxHeartbeats 8000000
set_option maxRecDepth 100000
namespace Go.Proofs.YtcoeamamaifoeaaGreatDoor
open Go.RowKit
theorem step_append_holds {w:World} {ops:Array Oper} {o:Oper} {act:Act} {K:Act→World→Prop} {Q:Exit→Act→World→Prop} {E:Prop} (hgd:o.guard=none) (s x:Operand)
  (ho:o.op=.call { callee:=.builtin .append,args:=#[s,x],argTypes:=#[56,56] })
  (lo hi:Nat) (a:Option Addr) (c:Nat) (xs:List HoldV) (hs:act.eval s=.slice a xs.length c) (hown:OwnH w lo hi a c xs)
  (sa:Option Addr) (sc:Nat) (zs:List HoldV) (hx:act.eval x=.slice sa zs.length sc) (hr:ReadsH w sa zs) (hc:sa=none→sc=0)
  (hb:xs.length+zs.length≤1099511627776) (hlo:lo≤w.heap.size)
  (h:∀ a' c' ys w',Hid (ys=xs++zs)→OwnH w' lo w'.heap.size a' c' ys→w.grownBy w' (Value.slice a xs.length c).ownBlock→
   (∀ k,(Value.slice a' ys.length c').ownBlock=some k→(Value.slice a xs.length c).ownBlock=some k∨k=w.heap.size)→K (act.put o.dst (.slice a' ys.length c')) w'):
  if Region.wanted o (yielded ops act.tmps)=true then Oper.wp Tryz.prog o act w K Q else E:=by
 have hw:Region.wanted o (yielded ops act.tmps)=true:=by simp [Region.wanted,hgd]
 rw [if_pos hw]
 obtain ⟨a',c',ys,w',hrun,h1,h2,h3,h4⟩:=run_append_holds (w:=w) o.type lo hi a c xs hown sa sc zs hr hc hb hlo
 unfold Oper.wp execOp
 simp only [ho,resolve,invoke,builtin,Sem.run_bind,Sem.run_pure,Result.andThen_ok,List.map_toArray,List.map_cons,List.map_nil,hs,hx,hrun]
 exact h a' c' ys w' h1 h2 h3 h4
theorem step_alloc {w:World} {ops:Array Oper} {act:Act} {K:Act→World→Prop} {Q:Exit→Act→World→Prop} {E:Prop} {dst:Option Nat} {ty:TypeId} {pos:String} {aft:Array Edge} (T:TypeId) (cs:List Value)
  (hz:(Tryz.prog.info? T).map (·.zero)=some (some (.agg cs.toArray)))
  (h:K (act.put dst (.pointer (some ⟨w.heap.size,0,none⟩))) (w.alloc (.cells cs.toArray T))):
  if Region.wanted { dst:=dst,op:=.alloc T,type:=ty,pos:=pos,after:=aft,guard:=none } (yielded ops act.tmps)=true then Oper.wp Tryz.prog { dst:=dst,op:=.alloc T,type:=ty,pos:=pos,after:=aft,guard:=none } act w K Q else E:=by
 rw [if_pos (by simp [Region.wanted])]
 cases hi:Tryz.prog.info? T with
 | none=>rw [hi] at hz;cases hz
 | some inf=>
  rw [hi] at hz
  have hz':inf.zero=some (.agg cs.toArray):=by simpa using hz
  unfold Oper.wp execOp
  have e1:(zeroValue T).run Tryz.prog w=.ok (.agg cs.toArray) w:=by simp [zeroValue,typeInfo,hi,hz']
  have e2:(Instr.alloc T true (.tuple #[])).run Tryz.prog w=.ok (.pointer (some ⟨w.heap.size,0,none⟩)) (w.alloc (.cells cs.toArray T)):=by
   unfold Instr.alloc
   simp only [Sem.run_bind,e1,Result.andThen_ok]
   simp [newVar,go_sem]
  simp only [Sem.run_bind,e2,Result.andThen_ok,Sem.run_pure]
  exact h
theorem within_touch {B:Nat} {w w':World} (h:Within B (B+1) w w'):Touch [B] w w':=⟨h.os,h.tape,h.output,h.size,fun k hk hn=>h.block k hk (fun hh=>hn (List.mem_singleton.2 (by omega)))⟩
theorem own_disk {w:World} {lo D hi:Nat} {t:EngA} {ts:List PageA} (h:t.own w lo D) (hd:OwnS w D hi (slots8 ts)) (h1:lo≤D) (h2:D≤hi) (h3:hi≤w.heap.size):({ t with disk:=ts }:EngA).own w lo hi:=by
 refine ⟨hd.widen h1 (Nat.le_refl _) h3,h.pool.widen (Nat.le_refl _) h2 h3,h.log.widen (Nat.le_refl _) h2 h3,h.txs.widen (Nat.le_refl _) h2 h3,h.holds.widen (Nat.le_refl _) h2 h3,?_⟩
 have hb:=h.blocks_lt
 have ap:=h.apart
 simp only [EngA.blocks,List.nodup_append] at ap
 simp only [EngA.blocks,List.nodup_append]
 refine ⟨hd.apart,ap.2.1,fun x hx y hy=>?_⟩
 have h4:=hd.blocks_lt x hx
 have h5:=hb y (List.mem_append.2 (.inr hy))
 omega
theorem step_build {w:World} {o:Oper} {act:Act} {K:Act→World→Prop} {Q:Exit→Act→World→Prop} (T:TypeId) {v:Value} (parts:Array (Nat × Operand)) {ps:Array (Nat × Value)} (hr:(Instr.build T ps).run Tryz.prog w=.ok v w)
  (ho:o.op=.build T parts) (hp:parts.map (fun p=>(p.1,act.eval p.2))=ps) (h:K (act.put o.dst v) w):Oper.wp Tryz.prog o act w K Q:=by
 subst hp
 unfold Oper.wp execOp
 simp only [ho,Sem.run_bind,hr,Result.andThen_ok,Sem.run_pure]
 exact h
theorem l7Copy_any (e:EngA) (se:e.shape) (w:World) (re:e.reads w) (hl:e.short 1048576) (hc:e.caps):
  Calls Tryz.prog 16 #[.agg e.cells.toArray] w fun r w'=>∃ t:EngA,r=.returned (.agg t.cells.toArray)∧t.shape∧Hid (t.v=e.v)∧t.own w' w.heap.size w'.heap.size∧Below w.heap.size w w':=by
 obtain ⟨Z,hZ⟩:∃ Z,Hid (zeroE=Z):=⟨_,rfl⟩
 have sZ:Z.shape:=by rw [← hZ.out];exact zeroE_shape
 have HZ:=Tryz.zeroEng
 rw [hZ.out] at HZ
 obtain ⟨W,hW,b0,bR,hbW,hsW⟩:=boxes2 w e.cells Z.cells 58 58
 have HB:Hid (∀ u,Below W.heap.size W u→Box u w.heap.size e.cells 58):=fun u hu=>b0.below hu b0.lt
 have HBR:Hid (∀ u,Below W.heap.size W u→Box u (w.heap.size+1) Z.cells 58):=fun u hu=>bR.below hu bR.lt
 have HR:Hid (∀ u,Below W.heap.size W u→e.reads u):=fun u hu=>(re.below hbW).below hu
 have HEND:Hid (∀ u,Below W.heap.size W u→Below w.heap.size w u):=fun u hu=>hbW.trans (hu.mono hbW.size)
 have hw0:w.heap.size+1<W.heap.size:=by omega
 have N:Below W.heap.size W W:=Below.refl _ _
 clear b0 bR hsW
 have HS:Hid (∀ u,Below W.heap.size W u→(u.rangeAt w.heap.size 136 e.poolA.cells∧u.rangeAt w.heap.size 138 e.log.cells∧u.cell? ⟨w.heap.size,140,none⟩=some (.slice e.aT e.txs.length e.cT)∧u.cell? ⟨w.heap.size,141,none⟩=some (.slice e.aH e.holds.length e.cH)∧u.cell? ⟨w.heap.size,142,none⟩=some (.int .i64 e.next)∧u.cell? ⟨w.heap.size,143,none⟩=some (.bool e.down))):=fun u hu=>(eng_parts se (HB.out u hu)).2
 go_enter Tryz.func16,Tryz.ntmps16
 go_upto_region 1 with (first | (guard_target=wpList _ _ _ (Oper.mk _ (Op.alloc _) _ _ _ _::_) _ _;refine alloc_of 58 Z.cells HZ ?_) | fail)
 rw [hW.out,show (w.alloc (Obj.cells e.cells.toArray 58)).heap.size=w.heap.size+1 from by simp]
 clear hW
 have D0:Below W.heap.size W W.drew:=N.drew
 refine wp_region_held_drew (S:=fun u=>(u.rangeAt w.heap.size 136 e.poolA.cells∧u.rangeAt w.heap.size 138 e.log.cells∧u.cell? ⟨w.heap.size,140,none⟩=some (.slice e.aT e.txs.length e.cT)∧u.cell? ⟨w.heap.size,141,none⟩=some (.slice e.aH e.holds.length e.cH)∧u.cell? ⟨w.heap.size,142,none⟩=some (.int .i64 e.next)∧u.cell? ⟨w.heap.size,143,none⟩=some (.bool e.down))) (by kernel_rfl) (HS.out _ D0) (fun hHeld=>?_)
 generalize W.drew=d0 at*
 refine tq 0 (v:=.pointer (some ⟨w.heap.size,136,none⟩)) rfl hHeld ?_
 try simp only [zz]
 refine tk 1 rfl (yieldsIf_load_mid (by rfl) _ _ rfl _ _ rfl (e.poolA.cells) _ (fun _ h=>h.1) Tryz.underlying51 rfl (pool_info _)) hHeld ?_
 try simp only [zz]
 refine tq 3 (v:=.pointer (some ⟨w.heap.size,138,none⟩)) rfl hHeld ?_
 try simp only [zz]
 refine tk 4 rfl (yieldsIf_load_mid (by rfl) _ _ rfl _ _ rfl (e.log.cells) _ (fun _ h=>h.2.1) Tryz.underlying54 rfl (log_info _)) hHeld ?_
 try simp only [zz]
 refine tq 7 (v:=.pointer (some ⟨w.heap.size,140,none⟩)) rfl hHeld ?_
 try simp only [zz]
 refine tk 8 (v:=.slice e.aT e.txs.length e.cT) rfl (Or.inl ⟨by rfl,?_⟩) hHeld ?_
 ·intro w' hSw
  have hx:=hSw.2.2.1
  go_simp<;>rfl
 try simp only [zz]
 refine tq 11 (v:=.pointer (some ⟨w.heap.size,141,none⟩)) rfl hHeld ?_
 try simp only [zz]
 refine tk 12 (v:=.slice e.aH e.holds.length e.cH) rfl (Or.inl ⟨by rfl,?_⟩) hHeld ?_
 ·intro w' hSw
  have hx:=hSw.2.2.2.1
  go_simp<;>rfl
 try simp only [zz]
 refine tq 14 (v:=.pointer (some ⟨w.heap.size,142,none⟩)) rfl hHeld ?_
 try simp only [zz]
 refine tk 15 (v:=.int .i64 e.next) rfl (Or.inl ⟨by rfl,?_⟩) hHeld ?_
 ·intro w' hSw
  have hx:=hSw.2.2.2.2.1
  go_simp<;>rfl
 try simp only [zz]
 refine tq 16 (v:=.pointer (some ⟨w.heap.size,143,none⟩)) rfl hHeld ?_
 try simp only [zz]
 refine tk 17 (v:=.bool e.down) rfl (Or.inl ⟨by rfl,?_⟩) hHeld ?_
 ·intro w' hSw
  have hx:=hSw.2.2.2.2.2
  go_simp<;>rfl
 try simp only [zz]
 clear hHeld
 refine wpAnyH_inv (I:=fun l a u=>∃ (c2 c5 c6 c9 c10 c13 c3 c18:Bool) (X2 X5 X6 X9 X10 X13 X3 X23:Value) (q:PoolA) (l':LogA) (p0 p1 l0 l1 A6 A10:Nat) (aT:Option Addr) (cT:Nat) (aH:Option Addr) (cH:Nat) (BO:Nat),
  l=#[true,true,c2,true,true,c5,c6,true,true,c9,c10,true,true,c13,true,true,true,true,c18,c3,false]∧a=⟨([.agg e.cells.toArray,.pointer (some ⟨w.heap.size,0,none⟩),.pointer (some ⟨w.heap.size+1,0,none⟩),X3,undef,.pointer (some ⟨w.heap.size,136,none⟩),.agg (e.poolA.cells).toArray,X2,.pointer (some ⟨w.heap.size,138,none⟩),.agg (e.log.cells).toArray,X5,X6,.pointer (some ⟨w.heap.size,140,none⟩),.slice e.aT e.txs.length e.cT,X9,X10,.pointer (some ⟨w.heap.size,141,none⟩),.slice e.aH e.holds.length e.cH,X13,.pointer (some ⟨w.heap.size,142,none⟩),.int .i64 e.next,.pointer (some ⟨w.heap.size,143,none⟩),.bool e.down,X23,undef,undef,undef,undef,undef,undef,undef,undef,undef,undef,undef,undef,undef]:List Value).toArray,[]⟩∧CopI e W.heap.size u c2 c5 c6 c9 c10 c13 X2 X5 X6 X9 X10 X13 q l' p0 p1 l0 l1 A6 A10 aT cT aH cH∧CopB Z e.txs.length e.holds.length W.heap.size u c3 c6 c9 c10 c13 X3 BO p0 p1 l0 l1 A6 A10 aT cT aH cH∧(c18=true→(c2 && (c5 && (c6 && (c9 && (c10 && c13)))))=true∧X23=.agg (copE e q l' aT cT aH cH).cells.toArray)∧Below W.heap.size W u)
  (stop:=fun l=>l.getD 18 false && l.getD 19 false) ?_ ?_ _ _ _ _ (by kernel_rfl) ?_
 rotate_right
 ·exact ⟨false,false,false,false,false,false,false,false,undef,undef,undef,undef,undef,undef,undef,undef,e.poolA,e.log,0,0,0,0,0,0,none,0,none,0,0,by kernel_rfl,rfl,CopI.start e _ _ _ _ _ _ _ _ D0.size,CopB.start _ _,nofun,D0⟩
 ·rintro l a u ⟨c2,c5,c6,c9,c10,c13,c3,c18,X2,X5,X6,X9,X10,X13,X3,X23,q,l',p0,p1,l0,l1,A6,A10,aT,cT,aH,cH,BO,rfl,rfl,hI,hB,h18,hN⟩ hst
  refine inv_step (fun j=>(j == 2 && !c2) || ((j == 5 && (!c5 && c2)) || ((j == 6 && !c6) || ((j == 9 && (!c9 && (c5 && c6))) || ((j == 10 && !c10) || ((j == 13 && (!c13 && (c9 && c10))) || ((j == 19 && !c3) || (j == 18 && (!c18 && (c2 && (c5 && (c6 && (c9 && (c10 && c13)))))))))))))) ?_ ?_
  ·have hval:=And.intro hI.val (fun h=>(h18 h).1)
   clear hI hB hN h18
   revert hst hval
   cases c2<;>cases c5<;>cases c6<;>cases c9<;>cases c10<;>cases c13<;>cases c3<;>cases c18<;>first | exact (fun h _=>absurd h (by decide)) | exact (fun _ h=>absurd h (by decide)) | exact (fun _ _=>by (show _=true;kernel_rfl))
  ·clear hst
   intro j hj
   simp only [Bool.or_eq_true,Bool.and_eq_true,beq_iff_eq,Bool.not_eq_true'] at hj
   rcases hj with (⟨rfl,rfl⟩ | ⟨rfl,rfl,h2⟩ | ⟨rfl,rfl⟩ | ⟨rfl,rfl,h5,h6⟩ | ⟨rfl,rfl⟩ | ⟨rfl,rfl,h9,h10⟩ | ⟨rfl,rfl⟩ | ⟨rfl,rfl,a2,a5,a6,a9,a10,a13⟩)
   ·refine wpOp_inv rfl (fun K hK=>?_)
    go_simp
    refine (l6Copy_any e.poolA u (HR.out _ hN).pool hl.pool).mono ?_
    rintro r u' ⟨t,rfl,hv,ho,hb⟩
    have hN':Below W.heap.size W u':=hN.trans (hb.mono hN.size)
    exact hK.out _ _ ⟨HS.out _ hN',true,c5,c6,c9,c10,c13,c3,c18,_,X5,X6,X9,X10,X13,X3,X23,t,l',_,_,l0,l1,A6,A10,aT,cT,aH,cH,BO,by kernel_rfl,rfl,hI.step2 rfl hv ho hb,hB.step2 hb,fun h=>absurd (h18 h).1 (by simp),hN'⟩
   ·refine wpOp_inv rfl (fun K hK=>?_)
    go_simp
    refine (l5Copy_any e.log u (HR.out _ hN).log hl.log hc.recs).mono ?_
    rintro r u' ⟨t,rfl,hv,ho,hb⟩
    have hN':Below W.heap.size W u':=hN.trans (hb.mono hN.size)
    exact hK.out _ _ ⟨HS.out _ hN',c2,true,c6,c9,c10,c13,c3,c18,X2,_,X6,X9,X10,X13,X3,X23,q,t,p0,p1,_,_,A6,A10,aT,cT,aH,cH,BO,by kernel_rfl,rfl,hI.step5 h2 rfl hv ho hb,hB.step5 hb,fun h=>absurd (h18 h).1 (by simp),hN'⟩
   ·refine wpOp_inv rfl (fun K hK=>?_)
    have hb:Below u.heap.size u (u.alloc (.cells #[] 109)):=(Below.refl _ _).alloc (Nat.le_refl _) _
    have hN':Below W.heap.size W (u.alloc (.cells #[] 109)):=hN.trans (hb.mono hN.size)
    go_simp
    exact hK.out _ _ ⟨HS.out _ hN',c2,c5,true,c9,c10,c13,c3,c18,X2,X5,_,X9,X10,X13,X3,X23,q,l',p0,p1,l0,l1,_,A10,aT,cT,aH,cH,BO,by kernel_rfl,rfl,hI.step6 rfl rfl,hB.step6 hb,fun h=>absurd (h18 h).1 (by simp),hN'⟩
   ·refine wpOp_inv rfl (fun K hK=>?_)
    obtain ⟨x1,x2,x3,x4,_,_⟩:=hI.six h6
    refine step_append_lives rfl (.tmp 11) (.tmp 13) rfl A6 (A6+1) (some ⟨A6,0,none⟩) 0 [] (by rw [x1];rfl) (x2 rfl) e.aT e.cT e.txs rfl (HR.out _ hN).txs hc.txs (by have:=hl.txs;simp only [List.length_nil];omega) (by omega) ?_
    intro a' c' ys u' hys ho hg hk
    have hyy:ys=e.txs:=hys.out
    subst hyy
    have hN':Below W.heap.size W u':=hN.grown hg hN.size (fun k hk=>by cases hk;exact x3)
    exact hK.out _ _ ⟨HS.out _ hN',c2,c5,c6,true,c10,c13,c3,c18,X2,X5,X6,_,X10,X13,X3,X23,q,l',p0,p1,l0,l1,A6,A10,a',c',aH,cH,BO,by kernel_rfl,rfl,hI.step9 h5 h6 rfl ho hg hk,hB.step9 h6 hg hk,fun h=>absurd (h18 h).1 (by simp),hN'⟩
   ·refine wpOp_inv rfl (fun K hK=>?_)
    have hb:Below u.heap.size u (u.alloc (.cells #[] 113)):=(Below.refl _ _).alloc (Nat.le_refl _) _
    have hN':Below W.heap.size W (u.alloc (.cells #[] 113)):=hN.trans (hb.mono hN.size)
    go_simp
    exact hK.out _ _ ⟨HS.out _ hN',c2,c5,c6,c9,true,c13,c3,c18,X2,X5,X6,X9,_,X13,X3,X23,q,l',p0,p1,l0,l1,A6,_,aT,cT,aH,cH,BO,by kernel_rfl,rfl,hI.step10 rfl rfl,hB.step10 hb,fun h=>absurd (h18 h).1 (by simp),hN'⟩
   ·refine wpOp_inv rfl (fun K hK=>?_)
    obtain ⟨x1,x2,x3,x4,_,_⟩:=hI.ten h10
    refine step_append_holds rfl (.tmp 15) (.tmp 17) rfl A10 (A10+1) (some ⟨A10,0,none⟩) 0 [] (by rw [x1];rfl) (x2 rfl) e.aH e.cH e.holds rfl (HR.out _ hN).holds hc.holds (by have:=hl.holds;simp only [List.length_nil];omega) (by omega) ?_
    intro a' c' ys u' hys ho hg hk
    have hyy:ys=e.holds:=hys.out
    subst hyy
    have hN':Below W.heap.size W u':=hN.grown hg hN.size (fun k hk=>by cases hk;exact x3)
    exact hK.out _ _ ⟨HS.out _ hN',c2,c5,c6,c9,c10,true,c3,c18,X2,X5,X6,X9,X10,_,X3,X23,q,l',p0,p1,l0,l1,A6,A10,aT,cT,a',c',BO,by kernel_rfl,rfl,hI.step13 h9 h10 rfl ho hg hk,hB.step13 h10 hg hk,fun h=>absurd (h18 h).1 (by simp),hN'⟩
   ·refine wpOp_inv rfl (fun K hK=>?_)
    obtain ⟨u',hu',bu,hb,_⟩:=boxes1 u Z.cells 58
    have hN':Below W.heap.size W u':=hN.trans (hb.mono hN.size)
    refine step_alloc 58 Z.cells HZ ?_
    rw [hu'.out]
    exact hK.out _ _ ⟨HS.out _ hN',c2,c5,c6,c9,c10,c13,true,c18,X2,X5,X6,X9,X10,X13,_,X23,q,l',p0,p1,l0,l1,A6,A10,aT,cT,aH,cH,_,by kernel_rfl,rfl,hI.below hb,CopB.laid hI rfl bu,h18,hN'⟩
   ·refine wpOp_inv rfl (fun K hK=>?_)
    subst a2 a5 a6 a9 a10 a13
    obtain ⟨rfl,rfl,rfl,rfl,_⟩:=hI.whole
    rw [if_pos (by rfl)]
    refine step_build 58 #[(1,.tmp 7),(2,.tmp 10),(3,.tmp 14),(4,.tmp 18),(5,.tmp 20),(6,.tmp 22)] (run_buildEC u e q l' aT cT aH cH) rfl (by simp only [List.map_toArray,List.map_cons,List.map_nil];rfl) ?_
    exact hK.out _ _ ⟨HS.out _ hN,true,true,true,true,true,true,c3,true,_,_,X6,_,X10,_,X3,_,q,l',p0,p1,l0,l1,A6,A10,aT,cT,aH,cH,BO,by kernel_rfl,rfl,hI,hB,fun _=>⟨rfl,rfl⟩,hN⟩
 rintro l a u ⟨c2,c5,c6,c9,c10,c13,c3,c18,X2,X5,X6,X9,X10,X13,X3,X23,q,l',p0,p1,l0,l1,A6,A10,aT,cT,aH,cH,BO,rfl,rfl,hI,hB,h18,hN⟩ hst
 obtain ⟨rfl,rfl⟩:c18=true∧c3=true:=by simpa using hst
 clear hst
 obtain ⟨hcs,rfl⟩:=h18 rfl
 obtain ⟨rfl,rfl,rfl,rfl,rfl,rfl⟩:c2=true∧c5=true∧c6=true∧c9=true∧c10=true∧c13=true:=by simpa using hcs
 clear h18 hcs
 obtain ⟨rfl,rfl,rfl,rfl,hv2,hv5,_⟩:=hI.whole
 have hsh:=copE_shape e q l' aT cT aH cH
 have HWH:Hid (∀ (t:EngA),t.disk.map pgv=e.disk.map pgv→(t.seats,t.aS,t.cS,t.hand,t.log,t.txs,t.aT,t.cT,t.holds,t.aH,t.cH,t.next,t.down)=(q.seats,q.a,q.c,q.hand,l',e.txs,aT,cT,e.holds,aH,cH,e.next,e.down)→t.v=e.v):=fun t h1 h2=>by
  have v2:=hv2.out
  have v5:=hv5.out
  simp only [Prod.mk.injEq] at h2
  obtain ⟨g1,g2,g3,g4,g5,g6,g7,g8,g9,g10,g11,g12,g13⟩:=h2
  simp only [PoolA.v,EngA.poolA,PoolV.mk.injEq] at v2
  simp only [EngA.v,g1,g4,g5,g6,g9,g12,g13,v2.1,v2.2,v5]
  congr 1
 obtain ⟨rfl,bu,hBl,_,_⟩:=hB.box rfl
 obtain ⟨ho,hBO⟩:=hI.eng hB
 clear hI hB hv2 hv5
 obtain ⟨u1,hu1,hw1,hs1,HT1,b1⟩:=eng_out hsh sZ bu
 have z1:=hw1.size
 have z2:=Nat.le_of_eq hs1
 have o1:(copE e q l' aT cT aH cH).own u1 W.heap.size u1.heap.size:=(ho.touch (within_touch hw1) (fun k hk hm=>hBO (by rw [← List.mem_singleton.1 hm];exact hk))).widen (Nat.le_refl _) (by omega) (Nat.le_refl _)
 have hN1:Below W.heap.size W u1:=hN.trans (hw1.below hBl (by have:=hN.size;omega))
 have hlB:BO<u1.heap.size:=b1.lt
 show wpAnyH _ _ _ _ _ 1 _ _ _
 refine wpAnyH_ready (rs:=[20]) (by kernel_rfl) (by simp) ?_
 refine AllReadyH.cons rfl (fun K hK=>?_) AllReadyH.nil
 rw [if_pos (by rfl)]
 refine wp_store_mid 58 (.tmp 3) (.tmp 23) rfl BO 0 (copE e q l' aT cT aH cH).cells.toArray rfl rfl HT1.out (by rw [List.size_toArray];exact eng_info hsh) (all_oneCell_toArray (oneE _)) ?_
 rw [hu1.out]
 refine hK.out _ _ (HS.out _ hN1) (fun hHeld=>?_)
 clear hK K hHeld
 try simp only [zz]
 refine wpAnyH_done (by kernel_rfl) ?_ _
 clear bu ho hN hw1 hs1 HT1 hu1 z1 z2 HS
 have HT0:Hid (∀ ts:List PageA,ts.map pgv=e.disk.map pgv→({ (copE e q l' aT cT aH cH) with disk:=ts }:EngA).v=e.v):=fun ts h=>HWH.out _ h rfl
 clear HWH
 generalize copE e q l' aT cT aH cH=t0 at*
 have HD8:Hid (t0.disk.length=8∧e.disk.length=8):=⟨hsh.eight,se.eight⟩
 have HFD:Hid (∀ p∈e.disk,Fit p.ss):=fun p hp s hs=>by have:=hl.disk p hp s hs;omega
 have b1':Box u1 BO (cellsPs ([]++t0.disk.drop 0)++t0.tail) 58:=b1
 clear b1
 go_wp2_with fail
 go_loopw [4] (fun i wr=>∃ (k:Nat) (ts:List PageA),k≤8∧i=.int .i64 (k:Int)∧Hid (ts.length=k∧(∀ p∈ts,p.ss.length=4)∧ts.map pgv=(e.disk.take k).map pgv)∧OwnS wr u1.heap.size wr.heap.size (slots8 ts)∧Box wr BO (cellsPs (ts++t0.disk.drop k)++t0.tail) 58∧t0.own wr W.heap.size u1.heap.size∧Below W.heap.size W wr∧u1.heap.size≤wr.heap.size) (fun i _=>8-(intOf i).toNat)
 case atStart=>exact ⟨0,[],Nat.zero_le _,rfl,⟨rfl,fun p hp=>by (simp at hp),rfl⟩,OwnS.nil _ _ _,b1',o1,hN1,Nat.le_refl _⟩
 case round=>
  obtain ⟨k,ts,hk,rfl,hts,hown,c1,ot,hnx,hsr⟩:=hrel
  clear b1' o1 hN1
  by_cases hlt:k<8
  ·have hkl:k<e.disk.length:=by rw [HD8.out.2];exact hlt
   have hkt:k<t0.disk.length:=by rw [HD8.out.1];exact hlt
   have HP4:=se.disk8.at hlt
   have HZ4:=hsh.disk8.at hlt
   have F1:=HFD.out _ (pageD_mem (k:=k) hkl)
   have R1:=(HR.out _ hnx).disk _ (pageD_mem (k:=k) hkl)
   have HTK:Hid ((e.disk.take (k+1)).map pgv=(e.disk.take k).map pgv++[pgv (e.disk.getD k zeroP)]):=by rw [Hid,List.take_succ_eq_append_getElem hkl,pageD_eq hkl,List.map_append];rfl
   have HDR:t0.disk.drop k=t0.disk.getD k zeroP::t0.disk.drop (k+1):=by rw [← pageD_eq hkt];exact List.drop_eq_getElem_cons hkt
   have rP:wr.rangeAt w.heap.size (k*17) (e.disk.getD k zeroP).cells:=by have:=EngA.page_at se (HB.out _ hnx) k hkl;rwa [pageD_eq hkl] at this
   rw [HDR] at c1
   clear HDR
   generalize e.disk.getD k zeroP=p at*
   generalize t0.disk.getD k zeroP=zp at*
   have HIp:=page_infoP p HP4
   have C1:=l3Copy_own p HP4 wr R1 F1
   have hi0:(0:Int)≤(k:Int):=by omega
   have hi8:(k:Int)<8:=by omega
   clear R1
   go_wp2_with (first | (guard_target=wpList _ _ _ (Oper.mk (some 32) _ _ _ _ _::_) _ _;refine wpList_load_mid rfl 47 (.tmp 31) rfl w.heap.size (k*17) rfl (p.cells) _ rP Tryz.underlying47 rfl HIp ?_) | fail)
   refine C1.mono ?_
   clear C1 rP
   rintro r w1 ⟨us,rfl,hv,ho1,hb1⟩
   have hu4:us.length=4:=by have:=congrArg List.length hv.out;simp only [List.length_map] at this;omega
   have s1:=hb1.size
   obtain ⟨q,hq⟩:∃ q:PageA,Hid ((⟨p.lsn,us⟩:PageA)=q):=⟨_,rfl⟩
   have hq4:q.ss.length=4:=by rw [← hq.out];exact hu4
   have oq:OwnS w1 wr.heap.size w1.heap.size q.ss:=by rw [← hq.out];exact ho1
   have HQV:Hid (pgv q=pgv p):=by rw [Hid,← hq.out];simp only [pgv];rw [hv.out]
   rw [hq.out]
   clear hq hv ho1 hu4
   replace c1:=c1.below hb1 c1.lt
   have hown1:=hown.below hb1
   replace hnx:=hnx.trans (hb1.mono hnx.size)
   replace ot:=ot.below hb1
   rw [cellsPs_app,cellsPs_cons,List.append_assoc,List.append_assoc] at c1
   obtain ⟨W2,hW2,d3,hw2,hs2⟩:=range_fill (cellsPs ts) zp.cells q.cells (cellsPs (t0.disk.drop (k+1))++t0.tail) c1 (by rw [page_len q hq4,page_len zp HZ4])
   have hl3:(cellsPs ts).length=k*17:=by rw [cellsPs_len _ hts.out.2.1,hts.out.1]
   rw [hl3] at hW2
   have HTH:Hid (w1.there BO (k*17) q.cells.toArray.size):=c1.there _ _ (by rw [List.size_toArray,page_len q hq4,List.length_append,List.length_append,hl3,page_len zp HZ4];omega)
   have s2:=hw2.size
   have d3':Box W2 BO (cellsPs ((ts++[q])++t0.disk.drop (k+1))++t0.tail) 58:=by
    rw [List.append_assoc,cellsPs_app,List.singleton_append,cellsPs_cons,List.append_assoc,List.append_assoc];exact d3
   have HOW:Hid (OwnS W2 u1.heap.size W2.heap.size (slots8 (ts++[q]))∧t0.own W2 W.heap.size u1.heap.size):=by
    refine ⟨?_,ot.touch (within_touch hw2) (fun k hk hm=>hBO (by rw [← List.mem_singleton.1 hm];exact hk))⟩
    rw [slots8_app,slots8_cons]
    have o:=(hown1.snocs oq (by omega) (by omega) (Nat.le_refl _))
    simpa [slots8] using (o.within hw2 (.inr (by omega))).widen (Nat.le_refl _) s2 (Nat.le_refl _)
   have HTS:Hid ((ts++[q]).length=k+1∧(∀ p∈ts++[q],p.ss.length=4)∧(ts++[q]).map pgv=(e.disk.take (k+1)).map pgv):=by
    refine ⟨by rw [List.length_append,hts.out.1];rfl,fun x hx=>?_,?_⟩
    ·rcases List.mem_append.1 hx with h | h
     ·exact hts.out.2.1 x h
     ·rw [List.mem_singleton.1 h];exact hq4
    ·rw [HTK.out,List.map_append,hts.out.2.2,← HQV.out];rfl
   have HN:Hid (Below W.heap.size W W2∧u1.heap.size≤W2.heap.size):=⟨hnx.trans (hw2.below hBl (by have:=hnx.size;omega)),by omega⟩
   have HIq:Hid ((Tryz.prog.info? 47).map (·.size)=some q.cells.toArray.size):=page_infoP q hq4
   have HOq:=all_oneCell_toArray (oneP q)
   have HW2:Hid (w1.setCells BO (k*17) q.cells.toArray.toList=W2):=hW2.out
   clear c1 d3 hown hown1 oq hw2 hs2 hW2 hnx hts HTK HQV hl3 hb1 ot
   go_wp2_with (first | (guard_target=wpList _ _ _ (Oper.mk none (Op.store _ (Operand.tmp 35) _) _ _ _ _::_) _ _;refine wpList_store_mid rfl 47 (.tmp 35) (.tmp 33) rfl BO (k*17) (q.cells).toArray rfl rfl HTH.out HIq.out HOq ?_) | fail)
   rw [HW2.out]
   go_roundw
   case rel=>exact ⟨k+1,ts++[q],by omega,by go_num,HTS,HOW.out.1,d3',HOW.out.2,HN.out.1,HN.out.2⟩
   case measure=>simp [intOf];omega
  ·obtain rfl:k=8:=by omega
   have hkk:¬ ((8:Nat):Int)<8:=by omega
   obtain ⟨T,hT⟩:∃ T:EngA,Hid (({ t0 with disk:=ts }:EngA)=T):=⟨_,rfl⟩
   have sT:T.shape:=by rw [← hT.out];exact ⟨hts.out.1,hts.out.2.1⟩
   have bT:Box wr BO T.cells 58:=by
    have e0:t0.disk.drop 8=[]:=List.drop_eq_nil_of_le (by rw [HD8.out.1];exact Nat.le_refl _)
    rw [e0,List.append_nil] at c1
    rw [← hT.out];exact c1
   have HV:Hid (T.v=e.v):=by rw [Hid,← hT.out];exact HT0.out ts (by rw [hts.out.2.2,← HD8.out.2,List.take_length])
   have oT:T.own wr W.heap.size wr.heap.size:=by
    rw [← hT.out]
    exact own_disk ot hown (by omega) hsr (Nat.le_refl _)
   have bR:=HBR.out _ hnx
   obtain ⟨WF,hWF,hwF,hsF,HTF,bF⟩:=eng_out sT sZ bR
   have HLF':Hid (_=_):=eng_load sT bF
   have rT:wr.rangeAt BO 0 T.cells:=Box.range [] T.cells [] (by simpa using bT)
   have HEND2:Hid (T.own WF w.heap.size WF.heap.size∧Below w.heap.size w WF):=⟨(oT.within hwF (.inr (by omega))).widen (by omega) (by omega) (Nat.le_refl _),(HEND.out _ hnx).trans (hwF.below (by omega) (by have:=hnx.size;omega))⟩
   have HI:=eng_info sT
   have HO:=all_oneCell_toArray (oneE T)
   clear hwF hsF bF oT bT bR c1 hown ot hts hT
   go_wp2_with (first | (guard_target=wpList _ _ _ (Oper.mk (some 36) _ _ _ _ _::_) _ _;refine wpList_load_mid rfl 58 (.tmp 3) rfl BO 0 rfl (T.cells) _ rT Tryz.underlying58 rfl HI ?_) | (guard_target=wpList _ _ _ (Oper.mk none (Op.store _ (Operand.tmp 2) _) _ _ _ _::_) _ _;refine wpList_store_mid rfl 58 (.tmp 2) (.tmp 36) rfl (w.heap.size+1) 0 (T.cells).toArray rfl rfl HTF.out (by rw [List.size_toArray];exact HI) HO ?_) | fail)
   rw [hWF.out]
   exact bodyPost_ret (v:=.agg T.cells.toArray) (results_one Tryz.results16 rfl HLF'.out) rfl ⟨T,rfl,sT,HV,HEND2.out.1,HEND2.out.2⟩
end Go.Proofs.YtcoeamamaifoeaaGreatDoor