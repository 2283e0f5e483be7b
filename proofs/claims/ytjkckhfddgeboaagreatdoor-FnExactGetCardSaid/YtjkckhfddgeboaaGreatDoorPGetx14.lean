/- Several texts in one, in their order. -/
import Derived.Test.YtjkckhfddgeboaaGreatDoorPGetx12
import Derived.Test.YtjkckhfddgeboaaGreatDoorPGetx5
import Derived.Test.YtjkckhfddgeboaaGreatDoorPGetx10
import Derived.Test.YtjkckhfddgeboaaGreatDoorPGetx13
import Derived.Test.YtjkckhfddgeboaaGreatDoorPGetx9
import Derived.Deep.Cut
import Derived.Test.YtjkckhfddgeboaaGreatDoorPGetx4
import Derived.Test.YtjkckhfddgeboaaGreatDoorPGetx6
import Derived.Test.YtjkckhfddgeboaaGreatDoorPGetx8
import Derived.Test.YtjkckhfddgeboaaGreatDoorPGetx7
import Derived.Test.YtjkckhfddgeboaaGreatDoorPGetx11
import Derived.Test.YtjkckhfddgeboaaGreatDoorPGetx1
set_option maxHeartbeats 8000000
set_option maxRecDepth 100000
namespace Go.Proofs.YtjkckhfddgeboaaGreatDoor
open Go.RowKit
theorem sH (e:qa) (se:e.shape) (w:World):
  Calls Tryz.prog 63 #[.agg e.cells.toArray] w fun r w'=>r=.returned (.bool (KX e.v))∧Below w.heap.size w w':=by
 have FE:Hid (KX e.v=(decide (e.seats.length=0) && (decide (e.txs.length=0) && decide (e.holds.length=0)))):=by (rw [Hid];simp [KX,qa.v])
 obtain ⟨RB,Kk⟩:∃ RB,KX e.v=RB:=⟨_,rfl⟩;rw [Kk] at FE ⊢;clear Kk;obtain ⟨W,hW,b0,hbW,qp⟩:=qx w e.cells 42;obtain ⟨_,p1,_,p3,p4,_,_⟩:=qH se b0;have p10:W.cell? ⟨w.heap.size,136,none⟩=some (.slice e.aS e.seats.length e.cS):=p1 0 _ rfl;clear p1 b0 qp;go_enter Tryz.func63,Tryz.ntmps63;go_upto_region 1 with fail;rw [hW.out];by_cases k1:e.seats.length=0
 ·have q1:((e.seats.length:Int) == 0)=true:=by simp [k1]
  by_cases k2:e.txs.length=0
  ·have q2:((e.txs.length:Int) == 0)=true:=by simp [k2]
   by_cases k3:e.holds.length=0
   ·have q3:((e.holds.length:Int) == 0)=true:=by simp [k3]
    have HF:Hid (RB=true):=by rw [Hid,FE.out];simp [k1,k2,k3]
    clear k1 k2 k3;go_wp2;go_ret;exact ⟨qd HF.out.symm,hbW⟩
   ·have q3:((e.holds.length:Int) == 0)=false:=beq_eq_false_iff_ne.2 (by omega);have HF:Hid (RB=false):=by rw [Hid,FE.out];simp [k1,k2,k3]
    clear k1 k2 k3;go_wp2;go_ret;exact ⟨qd HF.out.symm,hbW⟩
  ·have q2:((e.txs.length:Int) == 0)=false:=beq_eq_false_iff_ne.2 (by omega);have HF:Hid (RB=false):=by rw [Hid,FE.out];simp [k1,k2]
   clear k1 k2;go_wp2;go_ret;exact ⟨qd HF.out.symm,hbW⟩
 ·have q1:((e.seats.length:Int) == 0)=false:=beq_eq_false_iff_ne.2 (by omega);have HF:Hid (RB=false):=by rw [Hid,FE.out];simp [k1]
  clear k1;go_wp2;go_ret;exact ⟨qd HF.out.symm,hbW⟩
theorem sI (ps:List qw) (h8:zS ps) (k:Nat) (hk:k<8):((qj ps).drop (k*17)).take 17=(ps.getD k qM).cells:=by
 have hkl:k<ps.length:=by rw [h8.eight];exact hk
 have hl:=jL (ps.take k) (fun p hp=>h8.four p (List.mem_of_mem_take hp));rw [List.length_take,Nat.min_eq_left (Nat.le_of_lt hkl)] at hl;have h4:=jo _ (h8.four _ (List.getElem_mem hkl));rw [uA ps k hkl,← hl,List.drop_left,List.take_append_of_le_length (by omega),List.take_of_length_le (by omega),zm hkl]
theorem YS (ps:List qw) (h8:zS ps) (k:Nat) (hk:k<8) (w:World):
  (Instr.index 32 (.agg (qj ps).toArray) (.int .i64 (k:Int))).run Tryz.prog w=.ok (.agg (ps.getD k qM).cells.toArray) w:=by
 have he:=sI ps h8 k hk;have hz:(sizeOf 31).run Tryz.prog w=.ok 17 w:=by kernel_rfl
 simp [Instr.index,asIntOf,Go.part,run_underlying Tryz.underlying32,hz];rw [if_pos hk,he];simp [List.getD]
theorem sJ (e:qa) (se:e.shape) (w:World) (hg:kK w) (re:e.reads w) (hl:e.short 1048576):
  Calls Tryz.prog 64 #[.agg e.cells.toArray] w fun r w'=>r=.returned (.bool (yP e.v))∧Below w.heap.size w w':=by
 have jP:Hid (∀ k,k<8→zJ e.v k=false→yP e.v=false):=fun k hk h=>uW k hk h
 have Qw:Hid ((∀ k,k<8→zJ e.v k=true)→yP e.v=true):=fun h=>vo h
 have Et:Hid (∀ k,k<8→zJ e.v k=(ze (e.disk.getD k qM).lsn ((e.disk.getD k qM).ss.map (·.v)) && decide ((e.disk.getD k qM).lsn≤e.log.sure))):=fun k hk=>by (rw [zJ,Zo se k hk];rfl)
 obtain ⟨RB,Kk⟩:∃ RB,yP e.v=RB:=⟨_,rfl⟩;rw [Kk] at jP Qw ⊢;clear Kk;have Uv:Hid (∀ p∈e.disk,Fit p.ss):=fun p hp s hs=>by have:=hl.disk p hp s hs;omega
 obtain ⟨W,hW,b0,hbW,qp⟩:=qx w e.cells 42;have HB:Hid (∀ u,Below W.heap.size W u→Box u w.heap.size e.cells 42):=fun u hu=>b0.below hu b0.lt
 have HR:Hid (∀ u,Below W.heap.size W u→e.reads u):=fun u hu=>(re.below hbW).below hu
 have qR:Hid (∀ u,Below W.heap.size W u→Below w.heap.size w u):=fun u hu=>hbW.trans (hu.mono hbW.size)
 have hw0:w.heap.size<W.heap.size:=by omega
 have N:Below W.heap.size W W:=Below.refl _ _;clear b0 qp;have hgB:∀ u,Below W.heap.size W u→kK u:=fun u hu=>hg.keep (qR.out u hu)
 obtain ⟨p0,_,_,_,_,_,_⟩:=qH se (HB.out W N);have hid:=wD se.yQ;have Mt:=YS e.disk se.yQ;have Eu:Hid (_):=Mt;clear Mt;go_enter Tryz.func64,Tryz.ntmps64;go_wp2_with (first | (guard_target=wpList _ _ _ (Oper.mk (some 6) _ _ _ _ _::_) _ _;refine wpList_load_mid rfl 32 (.tmp 5) rfl w.heap.size 0 rfl (qj e.disk) _ (by rw [hW.out];exact p0) Tryz.underlying32 rfl hid ?_) | fail);rw [hW.out];clear hW p0 hid;go_loopw [7] (fun i wr=>∃ k:Nat,k≤8∧i=.int .i64 (k:Int)∧Hid (∀ j,j<k→zJ e.v j=true)∧Below W.heap.size W wr) (fun i _=>8-(intOf i).toNat)
 case atStart=>exact ⟨0,Nat.zero_le _,rfl,fun j hj=>by omega,N⟩
 case round=>
  obtain ⟨k,hk,rfl,hall,hbr⟩:=hrel;clear N;have uX:=hbr.size;by_cases hlt:k<8
  ·have hkl:k<e.disk.length:=by rw [se.eight];exact hlt
   have HDK:Hid (_=_):=Et.out k hlt;have FH:Hid (_→_):=jP.out k hlt;have zT:=se.yQ.at hlt;have F1:=Uv.out _ (j4 (k:=k) hkl);have FI:Hid (∀ u,Below W.heap.size W u→jK u (e.disk.getD k qM).ss):=fun u hu=>(HR.out _ hu).disk _ (j4 (k:=k) hkl)
   have hix:=Eu.out k hlt;generalize e.disk.getD k qM=p at*
   have JK:=jM p zT;have bJ:=all_oneCell_toArray (Qx p);obtain ⟨ZV,uB,bZ,uY,Xh⟩:=qx wr [.int .i64 0,.bool false,.int .i64 0,.slice none 0 0,.slice none 0 0,.bool false,.int .i64 0,.slice none 0 0,.slice none 0 0,.bool false,.int .i64 0,.slice none 0 0,.slice none 0 0,.bool false,.int .i64 0,.slice none 0 0,.slice none 0 0] 31;obtain ⟨V,hV,Kl,Km,HT,_,bS⟩:=Mv (C:=wr.heap.size) (T:=31) p zT _ rfl bZ Tryz.underlying31 rfl (by kernel_rfl);have nb:Below wr.heap.size wr V:=uY.trans (Kl.below (Nat.le_refl _) (by omega));have nV:Below W.heap.size W V:=hbr.trans (nb.mono hbr.size);have rS:V.rangeAt wr.heap.size 0 p.cells:=Box.range [] p.cells [] (by simpa using bS);have EV:Hid (ZV.setCells wr.heap.size 0 p.cells.toArray.toList=V):=hV.out;have C1:=JS p zT V (hgB _ nV) (FI.out _ nV) F1;have FJ:=bS.lt;have hi0:(0:Int)≤(k:Int):=by omega
   have dW:(k:Int)<8:=by omega
   clear bZ uY Xh Kl Km hV nb;go_wp2_with (first | (guard_target=wpList _ _ _ (Oper.mk none (Op.store _ (Operand.tmp 4) _) _ _ _ _::_) _ _;refine wpList_store_mid rfl 31 (.tmp 4) (.tmp 9) rfl wr.heap.size 0 p.cells.toArray rfl rfl (by rw [uB.out];exact HT.out) (by rw [List.size_toArray];exact JK) bJ ?_) | (guard_target=wpList _ _ _ (Oper.mk (some 10) _ _ _ _ _::_) _ _;refine wpList_load_mid rfl 31 (.tmp 4) rfl wr.heap.size 0 rfl (p.cells) _ (by rw [uB.out,EV.out];exact rS) Tryz.underlying31 rfl JK ?_) | fail);rw [uB.out,EV.out];clear uB EV HT rS hix;refine C1.mono ?_;clear C1;rintro r w1 ⟨rfl,hb1⟩;have n1:Below W.heap.size W w1:=nV.trans (hb1.mono nV.size);have x0:=(bS.below hb1 bS.lt).cell 0 _ rfl;obtain ⟨_,_,p2,_,_,_,_⟩:=qH se (HB.out _ n1);have x1:=p2 1 _ rfl;clear p2 bS hb1 nV;obtain ⟨bA,hA⟩:∃ bA,Hid (ze p.lsn (p.ss.map (·.v))=bA):=⟨_,rfl⟩;rw [hA.out];cases bA with
   | false=>
    have HE:Hid (RB=false∧Below w.heap.size w w1):=⟨FH.out (by rw [HDK.out,hA.out];rfl),qR.out _ n1⟩;go_wp2;go_ret;exact ⟨qd HE.out.1.symm,HE.out.2⟩
   | true=>
    by_cases hx:p.lsn≤e.log.sure
    ·have Vk:¬ e.log.sure<p.lsn:=by omega
     have HK:Hid (∀ j,j<k+1→zJ e.v j=true):=fun j hj=>by
      by_cases q:j=k
      ·rw [q,HDK.out,hA.out,decide_eq_true hx];rfl
      ·exact hall.out j (by omega)
     clear hx;go_wp2_with fail;go_roundw
     case rel=>exact ⟨k+1,by omega,by go_num,HK,n1⟩
     case measure=>simp [intOf];omega
    ·have Vk:e.log.sure<p.lsn:=by omega
     have HE:Hid (RB=false∧Below w.heap.size w w1):=⟨FH.out (by rw [HDK.out,hA.out,decide_eq_false hx];rfl),qR.out _ n1⟩;clear hx;go_wp2;go_ret;exact ⟨qd HE.out.1.symm,HE.out.2⟩
  ·obtain rfl:k=8:=by omega
   have hkk:¬ ((8:Nat):Int)<8:=by omega
   have HE:Hid (RB=true∧Below w.heap.size w wr):=⟨Qw.out hall.out,qR.out _ hbr⟩;go_wp2;go_ret;exact ⟨qd HE.out.1.symm,HE.out.2⟩
theorem PN (e:qa) (se:e.shape) (w:World) (re:e.reads w) (hl:e.short 1048576) (hno:∀ k,k<e.seats.length→∃ n:Nat,(e.seats.getD k qc).no=n∧n<8):
  Calls Tryz.prog 65 #[.agg e.cells.toArray] w fun r w'=>r=.returned (.bool (xZ e.v))∧Below w.heap.size w w':=by
 have hvl:e.v.seats.length=e.seats.length:=by simp [qa.v]
 have jP:Hid (∀ k,k<e.seats.length→zf e.v k=false→xZ e.v=false):=fun k hk h=>uW k (by omega) h
 have Qw:Hid ((∀ k,k<e.seats.length→zf e.v k=true)→xZ e.v=true):=fun h=>vo (fun k hk=>h k (by omega))
 have Ev:Hid (∀ k (n:Nat),(e.seats.getD k qc).no=n→n<8→zf e.v k=(decide ((e.seats.getD k qc).lsn≤(e.log.recs.length:Int)) && ((e.seats.getD k qc).dirty || yR ((e.seats.getD k qc).lsn,(e.seats.getD k qc).ss.map (·.v)) ((e.disk.getD n qM).lsn,(e.disk.getD n qM).ss.map (·.v))))):=fun k n hn h8=>by
  have e1:e.v.seats.getD k qD=(e.seats.getD k qc).v:=jZ e.seats k;have e2:(e.seats.getD k qc).v.no=n:=hn;rw [zf,e1,e2,Int.toNat_natCast,Zo se n h8];simp only [qa.v,qz.v,List.length_map];rfl
 have HNN:Hid (_):=hno;obtain ⟨jQ,Kk⟩:∃ RB,xZ e.v=RB:=⟨_,rfl⟩;rw [Kk] at jP Qw ⊢;clear Kk hno hvl;have Uv:Hid (∀ p∈e.disk,Fit p.ss):=fun p hp s hs=>by have:=hl.disk p hp s hs;omega
 have Ew:Hid (∀ s∈e.seats,Fit s.ss):=fun s hs x hx=>by have:=hl.pool.each s hs x hx;omega
 have hrl:e.log.recs.length≤1048576:=hl.log.len;have hsl:e.seats.length≤1048576:=hl.pool.len;obtain ⟨W,hW,b0,hbW,qp⟩:=qx w e.cells 42;have HB:Hid (∀ u,Below W.heap.size W u→Box u w.heap.size e.cells 42):=fun u hu=>b0.below hu b0.lt
 have HR:Hid (∀ u,Below W.heap.size W u→e.reads u):=fun u hu=>(re.below hbW).below hu
 have qR:Hid (∀ u,Below W.heap.size W u→Below w.heap.size w u):=fun u hu=>hbW.trans (hu.mono hbW.size)
 have hw0:w.heap.size<W.heap.size:=by omega
 have N:Below W.heap.size W W:=Below.refl _ _;clear b0 qp;obtain ⟨_,p1,_,_,_,_,_⟩:=qH se (HB.out W N);have l0:W.cell? ⟨w.heap.size,136,none⟩=some (.slice e.aS e.seats.length e.cS):=p1 0 _ rfl;clear p1 hl re;go_enter Tryz.func65,Tryz.ntmps65;go_upto_region 1 with fail;rw [hW.out];clear hW;go_wp2_with fail;clear l0;go_loopw [9] (fun i wr=>∃ k:Nat,k≤e.seats.length∧i=.int .i64 (k:Int)∧Hid (∀ j,j<k→zf e.v j=true)∧Below W.heap.size W wr) (fun i _=>e.seats.length-(intOf i).toNat)
 case atStart=>exact ⟨0,Nat.zero_le _,rfl,fun j hj=>by omega,N⟩
 case round=>
  clear N;obtain ⟨i,hi,rfl,hall,hbr⟩:=hrel;have uX:=hbr.size;by_cases hlt3:i<e.seats.length
  ·obtain ⟨b,off,ha,hc⟩:=XV (HR.out _ hbr).pool i hlt3;have hcr:wr.rangeAt b (off+i*20) (e.seats.getD i qc).cells:=(hc i hlt3).1;obtain ⟨nn,hnn,Xi⟩:=HNN.out i hlt3;have WR:Hid (_=_):=Ev.out i nn hnn Xi;have FK:Hid (_→_):=jP.out i hlt3;have F1:=Ew.out _ (xE e.seats i hlt3);have hnl:nn<e.disk.length:=by rw [se.eight];exact Xi
   have F2:=Uv.out _ (j4 (k:=nn) hnl);have WT:=se.yQ.at Xi;have QA:Hid (∀ u,Below W.heap.size W u→jK u (e.seats.getD i qc).ss∧jK u (e.disk.getD nn qM).ss):=fun u hu=>⟨by
    obtain ⟨_,_,_,hc2⟩:=XV (HR.out _ hu).pool i hlt3;exact (hc2 i hlt3).2,(HR.out _ hu).disk _ (j4 (k:=nn) hnl)⟩
   have Ex:Hid (∀ u,Below W.heap.size W u→u.rangeAt w.heap.size (nn*17) (e.disk.getD nn qM).cells):=fun u hu=>by
    have rp:=qa.YT se (HB.out u hu) nn hnl;rw [zm hnl] at rp;exact rp
   have ha':e.aS=some ⟨b,off,none⟩:=ha;rw [ha'];clear hc ha ha';generalize e.seats.getD i qc=s at*
   generalize e.disk.getD nn qM=p at*
   obtain ⟨ZV,uB,bZ,uY,Xh⟩:=qx wr [.int .i64 0,.int .i64 0,.bool false,.int .i64 0,.slice none 0 0,.slice none 0 0,.bool false,.int .i64 0,.slice none 0 0,.slice none 0 0,.bool false,.int .i64 0,.slice none 0 0,.slice none 0 0,.bool false,.int .i64 0,.slice none 0 0,.slice none 0 0,.bool false,.bool false] 167;obtain ⟨V,hV,Kl,Km,HT,_,bS⟩:=kg s _ rfl bZ;have nb:Below wr.heap.size wr V:=uY.trans (Kl.below (Nat.le_refl _) (by omega));have nV:Below W.heap.size W V:=hbr.trans (nb.mono hbr.size);have FJ:=bS.lt;have HS:Hid (∀ u,Below V.heap.size V u→(u.cell? ⟨wr.heap.size,1,none⟩=some (.int .i64 s.lsn)∧u.cell? ⟨w.heap.size,138,none⟩=some (.slice e.log.a e.log.recs.length e.log.c)∧u.cell? ⟨wr.heap.size,18,none⟩=some (.bool s.dirty)∧u.rangeAt wr.heap.size 1 s.page.cells∧u.cell? ⟨wr.heap.size,0,none⟩=some (.int .i64 (nn:Int))∧u.rangeAt w.heap.size (nn*17) p.cells)):=fun u hu=>by
    have bu:=bS.below hu bS.lt;have nu:=nV.trans (hu.mono nV.size);obtain ⟨_,_,q2,_,_,_,_⟩:=qH se (HB.out u nu);have z0:=bu.cell 0 _ rfl;rw [hnn] at z0;exact ⟨bu.cell 1 _ rfl,q2 0 _ rfl,bu.cell 18 _ rfl,vH s bu,z0,Ex.out u nu⟩
   have hil:(i:Int)<(e.seats.length:Int):=by omega
   have hi0:(0:Int)≤(i:Int):=by omega
   have EV:Hid (ZV.setCells wr.heap.size 0 s.cells.toArray.toList=V):=hV.out;clear bZ uY Xh Kl Km bS hV;go_upto_region 4 with (first | (guard_target=wpList _ _ _ (Oper.mk (some 12) _ _ _ _ _::_) _ _;refine wpList_load_mid rfl 167 (.tmp 11) rfl b (off+i*20) rfl (s.cells) _ hcr Tryz.underlying167 rfl (jI _) ?_) | (guard_target=wpList _ _ _ (Oper.mk none (Op.store _ (Operand.tmp 4) _) _ _ _ _::_) _ _;refine wpList_store_mid rfl 167 (.tmp 4) (.tmp 12) rfl wr.heap.size 0 s.cells.toArray rfl rfl (by rw [uB.out];exact HT.out) (by rw [List.size_toArray];exact jI _) (ko _) ?_) | fail);rw [uB.out,EV.out];clear uB EV HT hcr;have D0:Below V.heap.size V V.drew:=(Below.refl _ _).drew;have N2:Below W.heap.size W V.drew:=nV.trans (D0.mono nV.size);have qds:(0:Int)≤(nn:Int):=by omega
   have qdt:(nn:Int)<8:=by omega
   obtain ⟨dr,hdr⟩:∃ dr,Hid (s.dirty=dr):=⟨_,rfl⟩;rw [hdr.out] at HS;by_cases hx:s.lsn≤(e.log.recs.length:Int)
   ·have Vk:¬ (e.log.recs.length:Int)<s.lsn:=by omega
    cases dr with
    | true=>
     have HK:Hid (∀ j,j<i+1→zf e.v j=true):=fun j hj=>by
      by_cases q:j=i
      ·rw [q,WR.out,decide_eq_true hx,hdr.out];rfl
      ·exact hall.out j (by omega)
     clear hx;refine wp_region_held_drew (S:=fun u=>(u.cell? ⟨wr.heap.size,1,none⟩=some (.int .i64 s.lsn)∧u.cell? ⟨w.heap.size,138,none⟩=some (.slice e.log.a e.log.recs.length e.log.c)∧u.cell? ⟨wr.heap.size,18,none⟩=some (.bool true)∧u.rangeAt wr.heap.size 1 s.page.cells∧u.cell? ⟨wr.heap.size,0,none⟩=some (.int .i64 (nn:Int))∧u.rangeAt w.heap.size (nn*17) p.cells)) (by kernel_rfl) (HS.out _ D0) (fun hHeld=>?_);generalize V.drew=d0 at*
     refine tr 0 (.pointer (some ⟨wr.heap.size,1,none⟩)) ?_;refine tr 1 (.pointer (some ⟨wr.heap.size,1,none⟩)) ?_;refine tk 2 (v:=.int .i64 s.lsn) rfl (Or.inl ⟨by rfl,?_⟩) hHeld ?_
     ·intro w' hSw;have hx:=hSw.1;go_simp<;>rfl
     try simp only [zz]
     refine tr 3 (.pointer (some ⟨w.heap.size,138,none⟩)) ?_;refine tr 4 (.pointer (some ⟨w.heap.size,138,none⟩)) ?_;refine tk 5 (v:=.slice e.log.a e.log.recs.length e.log.c) rfl (Or.inl ⟨by rfl,?_⟩) hHeld ?_
     ·intro w' hSw;have hx:=hSw.2.1;go_simp<;>rfl
     try simp only [zz]
     refine tr 6 (.int .i64 (e.log.recs.length:Int)) ?_;refine tr 7 (.bool false) ?_;refine tr 8 (.bool false) ?_;refine tr 9 (.pointer (some ⟨wr.heap.size,18,none⟩)) ?_;refine tk 10 (v:=.bool true) rfl (Or.inl ⟨by rfl,?_⟩) hHeld ?_
     ·intro w' hSw;have hx:=hSw.2.2.1;go_simp<;>rfl
     try simp only [zz]
     refine tr 11 (.bool false) ?_;refine tr 12 (.bool false) ?_;refine Go.Proofs.YtjkckhfddgeboaaGreatDoor.tu 13 ?_;refine Go.Proofs.YtjkckhfddgeboaaGreatDoor.tu 14 ?_;refine Go.Proofs.YtjkckhfddgeboaaGreatDoor.tu 15 ?_;refine Go.Proofs.YtjkckhfddgeboaaGreatDoor.tu 16 ?_;refine Go.Proofs.YtjkckhfddgeboaaGreatDoor.tu 17 ?_;refine Go.Proofs.YtjkckhfddgeboaaGreatDoor.tu 18 ?_;refine Go.Proofs.YtjkckhfddgeboaaGreatDoor.tu 19 ?_;refine Go.Proofs.YtjkckhfddgeboaaGreatDoor.tu 20 ?_;refine Go.Proofs.YtjkckhfddgeboaaGreatDoor.tu 21 ?_;refine tr 22 (.bool false) ?_;refine tr 23 (.bool false) ?_;refine wpAnyH_done (by kernel_rfl) ?_ _;clear hHeld;go_wp2_with fail;go_roundw
     case rel=>exact ⟨i+1,by omega,by go_num,HK,N2⟩
     case measure=>simp [intOf];omega
    | false=>
     obtain ⟨sm,XW⟩:∃ sm,Hid (yR (s.lsn,s.ss.map (·.v)) (p.lsn,p.ss.map (·.v))=sm):=⟨_,rfl⟩;have Mw:Hid (_=_):=XW.out;replace XW:Hid (yR (s.page.lsn,s.page.ss.map (·.v)) (p.lsn,p.ss.map (·.v))=sm):=XW.out;cases sm with
     | true=>
      have HK:Hid (∀ j,j<i+1→zf e.v j=true):=fun j hj=>by
       by_cases q:j=i
       ·rw [q,WR.out,decide_eq_true hx,hdr.out,Mw.out];rfl
       ·exact hall.out j (by omega)
      clear hx;refine wp_region_held_drew (S:=fun u=>(u.cell? ⟨wr.heap.size,1,none⟩=some (.int .i64 s.lsn)∧u.cell? ⟨w.heap.size,138,none⟩=some (.slice e.log.a e.log.recs.length e.log.c)∧u.cell? ⟨wr.heap.size,18,none⟩=some (.bool false)∧u.rangeAt wr.heap.size 1 s.page.cells∧u.cell? ⟨wr.heap.size,0,none⟩=some (.int .i64 (nn:Int))∧u.rangeAt w.heap.size (nn*17) p.cells)) (by kernel_rfl) (HS.out _ D0) (fun hHeld=>?_);generalize V.drew=d0 at*
      refine tr 0 (.pointer (some ⟨wr.heap.size,1,none⟩)) ?_;refine tr 1 (.pointer (some ⟨wr.heap.size,1,none⟩)) ?_;refine tk 2 (v:=.int .i64 s.lsn) rfl (Or.inl ⟨by rfl,?_⟩) hHeld ?_
      ·intro w' hSw;have hx:=hSw.1;go_simp<;>rfl
      try simp only [zz]
      refine tr 3 (.pointer (some ⟨w.heap.size,138,none⟩)) ?_;refine tr 4 (.pointer (some ⟨w.heap.size,138,none⟩)) ?_;refine tk 5 (v:=.slice e.log.a e.log.recs.length e.log.c) rfl (Or.inl ⟨by rfl,?_⟩) hHeld ?_
      ·intro w' hSw;have hx:=hSw.2.1;go_simp<;>rfl
      try simp only [zz]
      refine tr 6 (.int .i64 (e.log.recs.length:Int)) ?_;refine tr 7 (.bool false) ?_;refine tr 8 (.bool false) ?_;refine tr 9 (.pointer (some ⟨wr.heap.size,18,none⟩)) ?_;refine tk 10 (v:=.bool false) rfl (Or.inl ⟨by rfl,?_⟩) hHeld ?_
      ·intro w' hSw;have hx:=hSw.2.2.1;go_simp<;>rfl
      try simp only [zz]
      refine tr 11 (.bool true) ?_;refine tr 12 (.bool true) ?_;refine tr 13 (.pointer (some ⟨wr.heap.size,1,none⟩)) ?_;refine Go.Proofs.YtjkckhfddgeboaaGreatDoor.ts 14 rfl (yieldsIf_load_mid (by rfl) _ _ rfl _ _ rfl (s.page.cells) _ (fun _ h=>h.2.2.2.1) Tryz.underlying31 rfl (jM _ rfl)) ?_;refine tr 15 (.pointer (some ⟨wr.heap.size,0,none⟩)) ?_;refine tk 16 (v:=.int .i64 (nn:Int)) rfl (Or.inl ⟨by rfl,?_⟩) hHeld ?_
      ·intro w' hSw;have hx:=hSw.2.2.2.2.1;go_simp<;>rfl
      try simp only [zz]
      refine tr 17 (.pointer (some ⟨w.heap.size,0,none⟩)) ?_;refine tr 18 (.pointer (some ⟨w.heap.size,nn*17,none⟩)) ?_;refine Go.Proofs.YtjkckhfddgeboaaGreatDoor.ts 19 rfl (yieldsIf_load_mid (by rfl) _ _ rfl _ _ rfl (p.cells) _ (fun _ h=>h.2.2.2.2.2) Tryz.underlying31 rfl (jM _ WT)) ?_;refine wpAnyH_ready (rs:=[20]) (by kernel_rfl) (by simp) ?_;refine AllReadyH.cons rfl (fun K hK=>?_) AllReadyH.nil;go_simp;refine (Xj s.page p rfl WT _ (QA.out _ N2).1 (QA.out _ N2).2 F1 F2).mono ?_;rintro r d1 ⟨rfl,hb1⟩;have D1:Below V.heap.size V d1:=D0.trans (hb1.mono D0.size);have N3:Below W.heap.size W d1:=nV.trans (D1.mono nV.size);rw [XW.out];refine hK.out _ _ (HS.out _ D1) (fun hHeld=>?_);clear hK K hb1;try simp only [zz]
      refine tr 21 (.bool false) ?_;refine tr 22 (.bool false) ?_;refine tr 23 (.bool false) ?_;refine wpAnyH_done (by kernel_rfl) ?_ _;clear hHeld;go_wp2_with fail;go_roundw
      case rel=>exact ⟨i+1,by omega,by go_num,HK,N3⟩
      case measure=>simp [intOf];omega
     | false=>
      have YU:Hid (jQ=false):=FK.out (by rw [WR.out,decide_eq_true hx,hdr.out,Mw.out];rfl);clear hx;refine wp_region_held_drew (S:=fun u=>(u.cell? ⟨wr.heap.size,1,none⟩=some (.int .i64 s.lsn)∧u.cell? ⟨w.heap.size,138,none⟩=some (.slice e.log.a e.log.recs.length e.log.c)∧u.cell? ⟨wr.heap.size,18,none⟩=some (.bool false)∧u.rangeAt wr.heap.size 1 s.page.cells∧u.cell? ⟨wr.heap.size,0,none⟩=some (.int .i64 (nn:Int))∧u.rangeAt w.heap.size (nn*17) p.cells)) (by kernel_rfl) (HS.out _ D0) (fun hHeld=>?_);generalize V.drew=d0 at*
      refine tr 0 (.pointer (some ⟨wr.heap.size,1,none⟩)) ?_;refine tr 1 (.pointer (some ⟨wr.heap.size,1,none⟩)) ?_;refine tk 2 (v:=.int .i64 s.lsn) rfl (Or.inl ⟨by rfl,?_⟩) hHeld ?_
      ·intro w' hSw;have hx:=hSw.1;go_simp<;>rfl
      try simp only [zz]
      refine tr 3 (.pointer (some ⟨w.heap.size,138,none⟩)) ?_;refine tr 4 (.pointer (some ⟨w.heap.size,138,none⟩)) ?_;refine tk 5 (v:=.slice e.log.a e.log.recs.length e.log.c) rfl (Or.inl ⟨by rfl,?_⟩) hHeld ?_
      ·intro w' hSw;have hx:=hSw.2.1;go_simp<;>rfl
      try simp only [zz]
      refine tr 6 (.int .i64 (e.log.recs.length:Int)) ?_;refine tr 7 (.bool false) ?_;refine tr 8 (.bool false) ?_;refine tr 9 (.pointer (some ⟨wr.heap.size,18,none⟩)) ?_;refine tk 10 (v:=.bool false) rfl (Or.inl ⟨by rfl,?_⟩) hHeld ?_
      ·intro w' hSw;have hx:=hSw.2.2.1;go_simp<;>rfl
      try simp only [zz]
      refine tr 11 (.bool true) ?_;refine tr 12 (.bool true) ?_;refine tr 13 (.pointer (some ⟨wr.heap.size,1,none⟩)) ?_;refine Go.Proofs.YtjkckhfddgeboaaGreatDoor.ts 14 rfl (yieldsIf_load_mid (by rfl) _ _ rfl _ _ rfl (s.page.cells) _ (fun _ h=>h.2.2.2.1) Tryz.underlying31 rfl (jM _ rfl)) ?_;refine tr 15 (.pointer (some ⟨wr.heap.size,0,none⟩)) ?_;refine tk 16 (v:=.int .i64 (nn:Int)) rfl (Or.inl ⟨by rfl,?_⟩) hHeld ?_
      ·intro w' hSw;have hx:=hSw.2.2.2.2.1;go_simp<;>rfl
      try simp only [zz]
      refine tr 17 (.pointer (some ⟨w.heap.size,0,none⟩)) ?_;refine tr 18 (.pointer (some ⟨w.heap.size,nn*17,none⟩)) ?_;refine Go.Proofs.YtjkckhfddgeboaaGreatDoor.ts 19 rfl (yieldsIf_load_mid (by rfl) _ _ rfl _ _ rfl (p.cells) _ (fun _ h=>h.2.2.2.2.2) Tryz.underlying31 rfl (jM _ WT)) ?_;refine wpAnyH_ready (rs:=[20]) (by kernel_rfl) (by simp) ?_;refine AllReadyH.cons rfl (fun K hK=>?_) AllReadyH.nil;go_simp;refine (Xj s.page p rfl WT _ (QA.out _ N2).1 (QA.out _ N2).2 F1 F2).mono ?_;rintro r d1 ⟨rfl,hb1⟩;have D1:Below V.heap.size V d1:=D0.trans (hb1.mono D0.size);have N3:Below W.heap.size W d1:=nV.trans (D1.mono nV.size);rw [XW.out];refine hK.out _ _ (HS.out _ D1) (fun hHeld=>?_);clear hK K hb1;try simp only [zz]
      refine tr 21 (.bool true) ?_;refine tr 22 (.bool true) ?_;refine tr 23 (.bool true) ?_;refine wpAnyH_done (by kernel_rfl) ?_ _;clear hHeld;have HE:Hid (jQ=false∧Below w.heap.size w d1):=⟨YU.out,qR.out _ N3⟩;go_wp2;go_ret;exact ⟨qd HE.out.1.symm,HE.out.2⟩
   ·have Vk:(e.log.recs.length:Int)<s.lsn:=by omega
    have YU:Hid (jQ=false):=FK.out (by rw [WR.out,decide_eq_false hx];rfl);clear hx;refine wp_region_held_drew (S:=fun u=>(u.cell? ⟨wr.heap.size,1,none⟩=some (.int .i64 s.lsn)∧u.cell? ⟨w.heap.size,138,none⟩=some (.slice e.log.a e.log.recs.length e.log.c)∧u.cell? ⟨wr.heap.size,18,none⟩=some (.bool dr)∧u.rangeAt wr.heap.size 1 s.page.cells∧u.cell? ⟨wr.heap.size,0,none⟩=some (.int .i64 (nn:Int))∧u.rangeAt w.heap.size (nn*17) p.cells)) (by kernel_rfl) (HS.out _ D0) (fun hHeld=>?_);generalize V.drew=d0 at*
    refine tr 0 (.pointer (some ⟨wr.heap.size,1,none⟩)) ?_;refine tr 1 (.pointer (some ⟨wr.heap.size,1,none⟩)) ?_;refine tk 2 (v:=.int .i64 s.lsn) rfl (Or.inl ⟨by rfl,?_⟩) hHeld ?_
    ·intro w' hSw;have hx:=hSw.1;go_simp<;>rfl
    try simp only [zz]
    refine tr 3 (.pointer (some ⟨w.heap.size,138,none⟩)) ?_;refine tr 4 (.pointer (some ⟨w.heap.size,138,none⟩)) ?_;refine tk 5 (v:=.slice e.log.a e.log.recs.length e.log.c) rfl (Or.inl ⟨by rfl,?_⟩) hHeld ?_
    ·intro w' hSw;have hx:=hSw.2.1;go_simp<;>rfl
    try simp only [zz]
    refine tr 6 (.int .i64 (e.log.recs.length:Int)) ?_;refine tr 7 (.bool true) ?_;refine tr 8 (.bool true) ?_;refine Go.Proofs.YtjkckhfddgeboaaGreatDoor.tu 9 ?_;refine Go.Proofs.YtjkckhfddgeboaaGreatDoor.tu 10 ?_;refine Go.Proofs.YtjkckhfddgeboaaGreatDoor.tu 11 ?_;refine Go.Proofs.YtjkckhfddgeboaaGreatDoor.tu 12 ?_;refine Go.Proofs.YtjkckhfddgeboaaGreatDoor.tu 13 ?_;refine Go.Proofs.YtjkckhfddgeboaaGreatDoor.tu 14 ?_;refine Go.Proofs.YtjkckhfddgeboaaGreatDoor.tu 15 ?_;refine Go.Proofs.YtjkckhfddgeboaaGreatDoor.tu 16 ?_;refine Go.Proofs.YtjkckhfddgeboaaGreatDoor.tu 17 ?_;refine Go.Proofs.YtjkckhfddgeboaaGreatDoor.tu 18 ?_;refine Go.Proofs.YtjkckhfddgeboaaGreatDoor.tu 19 ?_;refine Go.Proofs.YtjkckhfddgeboaaGreatDoor.tu 20 ?_;refine Go.Proofs.YtjkckhfddgeboaaGreatDoor.tu 21 ?_;refine Go.Proofs.YtjkckhfddgeboaaGreatDoor.tu 22 ?_;refine tr 23 (.bool true) ?_;refine wpAnyH_done (by kernel_rfl) ?_ _;clear hHeld;have HE:Hid (jQ=false∧Below w.heap.size w d0):=⟨YU.out,qR.out _ N2⟩;go_wp2;go_ret;exact ⟨qd HE.out.1.symm,HE.out.2⟩
  ·have e1:i=e.seats.length:=by omega
   have HE:Hid (jQ=true∧Below w.heap.size w wr):=⟨Qw.out (by rw [e1] at hall;exact hall.out),qR.out _ hbr⟩;have hge:¬ (i:Int)<(e.seats.length:Int):=by omega
   clear hall e1;go_wp2;go_ret;exact ⟨qd HE.out.1.symm,HE.out.2⟩
theorem Jh (p:qw) (h4:p.ss.length=4) (w:World) (hr:jK w p.ss) (hl:Fit p.ss):
  Calls Tryz.prog 146 #[.agg p.cells.toArray] w fun e w'=>∃ ts:List qf,e=.returned (.agg (qw.cells ⟨p.lsn,ts⟩).toArray)∧Hid (ts.map (·.v)=p.ss.map (·.v))∧qG w' w.heap.size w'.heap.size ts∧Below w.heap.size w w':=by
 obtain ⟨n,ss⟩:=p;simp only [qw.cells] at*
 obtain ⟨W,hW,b0,b1,b2,hbW,qp⟩:=yn w (.int .i64 n::cellsS ss) [.int .i64 0,.bool false,.int .i64 0,.slice none 0 0,.slice none 0 0,.bool false,.int .i64 0,.slice none 0 0,.slice none 0 0,.bool false,.int .i64 0,.slice none 0 0,.slice none 0 0,.bool false,.int .i64 0,.slice none 0 0,.slice none 0 0] [.int .i64 n,.bool false,.int .i64 0,.slice none 0 0,.slice none 0 0,.bool false,.int .i64 0,.slice none 0 0,.slice none 0 0,.bool false,.int .i64 0,.slice none 0 0,.slice none 0 0,.bool false,.int .i64 0,.slice none 0 0,.slice none 0 0] 31 31 31;have b1':Box W (w.heap.size+1) ([]++((.int .i64 0::cellsS Ji)++[])) 31:=b1;have b2':Box W (w.heap.size+1+1) (.int .i64 n::cellsS ([]++List.replicate (4-0) qh)) 31:=b2;have sK:w.heap.size+1+1<W.heap.size:=by omega
 have hc0:(((w.alloc (.cells (.int .i64 n::cellsS ss).toArray 31)).alloc (.cells #[.int .i64 0,.bool false,.int .i64 0,.slice none 0 0,.slice none 0 0,.bool false,.int .i64 0,.slice none 0 0,.slice none 0 0,.bool false,.int .i64 0,.slice none 0 0,.slice none 0 0,.bool false,.int .i64 0,.slice none 0 0,.slice none 0 0] 31))).cell? ⟨w.heap.size,0,none⟩=some (.int .i64 n):=((yF w (.int .i64 n::cellsS ss) 31).alloc _).cell 0 _ rfl;have hrg0:W.rangeAt w.heap.size 1 (cellsS ss):=Box.range [.int .i64 n] (cellsS ss) [] (by simpa using b0);have hi0:(Tryz.prog.info? 29).map (·.size)=some (cellsS ss).length:=by rw [jq,h4];kernel_rfl
 have HX:=Qi ss h4;have H4:Hid (ss.length=4):=h4;clear b1 b2 qp h4;go_enter Tryz.func146,Tryz.ntmps146;go_wp2_with (first | (guard_target=wpList _ _ _ (Oper.mk (some 10) _ _ _ _ _::_) _ _;refine wpList_load_mid rfl 29 (.tmp 9) rfl w.heap.size 1 rfl (cellsS ss) _ (by rw [hW.out];exact hrg0) Tryz.underlying29 rfl hi0 ?_) | fail);rw [hW.out];clear hW hrg0 hi0 hc0;go_loopw [11] (fun i wr=>∃ (k:Nat) (ts:List qf),i=.int .i64 k∧k≤4∧Hid (ts.length=k∧ts.map (·.v)=(ss.take k).map (·.v))∧qG wr W.heap.size wr.heap.size ts∧Box wr (w.heap.size+1+1) (.int .i64 n::cellsS (ts++List.replicate (4-k) qh)) 31∧Below (w.heap.size+1+1) W wr)
  (fun i _=>4-(intOf i).toNat)
 case atStart=>exact ⟨0,[],rfl,by omega,⟨rfl,rfl⟩,qG.nil _ _ _,b2',Below.refl _ _⟩
 case round=>
  obtain ⟨k,ts,rfl,hk,hts,hown,wE,hbl⟩:=hrel;clear b2';have Vl:=b1'.below hbl (by omega);have uX:=hbl.size;have hsz:=wE.lt;by_cases hlt:k<4
  ·have hkl:k<ss.length:=by rw [H4.out];exact hlt
   have hx:=HX k hlt;clear HX;have YV:=(hr _ (jV hkl)).below (hbW.trans (hbl.mono (by omega)));have hlk:=hl _ (jV hkl);have HV:Hid ((ss.take (k+1)).map (·.v)=(ss.take k).map (·.v)++[(ss.getD k qh).v]):=by
    rw [Hid,List.take_add_one,List.map_append];simp [List.getD,hkl]
   generalize ss.getD k qh=s at*
   simp only [qf.cells] at hx;obtain ⟨W1,hW1,bx,Vm,qdu⟩:=qx wr [.bool s.v.has,.int .i64 s.v.o.kind,.slice s.aI s.v.o.ints.length s.cI,.slice s.aR s.v.o.refs.length s.cR] 28;have C:=Jj s W1 (qQ.below YV Vm) hlk.1 hlk.2;simp only [qf.cells] at C;go_wp2_with fail;rw [hW1.out];refine C.mono ?_;clear C hx YV hlk;rintro e w1 ⟨t,rfl,hv,ho,hb1⟩;have hs1:=hb1.size;have N1:Below wr.heap.size wr w1:=Vm.trans (hb1.mono (by omega));have hbx:=wE.below N1 hsz;have hkt:k<(ts++List.replicate (4-k) qh).length:=by have:=hts.out.1;simp;omega
   obtain ⟨W2,hW2,b2,hw2,hs2⟩:=WU hbx k hkt t;obtain ⟨x0,x1,x2,x3,hfz⟩:=hbx.Me k hkt;have f0:=hfz (1+k*4);have f1:=hfz (1+k*4+1);have f2:=hfz (1+k*4+2);have f3:=hfz (1+k*4+3);generalize (ts++List.replicate (4-k) qh).getD k qh=old at*
   have b2':Box W2 (w.heap.size+1+1) (.int .i64 n::cellsS ((ts++[t])++List.replicate (4-(k+1)) qh)) 31:=by
    rw [show 4-k=(4-(k+1))+1 by omega] at b2;have e:=U4 ts (4-(k+1)) t;rw [hts.out.1] at e;rw [e] at b2;exact b2
   have hown1:qG w1 W.heap.size W1.heap.size ts:=(hown.below N1).widen (Nat.le_refl _) (by omega) (by omega);have Xk:qG w1 W.heap.size w1.heap.size (ts++[t]):=hown1.snoc ho (by omega) hs1 (Nat.le_refl _);have hO2:qG W2 W.heap.size W2.heap.size (ts++[t]):=(Xk.within hw2 (.inr (by omega))).widen (Nat.le_refl _) (by omega) (Nat.le_refl _);have hB2:Below (w.heap.size+1+1) W W2:=(hbl.trans (N1.mono (by omega))).trans (hw2.below (Nat.le_refl _) (by omega));have HT:Hid ((ts++[t]).length=k+1∧(ts++[t]).map (·.v)=(ss.take (k+1)).map (·.v)):=by
    refine ⟨by have:=hts.out.1;simp;omega,?_⟩;rw [HV.out,List.map_append,hts.out.2,← hv.out];rfl
   have hi0:(0:Int)≤(k:Int):=by omega
   have hi4:(k:Int)<4:=by omega
   clear hfz hs2 hw2 b2 Xk hown hown1 wE hbx hts HV hkt hb1 ho N1 Vm;go_wp2_with fail;rw [hW2.out];go_roundw
   case rel=>exact ⟨k+1,ts++[t],by go_num,by omega,HT,hO2,b2',hB2⟩
   case measure=>simp [intOf];omega
  ·obtain rfl:k=4:=by omega
   have hkk:¬ ((4:Nat):Int)<4:=by omega
   have YW:ts++List.replicate (4-4) qh=ts:=by simp
   rw [YW] at wE;have htl:ts.length=4:=hts.out.1;have Ey:Hid (ts.map (·.v)=ss.map (·.v)):=by rw [Hid,hts.out.2,List.take_of_length_le (by rw [H4.out];omega)]
   obtain ⟨WF,qF,bF,hwF,qN⟩:=jb [] (.int .i64 0::cellsS Ji) (.int .i64 n::cellsS ts) [] Vl (by simp only [List.length_cons,jq,htl];rfl);have zK:Hid (wr.setCells (w.heap.size+1) 0 (.int .i64 n::cellsS ts)=WF):=qF.out;have HR2:Hid (wr.rangeAt (w.heap.size+1+1) 0 (.int .i64 n::cellsS ts)):=Box.range [] (.int .i64 n::cellsS ts) [] (by simpa using wE);have kz:Hid (wr.there (w.heap.size+1) 0 (.int .i64 n::cellsS ts).toArray.size):=Vl.there 0 _ (by simp only [List.size_toArray,jq,htl,List.length_append,List.length_cons,List.length_nil];decide);have YX:WF.rangeAt (w.heap.size+1) 0 (.int .i64 n::cellsS ts):=Box.range [] (.int .i64 n::cellsS ts) [] (by simpa using bF);have HI:Hid ((Tryz.prog.info? 31).map (·.size)=some (.int .i64 n::cellsS ts).length):=by rw [Hid,List.length_cons,jq,htl];kernel_rfl
   have HO:Hid (_):=all_oneCell_toArray (Qx ⟨n,ts⟩);have yG:Hid (_):=run_loadVar_mid (P:=Tryz.prog) _ (w.heap.size+1) 0 31 (.int .i64 n::cellsS ts) _ YX Tryz.underlying31 rfl HI.out;have Ez:Hid (qG WF w.heap.size WF.heap.size ts):=(hown.within hwF (.inr (by omega))).widen (by omega) (by omega) (Nat.le_refl _);have Mx:Hid (Below w.heap.size w WF):=(hbW.trans (hbl.mono (by omega))).trans (hwF.below (by omega) (by omega));simp only [qw.cells] at HO;clear qF bF hwF qN YX YW htl wE hown HX hts;go_wp2_with (first | (guard_target=wpList _ _ _ (Oper.mk (some 21) _ _ _ _ _::_) _ _;refine wpList_load_mid rfl 31 (.tmp 3) rfl (w.heap.size+1+1) 0 rfl (.int .i64 n::cellsS ts) _ HR2.out Tryz.underlying31 rfl HI.out ?_) | (guard_target=wpList _ _ _ (Oper.mk none (Op.store _ (Operand.tmp 2) _) _ _ _ _::_) _ _;refine wpList_store_mid rfl 31 (.tmp 2) (.tmp 21) rfl (w.heap.size+1) 0 (.int .i64 n::cellsS ts).toArray rfl rfl kz.out (by rw [List.size_toArray];exact HI.out) HO.out ?_) | fail);rw [zK.out];exact bodyPost_ret (v:=.agg (.int .i64 n::cellsS ts).toArray) (jk Tryz.results146 rfl yG.out) rfl ⟨ts,rfl,Ey,Ez.out,Mx.out⟩
theorem Vn {w:World} {ops:Array Oper} {rest:List Oper} {dst:Option Nat} {ty:TypeId} {pos:String} {KN:Array Edge} {act:Act} {Q:Exit→Act→World→Prop} (x:Operand)
  (q:qb) (hx:act.eval x=.agg q.cells.toArray)
  (h:wpList Tryz.prog ops Q rest (act.put dst (.slice (some ⟨w.heap.size,0,none⟩) 1 1)) (w.alloc (.cells q.cells.toArray 167))):
  wpList Tryz.prog ops Q ({ dst:=dst,op:=.buildSlice 33 1 #[(0,x)],type:=ty,pos:=pos,after:=KN,guard:=none }::rest) act w:=by
 refine wpList_plain rfl fun K hK=>?_
 unfold Oper.wp execOp;simp only [List.map_toArray,List.map_cons,List.map_nil,hx];go_simp;simp only [xg,JU,not_true_eq_false,Nat.lt_irrefl,or_self,if_false];go_simp;exact hK _ _ h
theorem zL (l:qi) (w:World) (hr:l.reads w) (hl:l.short 1048576):
  Calls Tryz.prog 147 #[.agg l.cells.toArray] w fun e w'=>∃ t:qi,e=.returned (.agg t.cells.toArray)∧Hid (t.v=l.v)∧t.own w' w.heap.size w'.heap.size∧Below w.heap.size w w':=by
 obtain ⟨rs,s,a,c⟩:=l;have hl2:=(qi.qZ hl).each;have hl0:=hl.len;simp only [qi.reads,qi.cells,qi.own] at*
 obtain ⟨W,hW,b0,b1,b2,hbW,qp⟩:=yn w [.slice a rs.length c,.int .i64 s] [.slice none 0 0,.int .i64 0] [.slice none 0 0,.int .i64 s] 35 35 35;have hs0:w.heap.size+1+1<W.heap.size:=by omega
 clear qp;have x0:=b0.cell 0 _ rfl;have HC:Hid (∀ k,k<rs.length→∃ b off,a=some ⟨b,off,none⟩∧w.rangeAt b (off+k*20) (rs.getD k qc).cells∧(rs.getD k qc).reads w∧(rs.getD k qc).short 1099511627776):=fun k hk=>by
  obtain ⟨b,off,ha,hc⟩:=hr (by intro e;rw [e] at hk;simp at hk);exact ⟨b,off,ha,(hc k hk).1,(hc k hk).2,hl2 _ (xE rs k hk)⟩
 have HJ:Hid ((Tryz.prog.info? 167).map (·.size)=some 20):=by rw [Hid];kernel_rfl
 clear hr hl hl2;go_enter Tryz.func147,Tryz.ntmps147;go_wp2_with fail;rw [hW.out];clear hW x0;go_loopw [12] (fun i wr=>∃ (k:Nat) (ts:List qb) (a':Option Addr) (c':Nat),k≤rs.length∧i=.int .i64 k∧Hid (uC rs ts k)∧Box wr (w.heap.size+1+1) [.slice a' ts.length c',.int .i64 s] 35∧Box wr (w.heap.size+1) [.slice none 0 0,.int .i64 0] 35∧OwnSts wr W.heap.size wr.heap.size a' c' ts∧Below w.heap.size w wr∧W.heap.size≤wr.heap.size)
  (fun i _=>rs.length-(intOf i).toNat)
 case atStart=>exact ⟨0,[],none,0,Nat.zero_le _,rfl,YD rs,b2,b1,WV _ _ _ (Nat.le_refl _),hbW,Nat.le_refl _⟩
 case round=>
  obtain ⟨k,ts,a',c',hk,rfl,hc,k2,k1,hown,hnx,hsz⟩:=hrel;clear b0 b1 b2 hbW;by_cases hlt:k<rs.length
  ·obtain ⟨b,off,rfl,hcell,hrd,hsh⟩:=HC.out k hlt;have hnw:=hnx.size;have wQ:Hid (wr.rangeAt b (off+k*20) (rs.getD k qc).cells):=xU hcell hnx (Jk hcell);have HS:Hid (∀ q:qb,q.v=(rs.getD k qc).v→uC rs (ts++[q]) (k+1)):=fun q hq=>hc.out.snoc hlt hq
   have hll:ts.length+1≤68719476736:=by have:=hc.out.1;omega
   have MB:=hrd.below hnx;have hkk:(k:Int)<(rs.length:Int):=by omega
   have hk0:(0:Int)≤(k:Int):=by omega
   clear hcell HC hrd hc;generalize rs.getD k qc=z at*
   obtain ⟨W1,hW1,d1,hb1,hs1⟩:=qx wr [.int .i64 0,.int .i64 0,.bool false,.int .i64 0,.slice none 0 0,.slice none 0 0,.bool false,.int .i64 0,.slice none 0 0,.slice none 0 0,.bool false,.int .i64 0,.slice none 0 0,.slice none 0 0,.bool false,.int .i64 0,.slice none 0 0,.slice none 0 0,.bool false,.bool false] 167;obtain ⟨W2,hW2,hw2,hs2,HT2,_,d2⟩:=kg z _ rfl d1;have hB2:Below wr.heap.size wr W2:=hb1.trans (hw2.below (Nat.le_refl _) (by omega));have xp:W2.rangeAt wr.heap.size 1 z.page.cells:=vH z d2;have Jl:=Tryz.Jm z.page rfl;have C:=Jh z.page rfl W2 (MB.below hB2) hsh;have HW2:Hid (W1.setCells wr.heap.size 0 z.cells.toArray.toList=W2):=hW2.out;have Vo:=ko z;have k22:=k2.below hB2 k2.lt;have k12:=k1.below hB2 k1.lt;have o2:=hown.below hB2;have hn2:Below w.heap.size w W2:=hnx.trans (hB2.mono hnw);have sM:=hB2.size;have hd2:=d2.lt;clear hs1 hs2 d1 hb1 hw2 hW2 MB hsh k2 k1 hown hnx;generalize hpc:z.page.cells=pc at*
   go_wp2_with (first | (guard_target=wpList _ _ _ (Oper.mk (some 15) _ _ _ _ _::_) _ _;refine wpList_load_mid rfl 167 (.tmp 14) rfl b (off+k*20) rfl z.cells _ wQ.out Tryz.underlying167 rfl HJ.out ?_) | (guard_target=wpList _ _ _ (Oper.mk none (Op.store _ (Operand.tmp 5) _) _ _ _ _::_) _ _;refine wpList_store_mid rfl 167 (.tmp 5) (.tmp 15) rfl wr.heap.size 0 z.cells.toArray rfl rfl (by rw [hW1.out];exact HT2.out) HJ.out Vo ?_;rw [hW1.out,HW2.out]) | (guard_target=wpList _ _ _ (Oper.mk (some 17) _ _ _ _ _::_) _ _;refine wpList_load_mid rfl 31 (.tmp 16) rfl wr.heap.size 1 rfl pc _ xp Tryz.underlying31 rfl Jl ?_) | fail);refine C.mono ?_;clear C xp Jl wQ hW1 HW2 HT2 hpc;rintro e w3 ⟨us,rfl,hv,ho,hb3⟩;obtain ⟨y0,y1,y2,y3,rfl⟩:=QB (ts:=us) (by have:=congrArg List.length hv.out;simpa [qb.page,qb.ss] using this);have hs3:=hb3.size;have d3:=d2.below hb3 d2.lt;obtain ⟨W4,vg,d4,hw4,hs4,qdv⟩:=Vp z d3 z.page.lsn y0 y1 y2 y3;obtain ⟨q,hq⟩:∃ q:qb,Hid ((⟨z.no,z.page.lsn,y0,y1,y2,y3,z.dirty,z.hot⟩:qb)=q):=⟨_,rfl⟩;rw [hq.out] at d4;have oq:q.own w3 W2.heap.size w3.heap.size:=by rw [← hq.out];exact ho
   have HV:Hid (q.v=z.v):=by rw [Hid,← hq.out];simp only [qb.v,qb.ss];rw [show List.map (fun x:qf=>x.v) [y0,y1,y2,y3]=z.page.ss.map (·.v) from hv.out];rfl
   have k24:=(k22.below hb3 k22.lt).within hw4 (by omega);have k14:=(k12.below hb3 k12.lt).within hw4 (by omega);have o4:=(o2.below hb3).within hw4 (.inl (by omega));have dX:=oq.within hw4 (.inr (by omega));have EA:Below w.heap.size w W4:=(hn2.trans (hb3.mono hn2.size)).trans (hw4.below (by omega) (by omega));have rq:W4.rangeAt wr.heap.size 0 q.cells:=Box.range [] q.cells [] (by simpa using d4);have HI1:=Tryz.Jm ⟨z.page.lsn,[y0,y1,y2,y3]⟩ rfl;have YY:=U5 ⟨z.page.lsn,[y0,y1,y2,y3]⟩;have HI2:=jI q;have FL:Hid (w3.setCells wr.heap.size 1 (qw.cells ⟨z.page.lsn,[y0,y1,y2,y3]⟩).toArray.toList=W4):=vg.out;have e0:=k24.cell 0 _ rfl;have qdw:=Nat.le_of_eq hs4;have qdx:=Nat.le_of_eq hs4.symm;obtain ⟨W5,uM,d5,hb5,hs5⟩:=qx W4 q.cells 167;have k25:=k24.below hb5 k24.lt;have k15:=k14.below hb5 k14.lt;have o5:=o4.below hb5;have Vq:=dX.below hb5;have hn5:Below w.heap.size w W5:=EA.trans (hb5.mono EA.size);have r5:W5.rangeAt W4.heap.size 0 q.cells:=Box.range [] q.cells [] (by simpa using d5);have qdy:=hb5.size;clear vg hq hs4 hw4 d3 d4 d2 oq ho hv hb3 k22 k12 o2 k24 k14 o4 dX hn2 EA hb5 d5 hs5;generalize qw.cells ⟨z.page.lsn,[y0,y1,y2,y3]⟩=pc2 at*
   go_wp2_with (first | (guard_target=wpList _ _ _ (Oper.mk none (Op.store _ (Operand.tmp 19) _) _ _ _ _::_) _ _;refine wpList_store_mid rfl 31 (.tmp 19) (.tmp 18) rfl wr.heap.size 1 pc2.toArray rfl rfl qdv (by rw [List.size_toArray];exact HI1) YY ?_;rw [FL.out]) | (guard_target=wpList _ _ _ (Oper.mk (some 22) _ _ _ _ _::_) _ _;refine wpList_load_mid rfl 167 (.tmp 5) rfl wr.heap.size 0 rfl q.cells _ rq Tryz.underlying167 rfl HI2 ?_) | (guard_target=wpList _ _ _ (Oper.mk (some 23) _ _ _ _ _::_) _ _;refine Vn (.tmp 22) q rfl ?_;rw [uM.out]) | (guard_target=wpList _ _ _ (Oper.mk (some 24) _ _ _ _ _::_) _ _;refine PO rfl _ _ rfl W.heap.size wr.heap.size a' c' ts rfl o5 W4.heap.size 0 1 q rfl r5 W2.heap.size w3.heap.size Vq (by omega) (by omega) hll (by omega) ?_) | fail);intro a9 c9 w9 o9 g9;have HCM:=HS.out q HV.out;obtain ⟨ys,hys⟩:∃ ys,Hid (ts++[q]=ys):=⟨_,rfl⟩;have hyl:ts.length+1=ys.length:=by rw [← hys.out];simp
   rw [hys.out] at o9 HCM;rw [hyl];clear hyl;have xL:Within W.heap.size wr.heap.size W5 w9:=Within.jw g9 (fun j hj=>⟨(o5.row.lt j hj).1,o5.blk j hj⟩);have ZK:=xL.size;have Je:Below w.heap.size w w9:=hn5.trans (xL.below (by omega) (by omega));have zR:=k25.within xL (by omega);have k19:=k15.within xL (by omega);have m0:=zR.cell 0 _ rfl;have wZ:=zR.frozen 0;obtain ⟨WF,qF,kF,hwF,qN⟩:=jB zR 0 (.slice a9 ys.length c9);simp only [List.set] at kF;have Xg:=Nat.le_of_eq qN;have uK:=Nat.le_of_eq qN.symm;have YO:=k19.within hwF (by omega);have oF:=(o9.within hwF (.inr (by omega))).widen (Nat.le_refl _) uK (Nat.le_refl _);have hnF:Below w.heap.size w WF:=Je.trans (hwF.below (by omega) (by omega));clear hwF zR k19 o9 qN g9 xL e0 k25 k15 o5 Vq r5 rq FL uM;go_wp2_with fail;rw [qF.out];go_roundw
   case rel=>exact ⟨k+1,ys,a9,c9,by omega,by go_num,HCM,kF,YO,oF,hnF,by omega⟩
   case measure=>simp [intOf];omega
  ·have HE:Hid (ts.map qb.v=rs.map qb.v):=by
    have e:k=rs.length:=by omega
    rw [e] at hc;exact hc.out.all
   have e0:=k2.cell 0 _ rfl;have e1:=k2.cell 1 _ rfl;have m0:=k1.cell 0 _ rfl;have m1:=k1.cell 1 _ rfl;have wZ:=k1.frozen 0;have YP:=k1.frozen 1;obtain ⟨WF,qF,bF,hwF,qN⟩:=xD k1 (.slice a' ts.length c') (.int .i64 s);have q0:=bF.cell 0 _ rfl;have q1:=bF.cell 1 _ rfl;have xY:=(hown.within hwF (.inr (by omega))).widen (show w.heap.size≤W.heap.size by omega) (show wr.heap.size≤WF.heap.size by omega) (Nat.le_refl _);have xM:Below w.heap.size w WF:=hnx.trans (hwF.below (by omega) (by have:=hnx.size;omega));clear hwF qN bF;go_wp2;rw [qF.out];exact bodyPost_ret (v:=.agg #[.slice a' ts.length c',.int .i64 s]) (by simp [results,Tryz.results147,go_sem,q0,q1]) rfl ⟨⟨ts,s,a',c'⟩,rfl,by simp only [Hid,qi.v];rw [HE.out],xY,xM⟩
structure qa.KA (e:qa):Prop where
 txs:e.aT=none→e.cT=0
 holds:e.aH=none→e.cH=0
 recs:∀ r∈e.log.recs,r.aL=none→r.cL=0
theorem YZ (e:qa) (se:e.shape) (w:World) (re:e.reads w) (hl:e.short 1048576) (hc:e.KA):
  Calls Tryz.prog 50 #[.agg e.cells.toArray] w fun r w'=>∃ t:qa,r=.returned (.agg t.cells.toArray)∧t.shape∧Hid (t.v=e.v)∧t.own w' w.heap.size w'.heap.size∧Below w.heap.size w w':=by
 obtain ⟨Z,hZ⟩:∃ Z,Hid (zeroE=Z):=⟨_,rfl⟩;have sZ:Z.shape:=by rw [← hZ.out];exact yM
 have HZ:=Tryz.JV;rw [hZ.out] at HZ;obtain ⟨W,hW,b1,b2,hbW,qp⟩:=jf w e.cells Z.cells 42 42;have hs0:w.heap.size+1<W.heap.size:=by omega
 have HE:Hid (∀ u,Below w.heap.size w u→e.reads u):=fun u hu=>re.below hu
 have Mt:=YS e.disk se.yQ;have Eu:Hid (_):=Mt;clear Mt;have Uv:Hid (∀ p∈e.disk,Fit p.ss):=fun p hp s hs=>by have:=hl.disk p hp s hs;omega
 have hid:=wD se.yQ;have dY:Hid (e.disk.length=8):=se.eight;have p0:=(qH se b1).1;go_enter Tryz.func50,Tryz.ntmps50;go_wp2_with (first | (guard_target=wpList _ _ _ (Oper.mk _ (Op.alloc _) _ _ _ _::_) _ _;refine z8 42 Z.cells HZ ?_) | (guard_target=wpList _ _ _ (Oper.mk (some 6) _ _ _ _ _::_) _ _;refine wpList_load_mid rfl 32 (.tmp 5) rfl w.heap.size 0 rfl (qj e.disk) _ (by rw [hW.out];exact p0) Tryz.underlying32 rfl hid ?_) | fail);rw [hW.out];clear hW p0 hid qp;have b1':Box W w.heap.size (qj ([]++e.disk.drop 0)++e.tail) 42:=b1;clear b1;go_loopw [7] (fun i wr=>∃ (k:Nat) (ts:List qw),k≤8∧i=.int .i64 (k:Int)∧Hid (ts.length=k∧(∀ p∈ts,p.ss.length=4)∧ts.map xH=(e.disk.take k).map xH)∧qG wr W.heap.size wr.heap.size (qI ts)∧Box wr w.heap.size (qj (ts++e.disk.drop k)++e.tail) 42∧Box wr (w.heap.size+1) Z.cells 42∧Below w.heap.size w wr∧W.heap.size≤wr.heap.size) (fun i _=>8-(intOf i).toNat)
 case atStart=>exact ⟨0,[],Nat.zero_le _,rfl,⟨rfl,fun p hp=>by (simp at hp),rfl⟩,qG.nil _ _ _,b1',b2,hbW,Nat.le_refl _⟩
 case round=>
  obtain ⟨k,ts,hk,rfl,hts,hown,c1,c2,hnx,uX⟩:=hrel;clear b1' b2;by_cases hlt:k<8
  ·have hkl:k<e.disk.length:=by rw [dY.out];exact hlt
   have zT:=se.yQ.at hlt;have F1:=Uv.out _ (j4 (k:=k) hkl);have R1:=(HE.out _ hnx).disk _ (j4 (k:=k) hkl);have Qs:Hid ((e.disk.take (k+1)).map xH=(e.disk.take k).map xH++[xH (e.disk.getD k qM)]):=by rw [Hid,List.take_succ_eq_append_getElem hkl,zm hkl,List.map_append];rfl
   have HDR:e.disk.drop k=e.disk.getD k qM::e.disk.drop (k+1):=by rw [← zm hkl];exact List.drop_eq_getElem_cons hkl
   have hix:=Eu.out k hlt;rw [HDR] at c1;clear HDR;generalize e.disk.getD k qM=p at*
   have JK:=jM p zT;have bJ:=all_oneCell_toArray (Qx p);obtain ⟨ZV,uB,bZ,uY,Xh⟩:=qx wr [.int .i64 0,.bool false,.int .i64 0,.slice none 0 0,.slice none 0 0,.bool false,.int .i64 0,.slice none 0 0,.slice none 0 0,.bool false,.int .i64 0,.slice none 0 0,.slice none 0 0,.bool false,.int .i64 0,.slice none 0 0,.slice none 0 0] 31;obtain ⟨V,hV,Kl,Km,HT,_,bS⟩:=Mv (C:=wr.heap.size) (T:=31) p zT _ rfl bZ Tryz.underlying31 rfl (by kernel_rfl);have nb:Below wr.heap.size wr V:=uY.trans (Kl.below (Nat.le_refl _) (by omega));have rS:V.rangeAt wr.heap.size 0 p.cells:=Box.range [] p.cells [] (by simpa using bS);have EV:Hid (ZV.setCells wr.heap.size 0 p.cells.toArray.toList=V):=hV.out;have C1:=Jh p zT V (R1.below nb) F1;have FJ:=bS.lt;have sV:=nb.size;have hi0:(0:Int)≤(k:Int):=by omega
   have dW:(k:Int)<8:=by omega
   clear bZ uY Xh Kl Km hV bS R1;go_wp2_with (first | (guard_target=wpList _ _ _ (Oper.mk none (Op.store _ (Operand.tmp 4) _) _ _ _ _::_) _ _;refine wpList_store_mid rfl 31 (.tmp 4) (.tmp 10) rfl wr.heap.size 0 p.cells.toArray rfl rfl (by rw [uB.out];exact HT.out) (by rw [List.size_toArray];exact JK) bJ ?_) | (guard_target=wpList _ _ _ (Oper.mk (some 12) _ _ _ _ _::_) _ _;refine wpList_load_mid rfl 31 (.tmp 4) rfl wr.heap.size 0 rfl (p.cells) _ (by rw [uB.out,EV.out];exact rS) Tryz.underlying31 rfl JK ?_) | fail);rw [uB.out,EV.out];clear uB EV HT rS hix;refine C1.mono ?_;clear C1;rintro r w1 ⟨us,rfl,hv,ho1,hb1⟩;have dZ:us.length=4:=by have:=congrArg List.length hv.out;simp only [List.length_map] at this;omega
   have s1:=hb1.size;obtain ⟨q,hq⟩:∃ q:qw,Hid ((⟨p.lsn,us⟩:qw)=q):=⟨_,rfl⟩;have hq4:q.ss.length=4:=by rw [← hq.out];exact dZ
   have oq:qG w1 V.heap.size w1.heap.size q.ss:=by rw [← hq.out];exact ho1
   have KO:Hid (xH q=xH p):=by rw [Hid,← hq.out];simp only [xH];rw [hv.out]
   rw [hq.out];clear hq hv ho1 dZ;have FM:Below wr.heap.size wr w1:=nb.trans (hb1.mono nb.size);replace c1:=c1.below FM c1.lt;replace c2:=c2.below FM c2.lt;have hown1:=hown.below FM;replace hnx:=hnx.trans (FM.mono hnx.size);rw [vM,wS,List.append_assoc,List.append_assoc] at c1;obtain ⟨W2,hW2,d3,hw2,hs2⟩:=jb (qj ts) p.cells q.cells (qj (e.disk.drop (k+1))++e.tail) c1 (by rw [jo q hq4,jo p zT]);have hl3:(qj ts).length=k*17:=by rw [jL _ hts.out.2.1,hts.out.1]
   rw [hl3] at hW2;have XX:Hid (w1.there w.heap.size (k*17) q.cells.toArray.size):=c1.there _ _ (by rw [List.size_toArray,jo q hq4,List.length_append,List.length_append,hl3,jo p zT];omega);have s2:=hw2.size;have FN:Box W2 w.heap.size (qj ((ts++[q])++e.disk.drop (k+1))++e.tail) 42:=by
    rw [List.append_assoc,vM,List.singleton_append,wS,List.append_assoc,List.append_assoc];exact d3
   have c2':=c2.within hw2 (by omega);have HOW:Hid (qG W2 W.heap.size W2.heap.size (qI (ts++[q]))):=by
    rw [Hid,Jn,QC];have o:=((hown1.widen (Nat.le_refl _) sV (by omega)).sO oq (by omega) (by omega) (Nat.le_refl _))
    simpa [qI] using (o.within hw2 (.inr (by omega))).widen (Nat.le_refl _) s2 (Nat.le_refl _)
   have Ga:Hid ((ts++[q]).length=k+1∧(∀ p∈ts++[q],p.ss.length=4)∧(ts++[q]).map xH=(e.disk.take (k+1)).map xH):=by
    refine ⟨by rw [List.length_append,hts.out.1];rfl,fun x hx=>?_,?_⟩
    ·rcases List.mem_append.1 hx with h | h
     ·exact hts.out.2.1 x h
     ·rw [List.mem_singleton.1 h];exact hq4
    ·rw [Qs.out,List.map_append,hts.out.2.2,← KO.out];rfl
   have HN:Hid (Below w.heap.size w W2∧W.heap.size≤W2.heap.size):=⟨hnx.trans (hw2.below (Nat.le_refl _) (by omega)),by omega⟩;have Xl:Hid ((Tryz.prog.info? 31).map (·.size)=some q.cells.toArray.size):=jM q hq4;have Gb:=all_oneCell_toArray (Qx q);have HW2:Hid (w1.setCells w.heap.size (k*17) q.cells.toArray.toList=W2):=hW2.out;clear c1 c2 d3 hown hown1 oq hw2 hs2 hW2 hnx hts Qs KO hl3 hb1 nb FM;go_wp2_with (first | (guard_target=wpList _ _ _ (Oper.mk none (Op.store _ (Operand.tmp 15) _) _ _ _ _::_) _ _;refine wpList_store_mid rfl 31 (.tmp 15) (.tmp 13) rfl w.heap.size (k*17) (q.cells).toArray rfl rfl XX.out Xl.out Gb ?_) | fail);rw [HW2.out];go_roundw
   case rel=>exact ⟨k+1,ts++[q],by omega,by go_num,Ga,HOW.out,FN,c2',HN.out.1,HN.out.2⟩
   case measure=>simp [intOf];omega
  ·obtain rfl:k=8:=by omega
   have hkk:¬ ((8:Nat):Int)<8:=by omega
   have Qt:zS ts:=⟨hts.out.1,hts.out.2.1⟩;have hvd:Hid (ts.map xH=e.disk.map xH):=by rw [Hid,hts.out.2.2,← dY.out,List.take_length]
   have b1:Box wr w.heap.size (qj ts++[.slice e.aS e.seats.length e.cS,.int .i64 e.hand,.slice e.log.a e.log.recs.length e.log.c,.int .i64 e.log.sure,.slice e.aT e.txs.length e.cT,.slice e.aH e.holds.length e.cH,.int .i64 e.next,.bool e.down]) 42:=by
    have e0:e.disk.drop 8=[]:=List.drop_eq_nil_of_le (by rw [dY.out];exact Nat.le_refl _);rw [e0,List.append_nil] at c1;exact c1
   have HA:Hid ((qj ts).length=136):=by rw [Hid,jL _ Qt.four,Qt.eight]
   have b2:=c2;have N:=hnx;have od:=hown;clear c1 c2 hnx hown hts;have p1:wr.rangeAt w.heap.size 136 e.qB.cells:=by
    have:=Box.range (qj ts) e.qB.cells [.slice e.log.a e.log.recs.length e.log.c,.int .i64 e.log.sure,.slice e.aT e.txs.length e.cT,.slice e.aH e.holds.length e.cH,.int .i64 e.next,.bool e.down] b1
    rwa [HA.out] at this
   have C:=zL e.qB wr (HE.out _ N).pool hl.pool;go_wp2_with (first | (guard_target=wpList _ _ _ (Oper.mk (some 18) _ _ _ _ _::_) _ _;refine wpList_load_mid rfl 35 (.tmp 17) rfl w.heap.size 136 rfl (e.qB.cells) _ p1 Tryz.underlying35 rfl (kY _) ?_) | fail);refine C.mono ?_;clear C p1;rintro r w3 ⟨q,rfl,hvp,op,hb⟩;have s3:=hb.size;replace b1:=b1.below hb b1.lt;replace b2:=b2.below hb b2.lt;replace N:=N.trans (hb.mono N.size);replace od:=od.below hb;clear hb;obtain ⟨w4,h4,c3,hw,hs⟩:=jb (qj ts) e.qB.cells q.cells [.slice e.log.a e.log.recs.length e.log.c,.int .i64 e.log.sure,.slice e.aT e.txs.length e.cT,.slice e.aH e.holds.length e.cH,.int .i64 e.next,.bool e.down] b1 rfl;rw [HA.out] at h4;have HT:Hid (w3.there w.heap.size 136 q.cells.toArray.size):=b1.there _ _ (by rw [List.length_append,HA.out];show 136+2≤_;simp);have sy4:=hw.size;replace b2:=b2.within hw (by omega);replace N:=N.trans (hw.below (Nat.le_refl _) (by have:=N.size;omega));replace od:=od.within hw (.inr (by omega));replace op:=op.within hw (.inr (by omega));clear hw hs b1;have E4:Hid (w3.setCells w.heap.size 136 q.cells.toArray.toList=w4):=h4.out;have b1:Box w4 w.heap.size ((qj ts++q.cells)++[.slice e.log.a e.log.recs.length e.log.c,.int .i64 e.log.sure,.slice e.aT e.txs.length e.cT,.slice e.aH e.holds.length e.cH,.int .i64 e.next,.bool e.down]) 42:=by rw [List.append_assoc];exact c3
   clear c3 h4;have HA2:Hid ((qj ts++q.cells).length=138):=by rw [Hid,List.length_append,HA.out];rfl
   have p2:w4.rangeAt w.heap.size 138 e.log.cells:=by
    have:=Box.range (qj ts++q.cells) e.log.cells [.slice e.aT e.txs.length e.cT,.slice e.aH e.holds.length e.cH,.int .i64 e.next,.bool e.down] b1
    rwa [HA2.out] at this
   have C:=PQ e.log w4 (HE.out _ N).log hl.log hc.recs;go_wp2_with (first | (guard_target=wpList _ _ _ (Oper.mk none (Op.store _ (Operand.tmp 20) _) _ _ _ _::_) _ _;refine wpList_store_mid rfl 35 (.tmp 20) (.tmp 19) rfl w.heap.size 136 (q.cells).toArray rfl rfl HT.out (kY _) (all_oneCell_toArray (bK q)) ?_) | (guard_target=wpList _ _ _ (Oper.mk (some 22) _ _ _ _ _::_) _ _;refine wpList_load_mid rfl 38 (.tmp 21) rfl w.heap.size 138 rfl (e.log.cells) _ (by rw [E4.out];exact p2) Tryz.underlying38 rfl (xQ _) ?_) | fail);rw [E4.out];refine C.mono ?_;clear C p2 E4 HT;rintro r w5 ⟨l,rfl,hvl,ol,hb⟩;have s5:=hb.size;replace b1:=b1.below hb b1.lt;replace b2:=b2.below hb b2.lt;replace N:=N.trans (hb.mono N.size);replace od:=od.below hb;replace op:=op.below hb;clear hb;obtain ⟨w6,h6,c3,hw,hs⟩:=jb (qj ts++q.cells) e.log.cells l.cells [.slice e.aT e.txs.length e.cT,.slice e.aH e.holds.length e.cH,.int .i64 e.next,.bool e.down] b1 rfl;rw [HA2.out] at h6;have HT:Hid (w5.there w.heap.size 138 l.cells.toArray.size):=b1.there _ _ (by rw [List.length_append,HA2.out];show 138+2≤_;simp);have sy6:=hw.size;replace b2:=b2.within hw (by omega);replace N:=N.trans (hw.below (Nat.le_refl _) (by have:=N.size;omega));replace od:=od.within hw (.inr (by omega));replace op:=op.within hw (.inr (by omega));replace ol:=ol.within hw (.inr (by omega));clear hw hs b1;have E6:Hid (w5.setCells w.heap.size 138 l.cells.toArray.toList=w6):=h6.out;have b1:Box w6 w.heap.size (qj ts++[.slice q.a q.seats.length q.c,.int .i64 q.hand,.slice l.a l.recs.length l.c,.int .i64 l.sure,.slice e.aT e.txs.length e.cT,.slice e.aH e.holds.length e.cH,.int .i64 e.next,.bool e.down]) 42:=by rw [List.append_assoc] at c3;exact c3
   clear c3 h6;go_upto_region 8 with (first | (guard_target=wpList _ _ _ (Oper.mk none (Op.store _ (Operand.tmp 24) _) _ _ _ _::_) _ _;refine wpList_store_mid rfl 38 (.tmp 24) (.tmp 23) rfl w.heap.size 138 (l.cells).toArray rfl rfl HT.out (xQ _) (all_oneCell_toArray (FO l)) ?_) | fail);rw [E6.out];clear E6 HT;have HX:Hid (∀ u,Below w6.heap.size w6 u→u.cell? ⟨w.heap.size,140,none⟩=some (.slice e.aT e.txs.length e.cT)∧u.frozen? ⟨w.heap.size,140,none⟩=false):=fun u hu=>by
    have bu:=b1.below hu b1.lt;exact ⟨bu.cell 140 (.slice e.aT e.txs.length e.cT) (by rw [List.getElem?_append_right (by rw [HA.out];omega),HA.out];rfl),bu.frozen 140⟩
   obtain ⟨x0,f0⟩:=HX.out _ (Below.refl _ _);have XY:=(HE.out _ N).txs;have ZL:([]:List qC).length+e.txs.length≤1099511627776:=by have:=hl.txs;simp only [List.length_nil];omega
   go_upto_region 9 with (first | (guard_target=wpList _ _ _ (Oper.mk (some 27) _ _ _ _ _::_) _ _;refine Xm rfl (.const (.slice none 0 0)) (.tmp 26) rfl w6.heap.size w6.heap.size none 0 [] rfl (U6 _ _ _ (Nat.le_refl _)) e.aT e.cT e.txs rfl XY hc.txs ZL (Nat.le_refl _) ?_;intro a7 c7 y7 w7 hy7 ot g7;have ZM:Below w6.heap.size w6 w7:=(Below.refl _ _).grown g7 (Nat.le_refl _) (fun j hj=>by cases hj);obtain ⟨x7,f7⟩:=HX.out _ ZM) | fail);have Vr:y7=e.txs:=hy7.out;subst Vr;have s7:=ZM.size;replace b1:=b1.below ZM b1.lt;replace b2:=b2.below ZM b2.lt;replace N:=N.trans (ZM.mono N.size);replace od:=od.below ZM;replace op:=op.below ZM;replace ol:=ol.below ZM;clear x0 f0 x7 f7 XY ZL g7 hy7 ZM HX;obtain ⟨w8,hw8,c3,hw,hs⟩:=uZ b1 HA.out 4 (.slice a7 e.txs.length c7);rw [show w.heap.size=w.heap.size from rfl,hw8.out];have qfj:=hw.size;replace b2:=b2.within hw (by omega);replace N:=N.trans (hw.below (Nat.le_refl _) (by have:=N.size;omega));replace od:=od.within hw (.inr (by omega));replace op:=op.within hw (.inr (by omega));replace ol:=ol.within hw (.inr (by omega));replace ot:=ot.within hw (.inr (by omega));clear hw hs hw8 b1;have b1:Box w8 w.heap.size (qj ts++[.slice q.a q.seats.length q.c,.int .i64 q.hand,.slice l.a l.recs.length l.c,.int .i64 l.sure,.slice a7 e.txs.length c7,.slice e.aH e.holds.length e.cH,.int .i64 e.next,.bool e.down]) 42:=c3;clear c3;have HX:Hid (∀ u,Below w8.heap.size w8 u→u.cell? ⟨w.heap.size,141,none⟩=some (.slice e.aH e.holds.length e.cH)∧u.frozen? ⟨w.heap.size,141,none⟩=false):=fun u hu=>by
    have bu:=b1.below hu b1.lt;exact ⟨bu.cell 141 (.slice e.aH e.holds.length e.cH) (by rw [List.getElem?_append_right (by rw [HA.out];omega),HA.out];rfl),bu.frozen 141⟩
   obtain ⟨x0,f0⟩:=HX.out _ (Below.refl _ _);have XY:=(HE.out _ N).holds;have ZL:([]:List qJ).length+e.holds.length≤1099511627776:=by have:=hl.holds;simp only [List.length_nil];omega
   go_upto_region 10 with (first | (guard_target=wpList _ _ _ (Oper.mk (some 31) _ _ _ _ _::_) _ _;refine Vs rfl (.const (.slice none 0 0)) (.tmp 30) rfl w8.heap.size w8.heap.size none 0 [] rfl (U7 _ _ _ (Nat.le_refl _)) e.aH e.cH e.holds rfl XY hc.holds ZL (Nat.le_refl _) ?_;intro a9 c9 y9 w9 hy9 oh g9;have JL:Below w8.heap.size w8 w9:=(Below.refl _ _).grown g9 (Nat.le_refl _) (fun j hj=>by cases hj);obtain ⟨x9,f9⟩:=HX.out _ JL) | fail);have Vr:y9=e.holds:=hy9.out;subst Vr;have s9:=JL.size;replace b1:=b1.below JL b1.lt;replace b2:=b2.below JL b2.lt;replace N:=N.trans (JL.mono N.size);replace od:=od.below JL;replace op:=op.below JL;replace ol:=ol.below JL;replace ot:=ot.below JL;clear x0 f0 x9 f9 XY ZL g9 hy9 JL HX;obtain ⟨Q4,Vt,c3,hw,hs⟩:=uZ b1 HA.out 5 (.slice a9 e.holds.length c9);rw [show w.heap.size=w.heap.size from rfl,Vt.out];have qfi:=hw.size;replace b2:=b2.within hw (by omega);replace N:=N.trans (hw.below (Nat.le_refl _) (by have:=N.size;omega));replace od:=od.within hw (.inr (by omega));replace op:=op.within hw (.inr (by omega));replace ol:=ol.within hw (.inr (by omega));replace ot:=ot.within hw (.inr (by omega));replace oh:=oh.within hw (.inr (by omega));clear hw hs Vt b1;have b1:Box Q4 w.heap.size (qj ts++[.slice q.a q.seats.length q.c,.int .i64 q.hand,.slice l.a l.recs.length l.c,.int .i64 l.sure,.slice a7 e.txs.length c7,.slice a9 e.holds.length c9,.int .i64 e.next,.bool e.down]) 42:=c3;clear c3;obtain ⟨T,hT⟩:∃ T:qa,Hid ((⟨ts,q.seats,q.a,q.c,q.hand,l,e.txs,a7,c7,e.holds,a9,c9,e.next,e.down⟩:qa)=T):=⟨_,rfl⟩;have sT:T.shape:=by rw [← hT.out];exact ⟨Qt.eight,Qt.four⟩
   have bT:Box Q4 w.heap.size T.cells 42:=by rw [← hT.out];exact b1
   have HV:Hid (T.v=e.v):=by
    rw [Hid,← hT.out];have v1:=hvd.out;have v2:=hvp.out;have v3:=hvl.out;simp only [qi.v,qa.qB,jN.mk.injEq] at v2;simp only [qa.v,v2.1,v2.2,v3];congr 1
   have oT:T.own Q4 W.heap.size Q4.heap.size:=by
    rw [← hT.out];exact WW (a0:=W.heap.size) (a1:=wr.heap.size) (a2:=w3.heap.size) (a3:=w5.heap.size) (a4:=w7.heap.size) (a5:=Q4.heap.size) od op (qV.widen ol (by omega) (Nat.le_refl _) (by omega)) (ot.widen (by omega) (Nat.le_refl _) (by omega)) (oh.widen (by omega) (by omega) (Nat.le_refl _)) (by omega) (by omega) (by omega) (by omega) (by omega) (Nat.le_refl _)
   clear od op ol ot oh b1 hT hvd hvp hvl;obtain ⟨WF,qF,hwF,qN,kz,bF⟩:=Qj sT sZ b2;have MC:Hid (_=_):=Xn sT bF;have rT:Q4.rangeAt w.heap.size 0 T.cells:=Box.range [] T.cells [] (by simpa using bT);have qR:Hid (T.own WF w.heap.size WF.heap.size∧Below w.heap.size w WF):=⟨(oT.within hwF (.inr (by omega))).widen (by omega) (by omega) (Nat.le_refl _),N.trans (hwF.below (by omega) (by have:=N.size;omega))⟩;have HI:=kI sT;have HO:=all_oneCell_toArray (JW T);clear hwF qN bF oT bT b2;go_wp2_with (first | (guard_target=wpList _ _ _ (Oper.mk (some 33) _ _ _ _ _::_) _ _;refine wpList_load_mid rfl 42 (.tmp 1) rfl w.heap.size 0 rfl (T.cells) _ rT Tryz.underlying42 rfl HI ?_) | (guard_target=wpList _ _ _ (Oper.mk none (Op.store _ (Operand.tmp 2) _) _ _ _ _::_) _ _;refine wpList_store_mid rfl 42 (.tmp 2) (.tmp 33) rfl (w.heap.size+1) 0 (T.cells).toArray rfl rfl kz.out (by rw [List.size_toArray];exact HI) HO ?_) | fail);rw [qF.out];exact bodyPost_ret (v:=.agg T.cells.toArray) (jk Tryz.results50 rfl MC.out) rfl ⟨T,rfl,sT,HV,qR.out.1,qR.out.2⟩
end Go.Proofs.YtjkckhfddgeboaaGreatDoor
namespace Go.Proofs.YtjkckhfddgeboaaGreatDoor
open Go.RowKit
theorem qa.own.KA {w:World} {lo hi:Nat} {e:qa} (h:e.own w lo hi):e.KA:=⟨h.txs.XZ,h.holds.XZ,qV.KA h.log⟩
theorem Xo {bl:List Nat} {W w w':World} (h:Touch bl w w') (hd:∀ k∈bl,W.heap.size≤k) (hs:W.heap.size≤w.heap.size):Below W.heap.size w w':=
 ⟨h.os,h.tape,h.output,h.size,fun k hk=>h.block k (by omega) (fun hm=>by have:=hd k hm;omega)⟩
theorem WX {ps:List qw} (h:∀ p∈ps,p.ss.length=4):(qI ps).length=ps.length*4:=by
 induction ps with
 | nil=>rfl
 | cons p r ih=>
  have h1:=ih (fun q hq=>h q (List.mem_cons_of_mem _ hq));have h2:=h p List.mem_cons_self;simp only [qI,List.flatMap_cons,List.length_append,List.length_cons] at h1 ⊢;omega
theorem Vu {t:qi} (h:t.short 1048576):(t.count:Int)≤4194304:=by
 have h2:=h.len;have e:t.count=4*t.seats.length:=rfl;rw [e];omega
theorem WY {t:qz} (h:t.short 1048576):(t.count:Int)≤10995116277760:=by
 have h1:=G5 t.recs 1048576 h.each;have h2:=h.len;have h3:t.recs.length*(10+7*1048576)≤1048576*(10+7*1048576):=Nat.mul_le_mul_right _ h2;have e:t.count=qU t.recs:=rfl;rw [e];omega
theorem qa.bL {e:qa} (se:e.shape) (h:e.short 1048576):e.kP 1≤10995116277760∧e.kE 1≤1152921504606846976:=by
 have h1:=X0 (qI e.disk) 1048576 (fun s hs=>by
  obtain ⟨p,hp,hs⟩:=List.mem_flatMap.1 hs;exact h.disk p hp s hs)
 rw [WX se.four,se.eight] at h1;have h2:=Vu h.pool;have h3:=WY h.log;have h4:=h.txs;have h5:=h.holds;unfold qa.kE qa.kH qa.kT qa.kL qa.kP;omega
theorem qa.iZ (e:qa):0≤e.kE 1:=by unfold qa.kE qa.kH qa.kT qa.kL qa.kP;omega
end Go.Proofs.YtjkckhfddgeboaaGreatDoor