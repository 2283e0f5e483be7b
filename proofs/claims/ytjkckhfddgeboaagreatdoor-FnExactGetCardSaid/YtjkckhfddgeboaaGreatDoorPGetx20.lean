/- Several texts in one, in their order. -/
import Derived.Test.YtjkckhfddgeboaaGreatDoorPGetx12
import Derived.Test.YtjkckhfddgeboaaGreatDoorPGetx1
import Derived.Test.YtjkckhfddgeboaaGreatDoorPGetx11
import Derived.Deep.Cut
set_option maxHeartbeats 8000000
set_option maxRecDepth 100000
namespace Go.Proofs.YtjkckhfddgeboaaGreatDoor
open Go.RowKit
theorem AA {e:ji} {k:Nat} (hk:k<e.txs.length) (h:wU e k=false):zy e=false:=by
 have:wV e=false:=uW k hk h;rw [zy,this,Bool.false_and]
theorem Ry {e:ji} {k:Nat} (hk:k<e.holds.length) (h:zi e k=false):zy e=false:=by
 have:xI e=false:=uW k hk h;rw [zy,this,Bool.false_and,Bool.and_false]
theorem Rz {e:ji} (h1:∀ k,k<e.txs.length→wU e k=true) (h2:∀ k,k<e.holds.length→zi e k=true):zy e=decide (e.txs.length≤6):=by
 have a:wV e=true:=vo h1;have b:xI e=true:=vo h2;rw [zy,a,b,Bool.true_and,Bool.true_and]
theorem Da (e:qa) (se:e.shape) (w:World) (re:e.reads w) (hl:e.short 1048576) (hn1:1≤e.next) (hn2:e.next≤1001):
  Calls Tryz.prog 168 #[.agg e.cells.toArray] w fun r w'=>r=.returned (.bool (zy e.v))∧Below w.heap.size w w':=by
 have HTN:Hid (∀ k,k<e.txs.length→wU e.v k=false→zy e.v=false):=fun k hk h=>AA hk h
 have HHN:Hid (∀ k,k<e.holds.length→zi e.v k=false→zy e.v=false):=fun k hk h=>Ry hk h
 have xP:Hid ((∀ k,k<e.txs.length→wU e.v k=true)→(∀ k,k<e.holds.length→zi e.v k=true)→zy e.v=decide (e.txs.length≤6)):=fun h1 h2=>Rz h1 h2
 have KT:Hid (∀ k,wU e.v k=(inB (e.txs.getD k qA).tx 1 (e.next-1) && (!(e.txs.getD k qA).aborts && (decide ((e.txs.getD k qA).last=lastOf (e.log.recs.map qg.v) (e.txs.getD k qA).tx) && (decide (k=0) || decide ((e.txs.getD (k-1) qA).tx<(e.txs.getD k qA).tx)))))):=fun k=>rfl
 have HHX:Hid (∀ k,zi e.v k=(inB (e.holds.getD k qY).oid 1 31 && (decide (0≤wT e.txs (e.holds.getD k qY).tx) && Y8 e.holds k))):=fun k=>rfl
 obtain ⟨jQ,VJ⟩:∃ b,zy e.v=b:=⟨_,rfl⟩;rw [VJ] at HTN HHN xP ⊢;clear VJ;obtain ⟨W,hW,b0,hbW,qp⟩:=qx w e.cells 42;have HB:Hid (∀ u,Below W.heap.size W u→Box u w.heap.size e.cells 42):=fun u hu=>b0.below hu b0.lt
 have HR:Hid (∀ u,Below W.heap.size W u→e.reads u):=fun u hu=>(re.below hbW).below hu
 have hw0:w.heap.size<W.heap.size:=by omega
 have hlt:=hl.txs;have hlh:=hl.holds;have RA:Hid (e.log.recs.length≤1099511627776):=by have:=hl.log.len;rw [Hid];omega
 clear b0 qp hl re;obtain ⟨_,_,_,p3,p4,_,_⟩:=qH se (HB.out W (Below.refl _ _));go_enter Tryz.func168,Tryz.ntmps168;go_wp2_with fail;rw [hW.out];clear hW p3 p4;go_loopw [3] (fun i wr=>∃ k:Nat,k≤e.txs.length∧i=.int .i64 (k:Int)∧Hid (∀ j,j<k→wU e.v j=true)∧Below W.heap.size W wr) (fun i _=>e.txs.length-(intOf i).toNat)
 case atStart=>exact ⟨0,Nat.zero_le _,rfl,fun j hj=>by omega,Below.refl _ _⟩
 case round=>
  obtain ⟨k,hk,rfl,hall,hbr⟩:=hrel;have uX:=hbr.size;by_cases hlt2:k<e.txs.length
  ·obtain ⟨b,off,ha,hc⟩:=(HR.out _ hbr).txs (by intro e0;rw [e0] at hlt2;simp at hlt2);obtain ⟨c0,c1,c2⟩:=hc k hlt2;obtain ⟨_,_,_,p3,_,p5,_⟩:=qH se (HB.out wr hbr);rw [ha] at p3;have lX:Hid (∀ j,k=j+1→∀ u,Below wr.heap.size wr u→u.cell? ⟨b,off+j*3,none⟩=some (.int .i64 (e.txs.getD j qA).tx)):=fun j hj u hu=>(hu.cell (p:=⟨b,off+j*3,none⟩) (block_lt (hc j (by omega)).1)).trans (hc j (by omega)).1
   have Qs:=KT.out k;have VK:Hid (_=_):=Qs;clear Qs hc;have Q8:=HTN.out k hlt2;have Bn:Hid (_→_):=Q8;clear Q8;generalize e.txs.getD k qA=t at*
   obtain ⟨V,hV,bV,wB,Xu⟩:=qx wr [.int .i64 t.tx,.int .i64 t.last,.bool t.aborts] 118;have nV:Below W.heap.size W V:=hbr.trans (wB.mono hbr.size);have HS:Hid (∀ u,Below V.heap.size V u→(u.cell? ⟨wr.heap.size,0,none⟩=some (.int .i64 t.tx)∧u.cell? ⟨wr.heap.size,1,none⟩=some (.int .i64 t.last)∧u.cell? ⟨wr.heap.size,2,none⟩=some (.bool t.aborts)∧u.cell? ⟨w.heap.size,142,none⟩=some (.int .i64 e.next)∧u.rangeAt w.heap.size 138 e.log.cells∧u.cell? ⟨w.heap.size,140,none⟩=some (.slice (some ⟨b,off,none⟩) e.txs.length e.cT))):=fun u hu=>by
    have bu:=bV.below hu bV.lt;obtain ⟨_,_,q2,q3,_,q5,_⟩:=qH se (HB.out u (nV.trans (hu.mono nV.size)));rw [ha] at q3;exact ⟨bu.cell 0 _ rfl,bu.cell 1 _ rfl,bu.cell 2 _ rfl,q5,q2,q3⟩
   have sV:=wB.size;have CL:=fun u (hu:Below V.heap.size V u)=>Bg e.log t.tx u (HR.out _ (nV.trans (hu.mono nV.size))).log RA.out
   have HPW:Hid (∀ j,k=j+1→∀ u,Below V.heap.size V u→u.cell? ⟨b,off+j*3,none⟩=some (.int .i64 (e.txs.getD j qA).tx)):=fun j hj u hu=>lX.out j hj u (wB.trans (hu.mono sV))
   have FJ:=bV.lt;clear bV Xu lX;go_upto_region 5 with fail;rw [hV.out];clear hV c0 c1 c2 p3 p5;have D0:Below V.heap.size V V.drew:=(Below.refl _ _).drew;have hwr:IntKind.i64.wrap (e.next-1)=e.next-1:=by rw [IntKind.wrap_i64];omega
   obtain ⟨bA,hA⟩:∃ bA,Hid (inB t.tx 1 (e.next-1)=bA):=⟨_,rfl⟩;cases bA with
   | false=>
    have yu:Hid (wU e.v k=false):=by rw [Hid,VK.out,hA.out];rfl
    refine wp_region_held_drew (S:=fun u=>(u.cell? ⟨wr.heap.size,0,none⟩=some (.int .i64 t.tx)∧u.cell? ⟨wr.heap.size,1,none⟩=some (.int .i64 t.last)∧u.cell? ⟨wr.heap.size,2,none⟩=some (.bool t.aborts)∧u.cell? ⟨w.heap.size,142,none⟩=some (.int .i64 e.next)∧u.rangeAt w.heap.size 138 e.log.cells∧u.cell? ⟨w.heap.size,140,none⟩=some (.slice (some ⟨b,off,none⟩) e.txs.length e.cT))) (by kernel_rfl) (HS.out _ D0) (fun hHeld=>?_);generalize V.drew=d0 at*
    refine tr 0 (.pointer (some ⟨wr.heap.size,0,none⟩)) ?_;refine tk 1 (v:=.int .i64 t.tx) rfl (Or.inl ⟨by rfl,?_⟩) hHeld ?_
    ·intro w' hSw;have hx:=hSw.1;go_simp<;>rfl
    try simp only [zz]
    refine tr 2 (.pointer (some ⟨w.heap.size,142,none⟩)) ?_;refine tk 3 (v:=.int .i64 e.next) rfl (Or.inl ⟨by rfl,?_⟩) hHeld ?_
    ·intro w' hSw;have hx:=hSw.2.2.2.1;go_simp<;>rfl
    try simp only [zz]
    refine tr 4 (.int .i64 (e.next-1)) ?_;refine wpAnyH_ready (rs:=[5]) (by kernel_rfl) (by simp) ?_;refine AllReadyH.cons rfl (fun K hK=>?_) AllReadyH.nil;go_simp;refine (jd _ _ _ _).mono ?_;rintro r d0 ⟨rfl,rfl⟩;rw [hA.out];refine hK.out _ _ (hHeld) (fun hHeld=>?_);clear hK K ;try simp only [zz]
    refine tr 6 (.bool true) ?_;refine tr 7 (.bool true) ?_;refine Go.Proofs.YtjkckhfddgeboaaGreatDoor.tu 8 ?_;refine Go.Proofs.YtjkckhfddgeboaaGreatDoor.tu 9 ?_;refine tr 10 (.bool true) ?_;refine tr 11 (.bool true) ?_;refine Go.Proofs.YtjkckhfddgeboaaGreatDoor.tu 12 ?_;refine Go.Proofs.YtjkckhfddgeboaaGreatDoor.tu 13 ?_;refine Go.Proofs.YtjkckhfddgeboaaGreatDoor.tu 14 ?_;refine Go.Proofs.YtjkckhfddgeboaaGreatDoor.tu 15 ?_;refine Go.Proofs.YtjkckhfddgeboaaGreatDoor.tu 16 ?_;refine Go.Proofs.YtjkckhfddgeboaaGreatDoor.tu 17 ?_;refine Go.Proofs.YtjkckhfddgeboaaGreatDoor.tu 18 ?_;refine Go.Proofs.YtjkckhfddgeboaaGreatDoor.tu 19 ?_;refine tr 20 (.bool true) ?_;refine tr 21 (.bool true) ?_;refine Go.Proofs.YtjkckhfddgeboaaGreatDoor.tu 22 ?_;refine Go.Proofs.YtjkckhfddgeboaaGreatDoor.tu 23 ?_;refine Go.Proofs.YtjkckhfddgeboaaGreatDoor.tu 24 ?_;refine Go.Proofs.YtjkckhfddgeboaaGreatDoor.tu 25 ?_;refine Go.Proofs.YtjkckhfddgeboaaGreatDoor.tu 26 ?_;refine Go.Proofs.YtjkckhfddgeboaaGreatDoor.tu 27 ?_;refine Go.Proofs.YtjkckhfddgeboaaGreatDoor.tu 28 ?_;refine Go.Proofs.YtjkckhfddgeboaaGreatDoor.tu 29 ?_;refine Go.Proofs.YtjkckhfddgeboaaGreatDoor.tu 30 ?_;refine Go.Proofs.YtjkckhfddgeboaaGreatDoor.tu 31 ?_;refine Go.Proofs.YtjkckhfddgeboaaGreatDoor.tu 32 ?_;refine Go.Proofs.YtjkckhfddgeboaaGreatDoor.tu 33 ?_;refine Go.Proofs.YtjkckhfddgeboaaGreatDoor.tu 34 ?_;refine Go.Proofs.YtjkckhfddgeboaaGreatDoor.tu 35 ?_;refine tr 36 (.bool true) ?_;refine wpAnyH_done (by kernel_rfl) ?_ _;clear hHeld;have HE:Hid (jQ=false∧Below w.heap.size w d0):=⟨Bn.out yu.out,hbW.trans ((nV.trans (D0.mono nV.size)).mono hbW.size)⟩;go_wp2;go_ret;exact ⟨qd HE.out.1.symm,HE.out.2⟩
   | true=>
    obtain ⟨ab,hab⟩:∃ ab,Hid (t.aborts=ab):=⟨_,rfl⟩;rw [hab.out] at HS;cases ab with
    | true=>
     have yu:Hid (wU e.v k=false):=by rw [Hid,VK.out,hA.out,hab.out];rfl
     refine wp_region_held_drew (S:=fun u=>(u.cell? ⟨wr.heap.size,0,none⟩=some (.int .i64 t.tx)∧u.cell? ⟨wr.heap.size,1,none⟩=some (.int .i64 t.last)∧u.cell? ⟨wr.heap.size,2,none⟩=some (.bool true)∧u.cell? ⟨w.heap.size,142,none⟩=some (.int .i64 e.next)∧u.rangeAt w.heap.size 138 e.log.cells∧u.cell? ⟨w.heap.size,140,none⟩=some (.slice (some ⟨b,off,none⟩) e.txs.length e.cT))) (by kernel_rfl) (HS.out _ D0) (fun hHeld=>?_);generalize V.drew=d0 at*
     refine tr 0 (.pointer (some ⟨wr.heap.size,0,none⟩)) ?_;refine tk 1 (v:=.int .i64 t.tx) rfl (Or.inl ⟨by rfl,?_⟩) hHeld ?_
     ·intro w' hSw;have hx:=hSw.1;go_simp<;>rfl
     try simp only [zz]
     refine tr 2 (.pointer (some ⟨w.heap.size,142,none⟩)) ?_;refine tk 3 (v:=.int .i64 e.next) rfl (Or.inl ⟨by rfl,?_⟩) hHeld ?_
     ·intro w' hSw;have hx:=hSw.2.2.2.1;go_simp<;>rfl
     try simp only [zz]
     refine tr 4 (.int .i64 (e.next-1)) ?_;refine wpAnyH_ready (rs:=[5]) (by kernel_rfl) (by simp) ?_;refine AllReadyH.cons rfl (fun K hK=>?_) AllReadyH.nil;go_simp;refine (jd _ _ _ _).mono ?_;rintro r d0 ⟨rfl,rfl⟩;rw [hA.out];refine hK.out _ _ (hHeld) (fun hHeld=>?_);clear hK K ;try simp only [zz]
     refine tr 6 (.bool false) ?_;refine tr 7 (.bool false) ?_;refine tr 8 (.pointer (some ⟨wr.heap.size,2,none⟩)) ?_;refine tk 9 (v:=.bool true) rfl (Or.inl ⟨by rfl,?_⟩) hHeld ?_
     ·intro w' hSw;have hx:=hSw.2.2.1;go_simp<;>rfl
     try simp only [zz]
     refine tr 10 (.bool true) ?_;refine tr 11 (.bool true) ?_;refine Go.Proofs.YtjkckhfddgeboaaGreatDoor.tu 12 ?_;refine Go.Proofs.YtjkckhfddgeboaaGreatDoor.tu 13 ?_;refine Go.Proofs.YtjkckhfddgeboaaGreatDoor.tu 14 ?_;refine Go.Proofs.YtjkckhfddgeboaaGreatDoor.tu 15 ?_;refine Go.Proofs.YtjkckhfddgeboaaGreatDoor.tu 16 ?_;refine Go.Proofs.YtjkckhfddgeboaaGreatDoor.tu 17 ?_;refine Go.Proofs.YtjkckhfddgeboaaGreatDoor.tu 18 ?_;refine Go.Proofs.YtjkckhfddgeboaaGreatDoor.tu 19 ?_;refine tr 20 (.bool true) ?_;refine tr 21 (.bool true) ?_;refine Go.Proofs.YtjkckhfddgeboaaGreatDoor.tu 22 ?_;refine Go.Proofs.YtjkckhfddgeboaaGreatDoor.tu 23 ?_;refine Go.Proofs.YtjkckhfddgeboaaGreatDoor.tu 24 ?_;refine Go.Proofs.YtjkckhfddgeboaaGreatDoor.tu 25 ?_;refine Go.Proofs.YtjkckhfddgeboaaGreatDoor.tu 26 ?_;refine Go.Proofs.YtjkckhfddgeboaaGreatDoor.tu 27 ?_;refine Go.Proofs.YtjkckhfddgeboaaGreatDoor.tu 28 ?_;refine Go.Proofs.YtjkckhfddgeboaaGreatDoor.tu 29 ?_;refine Go.Proofs.YtjkckhfddgeboaaGreatDoor.tu 30 ?_;refine Go.Proofs.YtjkckhfddgeboaaGreatDoor.tu 31 ?_;refine Go.Proofs.YtjkckhfddgeboaaGreatDoor.tu 32 ?_;refine Go.Proofs.YtjkckhfddgeboaaGreatDoor.tu 33 ?_;refine Go.Proofs.YtjkckhfddgeboaaGreatDoor.tu 34 ?_;refine Go.Proofs.YtjkckhfddgeboaaGreatDoor.tu 35 ?_;refine tr 36 (.bool true) ?_;refine wpAnyH_done (by kernel_rfl) ?_ _;clear hHeld;have HE:Hid (jQ=false∧Below w.heap.size w d0):=⟨Bn.out yu.out,hbW.trans ((nV.trans (D0.mono nV.size)).mono hbW.size)⟩;go_wp2;go_ret;exact ⟨qd HE.out.1.symm,HE.out.2⟩
    | false=>
     by_cases hC:t.last=lastOf (e.log.recs.map qg.v) t.tx
     ·have XA:Hid (_=_):=hC;have hCb:(t.last != lastOf (e.log.recs.map qg.v) t.tx)=false:=by simp [hC]
      clear hC;cases k with
      | zero=>
       have gV:Hid (∀ j,j<0+1→wU e.v j=true):=fun j hj=>by
        obtain rfl:j=0:=by omega
        rw [VK.out,hA.out,hab.out,decide_eq_true XA.out];rfl
       have hk0:¬ (0:Int)<((0:Nat):Int):=by omega
       refine wp_region_held_drew (S:=fun u=>(u.cell? ⟨wr.heap.size,0,none⟩=some (.int .i64 t.tx)∧u.cell? ⟨wr.heap.size,1,none⟩=some (.int .i64 t.last)∧u.cell? ⟨wr.heap.size,2,none⟩=some (.bool false)∧u.cell? ⟨w.heap.size,142,none⟩=some (.int .i64 e.next)∧u.rangeAt w.heap.size 138 e.log.cells∧u.cell? ⟨w.heap.size,140,none⟩=some (.slice (some ⟨b,off,none⟩) e.txs.length e.cT))) (by kernel_rfl) (HS.out _ D0) (fun hHeld=>?_);generalize V.drew=d0 at*
       refine tr 0 (.pointer (some ⟨wr.heap.size,0,none⟩)) ?_;refine tk 1 (v:=.int .i64 t.tx) rfl (Or.inl ⟨by rfl,?_⟩) hHeld ?_
       ·intro w' hSw;have hx:=hSw.1;go_simp<;>rfl
       try simp only [zz]
       refine tr 2 (.pointer (some ⟨w.heap.size,142,none⟩)) ?_;refine tk 3 (v:=.int .i64 e.next) rfl (Or.inl ⟨by rfl,?_⟩) hHeld ?_
       ·intro w' hSw;have hx:=hSw.2.2.2.1;go_simp<;>rfl
       try simp only [zz]
       refine tr 4 (.int .i64 (e.next-1)) ?_;refine wpAnyH_ready (rs:=[5]) (by kernel_rfl) (by simp) ?_;refine AllReadyH.cons rfl (fun K hK=>?_) AllReadyH.nil;go_simp;refine (jd _ _ _ _).mono ?_;rintro r d0 ⟨rfl,rfl⟩;rw [hA.out];refine hK.out _ _ (hHeld) (fun hHeld=>?_);clear hK K ;try simp only [zz]
       refine tr 6 (.bool false) ?_;refine tr 7 (.bool false) ?_;refine tr 8 (.pointer (some ⟨wr.heap.size,2,none⟩)) ?_;refine tk 9 (v:=.bool false) rfl (Or.inl ⟨by rfl,?_⟩) hHeld ?_
       ·intro w' hSw;have hx:=hSw.2.2.1;go_simp<;>rfl
       try simp only [zz]
       refine tr 10 (.bool false) ?_;refine tr 11 (.bool false) ?_;refine tr 12 (.pointer (some ⟨wr.heap.size,1,none⟩)) ?_;refine tk 13 (v:=.int .i64 t.last) rfl (Or.inl ⟨by rfl,?_⟩) hHeld ?_
       ·intro w' hSw;have hx:=hSw.2.1;go_simp<;>rfl
       try simp only [zz]
       refine tr 14 (.pointer (some ⟨w.heap.size,138,none⟩)) ?_;refine Go.Proofs.YtjkckhfddgeboaaGreatDoor.ts 15 rfl (yieldsIf_load_mid (by rfl) _ _ rfl _ _ rfl (e.log.cells) _ (fun _ h=>h.2.2.2.2.1) Tryz.underlying38 rfl (xQ _)) ?_;refine tr 16 (.pointer (some ⟨wr.heap.size,0,none⟩)) ?_;refine tk 17 (v:=.int .i64 t.tx) rfl (Or.inl ⟨by rfl,?_⟩) hHeld ?_
       ·intro w' hSw;have hx:=hSw.1;go_simp<;>rfl
       try simp only [zz]
       refine wpAnyH_ready (rs:=[18]) (by kernel_rfl) (by simp) ?_;refine AllReadyH.cons rfl (fun K hK=>?_) AllReadyH.nil;go_simp;refine (CL _ D0).mono ?_;rintro r d1 ⟨rfl,hb1⟩;have D1:Below V.heap.size V d1:=D0.trans (hb1.mono D0.size);refine hK.out _ _ (HS.out _ D1) (fun hHeld=>?_);clear hK K hb1;try simp only [zz]
       refine tr 19 (.bool false) ?_;refine tr 20 (.bool false) ?_;refine tr 21 (.bool false) ?_;refine tr 22 (.int .i64 ((0:Nat):Int)) ?_;refine tr 23 (.bool false) ?_;refine tr 24 (.bool false) ?_;refine Go.Proofs.YtjkckhfddgeboaaGreatDoor.tu 25 ?_;refine Go.Proofs.YtjkckhfddgeboaaGreatDoor.tu 26 ?_;refine Go.Proofs.YtjkckhfddgeboaaGreatDoor.tu 27 ?_;refine Go.Proofs.YtjkckhfddgeboaaGreatDoor.tu 28 ?_;refine Go.Proofs.YtjkckhfddgeboaaGreatDoor.tu 29 ?_;refine Go.Proofs.YtjkckhfddgeboaaGreatDoor.tu 30 ?_;refine Go.Proofs.YtjkckhfddgeboaaGreatDoor.tu 31 ?_;refine Go.Proofs.YtjkckhfddgeboaaGreatDoor.tu 32 ?_;refine Go.Proofs.YtjkckhfddgeboaaGreatDoor.tu 33 ?_;refine Go.Proofs.YtjkckhfddgeboaaGreatDoor.tu 34 ?_;refine tr 35 (.bool false) ?_;refine tr 36 (.bool false) ?_;refine wpAnyH_done (by kernel_rfl) ?_ _;clear hHeld;have HN:Hid (Below W.heap.size W d1):=nV.trans (D1.mono nV.size);go_wp2_with fail;go_roundw
       case rel=>exact ⟨0+1,by omega,by go_num,gV,HN.out⟩
       case measure=>simp [intOf];omega
      | succ j=>
       have RD:Hid (∀ u,Below V.heap.size V u→u.cell? ⟨b,off+j*3,none⟩=some (.int .i64 (e.txs.getD j qA).tx)):=fun u hu=>HPW.out j rfl u hu
       rw [Nat.add_sub_cancel] at VK;generalize e.txs.getD j qA=tj at VK RD;clear HPW;have qfx:IntKind.i64.wrap (j:Int)=(j:Int):=by rw [IntKind.wrap_i64];omega
       have hk1:(0:Int)<((j+1:Nat):Int):=by omega
       have hj0:(0:Int)≤(j:Int):=by omega
       have hjl:(j:Int)<(e.txs.length:Int):=by omega
       have hwj:IntKind.i64.wrap (((j+1:Nat):Int)-1)=(j:Int):=by rw [IntKind.wrap_i64];omega
       by_cases hD:tj.tx<t.tx
       ·have hDD:¬ t.tx≤tj.tx:=by omega
        have gV:Hid (∀ i,i<j+1+1→wU e.v i=true):=fun i hi=>by
         by_cases q:i=j+1
         ·rw [q,VK.out,hA.out,hab.out,decide_eq_true XA.out,decide_eq_true hD];simp
         ·exact hall.out i (by omega)
        clear hD;refine wp_region_held_drew (S:=fun u=>(u.cell? ⟨wr.heap.size,0,none⟩=some (.int .i64 t.tx)∧u.cell? ⟨wr.heap.size,1,none⟩=some (.int .i64 t.last)∧u.cell? ⟨wr.heap.size,2,none⟩=some (.bool false)∧u.cell? ⟨w.heap.size,142,none⟩=some (.int .i64 e.next)∧u.rangeAt w.heap.size 138 e.log.cells∧u.cell? ⟨w.heap.size,140,none⟩=some (.slice (some ⟨b,off,none⟩) e.txs.length e.cT))∧u.cell? ⟨b,off+j*3,none⟩=some (.int .i64 tj.tx)) (by kernel_rfl) (⟨HS.out _ D0,RD.out _ D0⟩) (fun hHeld=>?_);generalize V.drew=d0 at*
        refine tr 0 (.pointer (some ⟨wr.heap.size,0,none⟩)) ?_;refine tk 1 (v:=.int .i64 t.tx) rfl (Or.inl ⟨by rfl,?_⟩) hHeld ?_
        ·intro w' hSw;have hx:=hSw.1.1;go_simp<;>rfl
        try simp only [zz]
        refine tr 2 (.pointer (some ⟨w.heap.size,142,none⟩)) ?_;refine tk 3 (v:=.int .i64 e.next) rfl (Or.inl ⟨by rfl,?_⟩) hHeld ?_
        ·intro w' hSw;have hx:=hSw.1.2.2.2.1;go_simp<;>rfl
        try simp only [zz]
        refine tr 4 (.int .i64 (e.next-1)) ?_;refine wpAnyH_ready (rs:=[5]) (by kernel_rfl) (by simp) ?_;refine AllReadyH.cons rfl (fun K hK=>?_) AllReadyH.nil;go_simp;refine (jd _ _ _ _).mono ?_;rintro r d0 ⟨rfl,rfl⟩;rw [hA.out];refine hK.out _ _ (hHeld) (fun hHeld=>?_);clear hK K ;try simp only [zz]
        refine tr 6 (.bool false) ?_;refine tr 7 (.bool false) ?_;refine tr 8 (.pointer (some ⟨wr.heap.size,2,none⟩)) ?_;refine tk 9 (v:=.bool false) rfl (Or.inl ⟨by rfl,?_⟩) hHeld ?_
        ·intro w' hSw;have hx:=hSw.1.2.2.1;go_simp<;>rfl
        try simp only [zz]
        refine tr 10 (.bool false) ?_;refine tr 11 (.bool false) ?_;refine tr 12 (.pointer (some ⟨wr.heap.size,1,none⟩)) ?_;refine tk 13 (v:=.int .i64 t.last) rfl (Or.inl ⟨by rfl,?_⟩) hHeld ?_
        ·intro w' hSw;have hx:=hSw.1.2.1;go_simp<;>rfl
        try simp only [zz]
        refine tr 14 (.pointer (some ⟨w.heap.size,138,none⟩)) ?_;refine Go.Proofs.YtjkckhfddgeboaaGreatDoor.ts 15 rfl (yieldsIf_load_mid (by rfl) _ _ rfl _ _ rfl (e.log.cells) _ (fun _ h=>h.1.2.2.2.2.1) Tryz.underlying38 rfl (xQ _)) ?_;refine tr 16 (.pointer (some ⟨wr.heap.size,0,none⟩)) ?_;refine tk 17 (v:=.int .i64 t.tx) rfl (Or.inl ⟨by rfl,?_⟩) hHeld ?_
        ·intro w' hSw;have hx:=hSw.1.1;go_simp<;>rfl
        try simp only [zz]
        refine wpAnyH_ready (rs:=[18]) (by kernel_rfl) (by simp) ?_;refine AllReadyH.cons rfl (fun K hK=>?_) AllReadyH.nil;go_simp;refine (CL _ D0).mono ?_;rintro r d1 ⟨rfl,hb1⟩;have D1:Below V.heap.size V d1:=D0.trans (hb1.mono D0.size);refine hK.out _ _ (⟨HS.out _ D1,RD.out _ D1⟩) (fun hHeld=>?_);clear hK K hb1;try simp only [zz]
        refine tr 19 (.bool false) ?_;refine tr 20 (.bool false) ?_;refine tr 21 (.bool false) ?_;refine tr 22 (.int .i64 ((j+1:Nat):Int)) ?_;refine tr 23 (.bool true) ?_;refine tr 24 (.bool true) ?_;refine tr 25 (.pointer (some ⟨w.heap.size,140,none⟩)) ?_;refine tk 26 (v:=.slice (some ⟨b,off,none⟩) e.txs.length e.cT) rfl (Or.inl ⟨by rfl,?_⟩) hHeld ?_
        ·intro w' hSw;have hx:=hSw.1.2.2.2.2.2;go_simp<;>rfl
        try simp only [zz]
        refine tr 27 (.int .i64 ((j+1:Nat):Int)) ?_;refine tr 28 (.int .i64 (j:Int)) ?_;refine tr 29 (.pointer (some ⟨b,off+j*3,none⟩)) ?_;refine tr 30 (.pointer (some ⟨b,off+j*3,none⟩)) ?_;refine tk 31 (v:=.int .i64 tj.tx) rfl (Or.inl ⟨by rfl,?_⟩) hHeld ?_
        ·intro w' hSw;have hx:=hSw.2;go_simp<;>rfl
        try simp only [zz]
        refine tr 32 (.pointer (some ⟨wr.heap.size,0,none⟩)) ?_;refine tk 33 (v:=.int .i64 t.tx) rfl (Or.inl ⟨by rfl,?_⟩) hHeld ?_
        ·intro w' hSw;have hx:=hSw.1.1;go_simp<;>rfl
        try simp only [zz]
        refine tr 34 (.bool false) ?_;refine tr 35 (.bool false) ?_;refine tr 36 (.bool false) ?_;refine wpAnyH_done (by kernel_rfl) ?_ _;clear hHeld;have HN:Hid (Below W.heap.size W d1):=nV.trans (D1.mono nV.size);go_wp2_with fail;go_roundw
        case rel=>exact ⟨j+1+1,by omega,by go_num,gV,HN.out⟩
        case measure=>simp [intOf];omega
       ·have hDD:t.tx≤tj.tx:=by omega
        have yu:Hid (wU e.v (j+1)=false):=by rw [Hid,VK.out,hA.out,hab.out,decide_eq_true XA.out,decide_eq_false hD];simp
        clear hD;refine wp_region_held_drew (S:=fun u=>(u.cell? ⟨wr.heap.size,0,none⟩=some (.int .i64 t.tx)∧u.cell? ⟨wr.heap.size,1,none⟩=some (.int .i64 t.last)∧u.cell? ⟨wr.heap.size,2,none⟩=some (.bool false)∧u.cell? ⟨w.heap.size,142,none⟩=some (.int .i64 e.next)∧u.rangeAt w.heap.size 138 e.log.cells∧u.cell? ⟨w.heap.size,140,none⟩=some (.slice (some ⟨b,off,none⟩) e.txs.length e.cT))∧u.cell? ⟨b,off+j*3,none⟩=some (.int .i64 tj.tx)) (by kernel_rfl) (⟨HS.out _ D0,RD.out _ D0⟩) (fun hHeld=>?_);generalize V.drew=d0 at*
        refine tr 0 (.pointer (some ⟨wr.heap.size,0,none⟩)) ?_;refine tk 1 (v:=.int .i64 t.tx) rfl (Or.inl ⟨by rfl,?_⟩) hHeld ?_
        ·intro w' hSw;have hx:=hSw.1.1;go_simp<;>rfl
        try simp only [zz]
        refine tr 2 (.pointer (some ⟨w.heap.size,142,none⟩)) ?_;refine tk 3 (v:=.int .i64 e.next) rfl (Or.inl ⟨by rfl,?_⟩) hHeld ?_
        ·intro w' hSw;have hx:=hSw.1.2.2.2.1;go_simp<;>rfl
        try simp only [zz]
        refine tr 4 (.int .i64 (e.next-1)) ?_;refine wpAnyH_ready (rs:=[5]) (by kernel_rfl) (by simp) ?_;refine AllReadyH.cons rfl (fun K hK=>?_) AllReadyH.nil;go_simp;refine (jd _ _ _ _).mono ?_;rintro r d0 ⟨rfl,rfl⟩;rw [hA.out];refine hK.out _ _ (hHeld) (fun hHeld=>?_);clear hK K ;try simp only [zz]
        refine tr 6 (.bool false) ?_;refine tr 7 (.bool false) ?_;refine tr 8 (.pointer (some ⟨wr.heap.size,2,none⟩)) ?_;refine tk 9 (v:=.bool false) rfl (Or.inl ⟨by rfl,?_⟩) hHeld ?_
        ·intro w' hSw;have hx:=hSw.1.2.2.1;go_simp<;>rfl
        try simp only [zz]
        refine tr 10 (.bool false) ?_;refine tr 11 (.bool false) ?_;refine tr 12 (.pointer (some ⟨wr.heap.size,1,none⟩)) ?_;refine tk 13 (v:=.int .i64 t.last) rfl (Or.inl ⟨by rfl,?_⟩) hHeld ?_
        ·intro w' hSw;have hx:=hSw.1.2.1;go_simp<;>rfl
        try simp only [zz]
        refine tr 14 (.pointer (some ⟨w.heap.size,138,none⟩)) ?_;refine Go.Proofs.YtjkckhfddgeboaaGreatDoor.ts 15 rfl (yieldsIf_load_mid (by rfl) _ _ rfl _ _ rfl (e.log.cells) _ (fun _ h=>h.1.2.2.2.2.1) Tryz.underlying38 rfl (xQ _)) ?_;refine tr 16 (.pointer (some ⟨wr.heap.size,0,none⟩)) ?_;refine tk 17 (v:=.int .i64 t.tx) rfl (Or.inl ⟨by rfl,?_⟩) hHeld ?_
        ·intro w' hSw;have hx:=hSw.1.1;go_simp<;>rfl
        try simp only [zz]
        refine wpAnyH_ready (rs:=[18]) (by kernel_rfl) (by simp) ?_;refine AllReadyH.cons rfl (fun K hK=>?_) AllReadyH.nil;go_simp;refine (CL _ D0).mono ?_;rintro r d1 ⟨rfl,hb1⟩;have D1:Below V.heap.size V d1:=D0.trans (hb1.mono D0.size);refine hK.out _ _ (⟨HS.out _ D1,RD.out _ D1⟩) (fun hHeld=>?_);clear hK K hb1;try simp only [zz]
        refine tr 19 (.bool false) ?_;refine tr 20 (.bool false) ?_;refine tr 21 (.bool false) ?_;refine tr 22 (.int .i64 ((j+1:Nat):Int)) ?_;refine tr 23 (.bool true) ?_;refine tr 24 (.bool true) ?_;refine tr 25 (.pointer (some ⟨w.heap.size,140,none⟩)) ?_;refine tk 26 (v:=.slice (some ⟨b,off,none⟩) e.txs.length e.cT) rfl (Or.inl ⟨by rfl,?_⟩) hHeld ?_
        ·intro w' hSw;have hx:=hSw.1.2.2.2.2.2;go_simp<;>rfl
        try simp only [zz]
        refine tr 27 (.int .i64 ((j+1:Nat):Int)) ?_;refine tr 28 (.int .i64 (j:Int)) ?_;refine tr 29 (.pointer (some ⟨b,off+j*3,none⟩)) ?_;refine tr 30 (.pointer (some ⟨b,off+j*3,none⟩)) ?_;refine tk 31 (v:=.int .i64 tj.tx) rfl (Or.inl ⟨by rfl,?_⟩) hHeld ?_
        ·intro w' hSw;have hx:=hSw.2;go_simp<;>rfl
        try simp only [zz]
        refine tr 32 (.pointer (some ⟨wr.heap.size,0,none⟩)) ?_;refine tk 33 (v:=.int .i64 t.tx) rfl (Or.inl ⟨by rfl,?_⟩) hHeld ?_
        ·intro w' hSw;have hx:=hSw.1.1;go_simp<;>rfl
        try simp only [zz]
        refine tr 34 (.bool true) ?_;refine tr 35 (.bool true) ?_;refine tr 36 (.bool true) ?_;refine wpAnyH_done (by kernel_rfl) ?_ _;clear hHeld;have HE:Hid (jQ=false∧Below w.heap.size w d1):=⟨Bn.out yu.out,hbW.trans ((nV.trans (D1.mono nV.size)).mono hbW.size)⟩;go_wp2;go_ret;exact ⟨qd HE.out.1.symm,HE.out.2⟩
     ·have yu:Hid (wU e.v k=false):=by rw [Hid,VK.out,hA.out,hab.out,decide_eq_false hC];rfl
      have hCb:(t.last != lastOf (e.log.recs.map qg.v) t.tx)=true:=by simpa using hC
      clear hC;refine wp_region_held_drew (S:=fun u=>(u.cell? ⟨wr.heap.size,0,none⟩=some (.int .i64 t.tx)∧u.cell? ⟨wr.heap.size,1,none⟩=some (.int .i64 t.last)∧u.cell? ⟨wr.heap.size,2,none⟩=some (.bool false)∧u.cell? ⟨w.heap.size,142,none⟩=some (.int .i64 e.next)∧u.rangeAt w.heap.size 138 e.log.cells∧u.cell? ⟨w.heap.size,140,none⟩=some (.slice (some ⟨b,off,none⟩) e.txs.length e.cT))) (by kernel_rfl) (HS.out _ D0) (fun hHeld=>?_);generalize V.drew=d0 at*
      refine tr 0 (.pointer (some ⟨wr.heap.size,0,none⟩)) ?_;refine tk 1 (v:=.int .i64 t.tx) rfl (Or.inl ⟨by rfl,?_⟩) hHeld ?_
      ·intro w' hSw;have hx:=hSw.1;go_simp<;>rfl
      try simp only [zz]
      refine tr 2 (.pointer (some ⟨w.heap.size,142,none⟩)) ?_;refine tk 3 (v:=.int .i64 e.next) rfl (Or.inl ⟨by rfl,?_⟩) hHeld ?_
      ·intro w' hSw;have hx:=hSw.2.2.2.1;go_simp<;>rfl
      try simp only [zz]
      refine tr 4 (.int .i64 (e.next-1)) ?_;refine wpAnyH_ready (rs:=[5]) (by kernel_rfl) (by simp) ?_;refine AllReadyH.cons rfl (fun K hK=>?_) AllReadyH.nil;go_simp;refine (jd _ _ _ _).mono ?_;rintro r d0 ⟨rfl,rfl⟩;rw [hA.out];refine hK.out _ _ (hHeld) (fun hHeld=>?_);clear hK K ;try simp only [zz]
      refine tr 6 (.bool false) ?_;refine tr 7 (.bool false) ?_;refine tr 8 (.pointer (some ⟨wr.heap.size,2,none⟩)) ?_;refine tk 9 (v:=.bool false) rfl (Or.inl ⟨by rfl,?_⟩) hHeld ?_
      ·intro w' hSw;have hx:=hSw.2.2.1;go_simp<;>rfl
      try simp only [zz]
      refine tr 10 (.bool false) ?_;refine tr 11 (.bool false) ?_;refine tr 12 (.pointer (some ⟨wr.heap.size,1,none⟩)) ?_;refine tk 13 (v:=.int .i64 t.last) rfl (Or.inl ⟨by rfl,?_⟩) hHeld ?_
      ·intro w' hSw;have hx:=hSw.2.1;go_simp<;>rfl
      try simp only [zz]
      refine tr 14 (.pointer (some ⟨w.heap.size,138,none⟩)) ?_;refine Go.Proofs.YtjkckhfddgeboaaGreatDoor.ts 15 rfl (yieldsIf_load_mid (by rfl) _ _ rfl _ _ rfl (e.log.cells) _ (fun _ h=>h.2.2.2.2.1) Tryz.underlying38 rfl (xQ _)) ?_;refine tr 16 (.pointer (some ⟨wr.heap.size,0,none⟩)) ?_;refine tk 17 (v:=.int .i64 t.tx) rfl (Or.inl ⟨by rfl,?_⟩) hHeld ?_
      ·intro w' hSw;have hx:=hSw.1;go_simp<;>rfl
      try simp only [zz]
      refine wpAnyH_ready (rs:=[18]) (by kernel_rfl) (by simp) ?_;refine AllReadyH.cons rfl (fun K hK=>?_) AllReadyH.nil;go_simp;refine (CL _ D0).mono ?_;rintro r d1 ⟨rfl,hb1⟩;have D1:Below V.heap.size V d1:=D0.trans (hb1.mono D0.size);refine hK.out _ _ (HS.out _ D1) (fun hHeld=>?_);clear hK K hb1;try simp only [zz]
      refine tr 19 (.bool true) ?_;refine tr 20 (.bool true) ?_;refine tr 21 (.bool true) ?_;refine Go.Proofs.YtjkckhfddgeboaaGreatDoor.tu 22 ?_;refine Go.Proofs.YtjkckhfddgeboaaGreatDoor.tu 23 ?_;refine Go.Proofs.YtjkckhfddgeboaaGreatDoor.tu 24 ?_;refine Go.Proofs.YtjkckhfddgeboaaGreatDoor.tu 25 ?_;refine Go.Proofs.YtjkckhfddgeboaaGreatDoor.tu 26 ?_;refine Go.Proofs.YtjkckhfddgeboaaGreatDoor.tu 27 ?_;refine Go.Proofs.YtjkckhfddgeboaaGreatDoor.tu 28 ?_;refine Go.Proofs.YtjkckhfddgeboaaGreatDoor.tu 29 ?_;refine Go.Proofs.YtjkckhfddgeboaaGreatDoor.tu 30 ?_;refine Go.Proofs.YtjkckhfddgeboaaGreatDoor.tu 31 ?_;refine Go.Proofs.YtjkckhfddgeboaaGreatDoor.tu 32 ?_;refine Go.Proofs.YtjkckhfddgeboaaGreatDoor.tu 33 ?_;refine Go.Proofs.YtjkckhfddgeboaaGreatDoor.tu 34 ?_;refine Go.Proofs.YtjkckhfddgeboaaGreatDoor.tu 35 ?_;refine tr 36 (.bool true) ?_;refine wpAnyH_done (by kernel_rfl) ?_ _;clear hHeld;have HE:Hid (jQ=false∧Below w.heap.size w d1):=⟨Bn.out yu.out,hbW.trans ((nV.trans (D1.mono nV.size)).mono hbW.size)⟩;go_wp2;go_ret;exact ⟨qd HE.out.1.symm,HE.out.2⟩
  ·have e1:k=e.txs.length:=by omega
   have HT1:Hid (∀ j,j<e.txs.length→wU e.v j=true):=by rw [e1] at hall;exact hall
   obtain ⟨_,_,_,p3,p4,_,_⟩:=qH se (HB.out wr hbr);have hge:¬ (k:Int)<(e.txs.length:Int):=by omega
   clear hall e1;go_upto_region 8 with fail;clear p3 p4 hge;generalize wr=wq at*
   go_loopw [5,6] (fun i _ wr=>∃ k:Nat,k≤e.holds.length∧i=.int .i64 (k:Int)∧Hid (∀ j,j<k→zi e.v j=true)∧Below W.heap.size W wr) (fun i _ _=>e.holds.length-(intOf i).toNat)
   case atStart=>exact ⟨0,Nat.zero_le _,rfl,fun j hj=>by omega,hbr⟩
   case round=>
    obtain ⟨m,hm,rfl,Mg,uk⟩:=hrel;clear hbr uX;have uX:=uk.size;by_cases hlt3:m<e.holds.length
    ·obtain ⟨b,off,ha,hc⟩:=(HR.out _ uk).holds (by intro e0;rw [e0] at hlt3;simp at hlt3);have HC:Hid (∀ j,j<e.holds.length→∀ u,Below wr.heap.size wr u→u.cell? ⟨b,off+j*2,none⟩=some (.int .i64 (e.holds.getD j qY).tx)∧u.cell? ⟨b,off+j*2+1,none⟩=some (.int .i64 (e.holds.getD j qY).oid)):=fun j hj u hu=>⟨(hu.cell (p:=⟨b,off+j*2,none⟩) (block_lt (hc j hj).1)).trans (hc j hj).1,(hu.cell (p:=⟨b,off+j*2+1,none⟩) (block_lt (hc j hj).2)).trans (hc j hj).2⟩
     have RH:Hid (_=_):=HHX.out m;have Q8:Hid (_→_):=HHN.out m hlt3;clear hc;obtain ⟨h,hh⟩:∃ h,Hid (e.holds.getD m qY=h):=⟨_,rfl⟩;rw [hh.out] at RH;have HS:Hid (∀ u,Below wr.heap.size wr u→(u.cell? ⟨w.heap.size,141,none⟩=some (.slice (some ⟨b,off,none⟩) e.holds.length e.cH)∧u.cell? ⟨b,off+m*2+1,none⟩=some (.int .i64 h.oid)∧u.cell? ⟨b,off+m*2,none⟩=some (.int .i64 h.tx)∧u.rangeAt w.heap.size 0 e.cells)):=fun u hu=>by
      have bu:=HB.out u (uk.trans (hu.mono uk.size));obtain ⟨_,_,_,_,q4,_,_⟩:=qH se bu;rw [ha] at q4;obtain ⟨z0,z1⟩:=HC.out m hlt3 u hu;rw [hh.out] at z0 z1;exact ⟨q4,z1,z0,Box.range [] e.cells [] (by simpa using bu)⟩
     obtain ⟨_,_,_,_,p4,_,_⟩:=qH se (HB.out wr uk);rw [ha] at p4;have CL:=fun u (hu:Below wr.heap.size wr u)=>Bf e se h.tx u (HR.out _ (uk.trans (hu.mono uk.size))).txs (by omega)
     have Y9:(m:Int)<(e.holds.length:Int):=by omega
     have hm0:(0:Int)≤(m:Int):=by omega
     go_upto_region 10 with fail;clear p4;have D0:Below wr.heap.size wr wr.drew:=(Below.refl _ _).drew;obtain ⟨bA,hA⟩:∃ bA,Hid (inB h.oid 1 31=bA):=⟨_,rfl⟩;obtain ⟨lv,hlv⟩:∃ lv,Hid (wT e.txs h.tx=lv):=⟨_,rfl⟩;have HI:=kI se;cases bA with
     | false=>
      have yu:Hid (zi e.v m=false):=by rw [Hid,RH.out,hA.out];rfl
      refine wp_region_held_drew (S:=fun u=>(u.cell? ⟨w.heap.size,141,none⟩=some (.slice (some ⟨b,off,none⟩) e.holds.length e.cH)∧u.cell? ⟨b,off+m*2+1,none⟩=some (.int .i64 h.oid)∧u.cell? ⟨b,off+m*2,none⟩=some (.int .i64 h.tx)∧u.rangeAt w.heap.size 0 e.cells)) (by kernel_rfl) (HS.out _ D0) (fun hHeld=>?_);generalize wr.drew=d0 at*
      refine tr 0 (.pointer (some ⟨w.heap.size,141,none⟩)) ?_;refine tk 1 (v:=.slice (some ⟨b,off,none⟩) e.holds.length e.cH) rfl (Or.inl ⟨by rfl,?_⟩) hHeld ?_
      ·intro w' hSw;have hx:=hSw.1;go_simp<;>rfl
      try simp only [zz]
      refine tr 2 (.int .i64 (m:Int)) ?_;refine tr 3 (.pointer (some ⟨b,off+m*2,none⟩)) ?_;refine tr 4 (.pointer (some ⟨b,off+m*2+1,none⟩)) ?_;refine tk 5 (v:=.int .i64 h.oid) rfl (Or.inl ⟨by rfl,?_⟩) hHeld ?_
      ·intro w' hSw;have hx:=hSw.2.1;go_simp<;>rfl
      try simp only [zz]
      refine wpAnyH_ready (rs:=[6]) (by kernel_rfl) (by simp) ?_;refine AllReadyH.cons rfl (fun K hK=>?_) AllReadyH.nil;go_simp;refine (jd _ _ _ _).mono ?_;rintro r d0 ⟨rfl,rfl⟩;rw [hA.out];refine hK.out _ _ (hHeld) (fun hHeld=>?_);clear hK K ;try simp only [zz]
      refine tr 7 (.bool true) ?_;refine tr 8 (.bool true) ?_;refine Go.Proofs.YtjkckhfddgeboaaGreatDoor.tu 9 ?_;refine Go.Proofs.YtjkckhfddgeboaaGreatDoor.tu 10 ?_;refine Go.Proofs.YtjkckhfddgeboaaGreatDoor.tu 11 ?_;refine Go.Proofs.YtjkckhfddgeboaaGreatDoor.tu 12 ?_;refine Go.Proofs.YtjkckhfddgeboaaGreatDoor.tu 13 ?_;refine Go.Proofs.YtjkckhfddgeboaaGreatDoor.tu 14 ?_;refine Go.Proofs.YtjkckhfddgeboaaGreatDoor.tu 15 ?_;refine Go.Proofs.YtjkckhfddgeboaaGreatDoor.tu 16 ?_;refine Go.Proofs.YtjkckhfddgeboaaGreatDoor.tu 17 ?_;refine tr 18 (.bool true) ?_;refine wpAnyH_done (by kernel_rfl) ?_ _;clear hHeld;have HE:Hid (jQ=false∧Below w.heap.size w d0):=⟨Q8.out yu.out,hbW.trans ((uk.trans (D0.mono uk.size)).mono hbW.size)⟩;go_wp2;go_ret;exact ⟨qd HE.out.1.symm,HE.out.2⟩
     | true=>
      by_cases hL:lv<0
      ·have yu:Hid (zi e.v m=false):=by rw [Hid,RH.out,hA.out,hlv.out,decide_eq_false (by omega)];rfl
       refine wp_region_held_drew (S:=fun u=>(u.cell? ⟨w.heap.size,141,none⟩=some (.slice (some ⟨b,off,none⟩) e.holds.length e.cH)∧u.cell? ⟨b,off+m*2+1,none⟩=some (.int .i64 h.oid)∧u.cell? ⟨b,off+m*2,none⟩=some (.int .i64 h.tx)∧u.rangeAt w.heap.size 0 e.cells)) (by kernel_rfl) (HS.out _ D0) (fun hHeld=>?_);generalize wr.drew=d0 at*
       refine tr 0 (.pointer (some ⟨w.heap.size,141,none⟩)) ?_;refine tk 1 (v:=.slice (some ⟨b,off,none⟩) e.holds.length e.cH) rfl (Or.inl ⟨by rfl,?_⟩) hHeld ?_
       ·intro w' hSw;have hx:=hSw.1;go_simp<;>rfl
       try simp only [zz]
       refine tr 2 (.int .i64 (m:Int)) ?_;refine tr 3 (.pointer (some ⟨b,off+m*2,none⟩)) ?_;refine tr 4 (.pointer (some ⟨b,off+m*2+1,none⟩)) ?_;refine tk 5 (v:=.int .i64 h.oid) rfl (Or.inl ⟨by rfl,?_⟩) hHeld ?_
       ·intro w' hSw;have hx:=hSw.2.1;go_simp<;>rfl
       try simp only [zz]
       refine wpAnyH_ready (rs:=[6]) (by kernel_rfl) (by simp) ?_;refine AllReadyH.cons rfl (fun K hK=>?_) AllReadyH.nil;go_simp;refine (jd _ _ _ _).mono ?_;rintro r d0 ⟨rfl,rfl⟩;rw [hA.out];refine hK.out _ _ (hHeld) (fun hHeld=>?_);clear hK K ;try simp only [zz]
       refine tr 7 (.bool false) ?_;refine tr 8 (.bool false) ?_;refine Go.Proofs.YtjkckhfddgeboaaGreatDoor.ts 9 rfl (yieldsIf_load_mid (by rfl) _ _ rfl _ _ rfl (e.cells) _ (fun _ h=>h.2.2.2) Tryz.underlying42 rfl HI) ?_;refine tr 10 (.pointer (some ⟨w.heap.size,141,none⟩)) ?_;refine tk 11 (v:=.slice (some ⟨b,off,none⟩) e.holds.length e.cH) rfl (Or.inl ⟨by rfl,?_⟩) hHeld ?_
       ·intro w' hSw;have hx:=hSw.1;go_simp<;>rfl
       try simp only [zz]
       refine tr 12 (.int .i64 (m:Int)) ?_;refine tr 13 (.pointer (some ⟨b,off+m*2,none⟩)) ?_;refine tr 14 (.pointer (some ⟨b,off+m*2,none⟩)) ?_;refine tk 15 (v:=.int .i64 h.tx) rfl (Or.inl ⟨by rfl,?_⟩) hHeld ?_
       ·intro w' hSw;have hx:=hSw.2.2.1;go_simp<;>rfl
       try simp only [zz]
       refine wpAnyH_ready (rs:=[16]) (by kernel_rfl) (by simp) ?_;refine AllReadyH.cons rfl (fun K hK=>?_) AllReadyH.nil;go_simp;refine (CL _ D0).mono ?_;rintro r d1 ⟨rfl,hb1⟩;rw [hlv.out];have D1:Below wr.heap.size wr d1:=D0.trans (hb1.mono D0.size);refine hK.out _ _ (HS.out _ D1) (fun hHeld=>?_);clear hK K hb1;try simp only [zz]
       refine tr 17 (.bool true) ?_;refine tr 18 (.bool true) ?_;refine wpAnyH_done (by kernel_rfl) ?_ _;clear hHeld;have HE:Hid (jQ=false∧Below w.heap.size w d1):=⟨Q8.out yu.out,hbW.trans ((uk.trans (D1.mono uk.size)).mono hbW.size)⟩;go_wp2;go_ret;exact ⟨qd HE.out.1.symm,HE.out.2⟩
      ·have Iu:Hid (decide (0≤wT e.txs h.tx)=true):=by rw [Hid,hlv.out];exact decide_eq_true (by omega)
       refine wp_region_held_drew (S:=fun u=>(u.cell? ⟨w.heap.size,141,none⟩=some (.slice (some ⟨b,off,none⟩) e.holds.length e.cH)∧u.cell? ⟨b,off+m*2+1,none⟩=some (.int .i64 h.oid)∧u.cell? ⟨b,off+m*2,none⟩=some (.int .i64 h.tx)∧u.rangeAt w.heap.size 0 e.cells)) (by kernel_rfl) (HS.out _ D0) (fun hHeld=>?_);generalize wr.drew=d0 at*
       refine tr 0 (.pointer (some ⟨w.heap.size,141,none⟩)) ?_;refine tk 1 (v:=.slice (some ⟨b,off,none⟩) e.holds.length e.cH) rfl (Or.inl ⟨by rfl,?_⟩) hHeld ?_
       ·intro w' hSw;have hx:=hSw.1;go_simp<;>rfl
       try simp only [zz]
       refine tr 2 (.int .i64 (m:Int)) ?_;refine tr 3 (.pointer (some ⟨b,off+m*2,none⟩)) ?_;refine tr 4 (.pointer (some ⟨b,off+m*2+1,none⟩)) ?_;refine tk 5 (v:=.int .i64 h.oid) rfl (Or.inl ⟨by rfl,?_⟩) hHeld ?_
       ·intro w' hSw;have hx:=hSw.2.1;go_simp<;>rfl
       try simp only [zz]
       refine wpAnyH_ready (rs:=[6]) (by kernel_rfl) (by simp) ?_;refine AllReadyH.cons rfl (fun K hK=>?_) AllReadyH.nil;go_simp;refine (jd _ _ _ _).mono ?_;rintro r d0 ⟨rfl,rfl⟩;rw [hA.out];refine hK.out _ _ (hHeld) (fun hHeld=>?_);clear hK K ;try simp only [zz]
       refine tr 7 (.bool false) ?_;refine tr 8 (.bool false) ?_;refine Go.Proofs.YtjkckhfddgeboaaGreatDoor.ts 9 rfl (yieldsIf_load_mid (by rfl) _ _ rfl _ _ rfl (e.cells) _ (fun _ h=>h.2.2.2) Tryz.underlying42 rfl HI) ?_;refine tr 10 (.pointer (some ⟨w.heap.size,141,none⟩)) ?_;refine tk 11 (v:=.slice (some ⟨b,off,none⟩) e.holds.length e.cH) rfl (Or.inl ⟨by rfl,?_⟩) hHeld ?_
       ·intro w' hSw;have hx:=hSw.1;go_simp<;>rfl
       try simp only [zz]
       refine tr 12 (.int .i64 (m:Int)) ?_;refine tr 13 (.pointer (some ⟨b,off+m*2,none⟩)) ?_;refine tr 14 (.pointer (some ⟨b,off+m*2,none⟩)) ?_;refine tk 15 (v:=.int .i64 h.tx) rfl (Or.inl ⟨by rfl,?_⟩) hHeld ?_
       ·intro w' hSw;have hx:=hSw.2.2.1;go_simp<;>rfl
       try simp only [zz]
       refine wpAnyH_ready (rs:=[16]) (by kernel_rfl) (by simp) ?_;refine AllReadyH.cons rfl (fun K hK=>?_) AllReadyH.nil;go_simp;refine (CL _ D0).mono ?_;rintro r d1 ⟨rfl,hb1⟩;rw [hlv.out];have D1:Below wr.heap.size wr d1:=D0.trans (hb1.mono D0.size);refine hK.out _ _ (HS.out _ D1) (fun hHeld=>?_);clear hK K hb1;try simp only [zz]
       refine tr 17 (.bool false) ?_;refine tr 18 (.bool false) ?_;refine wpAnyH_done (by kernel_rfl) ?_ _;clear hHeld;have N1:Below W.heap.size W d1:=uk.trans (D1.mono uk.size);clear CL;go_wp2_with fail;generalize wr=wo at*
       go_loopw [6] (fun i wr=>∃ q:Nat,q≤m∧i=.int .i64 (q:Int)∧Hid (∀ j,j<q→(e.holds.getD j qY).oid≠h.oid)∧Below wo.heap.size wo wr) (fun i _=>m-(intOf i).toNat)
       case atStart=>exact ⟨0,Nat.zero_le _,rfl,fun j hj=>by omega,D1⟩
       case round=>
        obtain ⟨q,hq,rfl,Iw,hbi⟩:=hrel;clear D1 N1;by_cases qfy:q<m
        ·obtain ⟨y0,y1⟩:=HC.out q (by omega) wr hbi;obtain ⟨s0,s1,_,_⟩:=HS.out wr hbi;obtain ⟨oq,hoq⟩:∃ oq,Hid ((e.holds.getD q qY).oid=oq):=⟨_,rfl⟩;rw [hoq.out] at y1;have HSI:Hid (∀ u,Below wr.heap.size wr u→(u.cell? ⟨w.heap.size,141,none⟩=some (.slice (some ⟨b,off,none⟩) e.holds.length e.cH)∧u.cell? ⟨b,off+m*2+1,none⟩=some (.int .i64 h.oid)∧u.cell? ⟨b,off+q*2+1,none⟩=some (.int .i64 oq))):=fun u hu=>by
          have hu2:=hbi.trans (hu.mono hbi.size);obtain ⟨z0,z1,_,_⟩:=HS.out u hu2;obtain ⟨_,z2⟩:=HC.out q (by omega) u hu2;rw [hoq.out] at z2;exact ⟨z0,z1,z2⟩
         have hql:(q:Int)<(e.holds.length:Int):=by omega
         have hq0:(0:Int)≤(q:Int):=by omega
         have hqm:(q:Int)<(m:Int):=by omega
         clear y0 y1 s0 s1;go_wp2_with fail;have DI:Below wr.heap.size wr wr.drew:=(Below.refl _ _).drew;have NI:Below wo.heap.size wo wr.drew:=hbi.trans (DI.mono hbi.size);by_cases heq:oq=h.oid
         ·have xB:(oq == h.oid)=true:=by simp [heq]
          have yu:Hid (zi e.v m=false):=by
           have hf:Y8 e.holds m=false:=uW q (by omega) (by rw [hh.out,hoq.out,heq];simp);rw [Hid,RH.out,hf];simp
          clear heq;refine wp_region_held_drew (S:=fun u=>(u.cell? ⟨w.heap.size,141,none⟩=some (.slice (some ⟨b,off,none⟩) e.holds.length e.cH)∧u.cell? ⟨b,off+m*2+1,none⟩=some (.int .i64 h.oid)∧u.cell? ⟨b,off+q*2+1,none⟩=some (.int .i64 oq))) (by kernel_rfl) (HSI.out _ DI) (fun hHeld=>?_);generalize wr.drew=d2 at*
          refine tr 0 (.pointer (some ⟨w.heap.size,141,none⟩)) ?_;refine tk 1 (v:=.slice (some ⟨b,off,none⟩) e.holds.length e.cH) rfl (Or.inl ⟨by rfl,?_⟩) hHeld ?_
          ·intro w' hSw;have hx:=hSw.1;go_simp<;>rfl
          try simp only [zz]
          refine tr 2 (.int .i64 (q:Int)) ?_;refine tr 3 (.pointer (some ⟨b,off+q*2,none⟩)) ?_;refine tr 4 (.pointer (some ⟨b,off+q*2+1,none⟩)) ?_;refine tk 5 (v:=.int .i64 oq) rfl (Or.inl ⟨by rfl,?_⟩) hHeld ?_
          ·intro w' hSw;have hx:=hSw.2.2;go_simp<;>rfl
          try simp only [zz]
          refine tr 6 (.pointer (some ⟨w.heap.size,141,none⟩)) ?_;refine tk 7 (v:=.slice (some ⟨b,off,none⟩) e.holds.length e.cH) rfl (Or.inl ⟨by rfl,?_⟩) hHeld ?_
          ·intro w' hSw;have hx:=hSw.1;go_simp<;>rfl
          try simp only [zz]
          refine tr 8 (.int .i64 (m:Int)) ?_;refine tr 9 (.pointer (some ⟨b,off+m*2,none⟩)) ?_;refine tr 10 (.pointer (some ⟨b,off+m*2+1,none⟩)) ?_;refine tk 11 (v:=.int .i64 h.oid) rfl (Or.inl ⟨by rfl,?_⟩) hHeld ?_
          ·intro w' hSw;have hx:=hSw.2.1;go_simp<;>rfl
          try simp only [zz]
          refine tr 12 (.bool true) ?_;refine wpAnyH_done (by kernel_rfl) ?_ _;clear hHeld;have HE:Hid (jQ=false∧Below w.heap.size w d2):=⟨Q8.out yu.out,hbW.trans ((uk.trans (NI.mono uk.size)).mono hbW.size)⟩;go_wp2;go_ret;exact ⟨qd HE.out.1.symm,HE.out.2⟩
         ·have xB:(oq == h.oid)=false:=by simpa using heq
          have qdI:Hid (∀ j,j<q+1→(e.holds.getD j qY).oid≠h.oid):=fun j hj=>by
           by_cases q2:j=q
           ·rw [q2,hoq.out];exact heq
           ·exact Iw.out j (by omega)
          clear heq;refine wp_region_held_drew (S:=fun u=>(u.cell? ⟨w.heap.size,141,none⟩=some (.slice (some ⟨b,off,none⟩) e.holds.length e.cH)∧u.cell? ⟨b,off+m*2+1,none⟩=some (.int .i64 h.oid)∧u.cell? ⟨b,off+q*2+1,none⟩=some (.int .i64 oq))) (by kernel_rfl) (HSI.out _ DI) (fun hHeld=>?_);generalize wr.drew=d2 at*
          refine tr 0 (.pointer (some ⟨w.heap.size,141,none⟩)) ?_;refine tk 1 (v:=.slice (some ⟨b,off,none⟩) e.holds.length e.cH) rfl (Or.inl ⟨by rfl,?_⟩) hHeld ?_
          ·intro w' hSw;have hx:=hSw.1;go_simp<;>rfl
          try simp only [zz]
          refine tr 2 (.int .i64 (q:Int)) ?_;refine tr 3 (.pointer (some ⟨b,off+q*2,none⟩)) ?_;refine tr 4 (.pointer (some ⟨b,off+q*2+1,none⟩)) ?_;refine tk 5 (v:=.int .i64 oq) rfl (Or.inl ⟨by rfl,?_⟩) hHeld ?_
          ·intro w' hSw;have hx:=hSw.2.2;go_simp<;>rfl
          try simp only [zz]
          refine tr 6 (.pointer (some ⟨w.heap.size,141,none⟩)) ?_;refine tk 7 (v:=.slice (some ⟨b,off,none⟩) e.holds.length e.cH) rfl (Or.inl ⟨by rfl,?_⟩) hHeld ?_
          ·intro w' hSw;have hx:=hSw.1;go_simp<;>rfl
          try simp only [zz]
          refine tr 8 (.int .i64 (m:Int)) ?_;refine tr 9 (.pointer (some ⟨b,off+m*2,none⟩)) ?_;refine tr 10 (.pointer (some ⟨b,off+m*2+1,none⟩)) ?_;refine tk 11 (v:=.int .i64 h.oid) rfl (Or.inl ⟨by rfl,?_⟩) hHeld ?_
          ·intro w' hSw;have hx:=hSw.2.1;go_simp<;>rfl
          try simp only [zz]
          refine tr 12 (.bool false) ?_;refine wpAnyH_done (by kernel_rfl) ?_ _;clear hHeld;go_wp2_with fail;go_roundw
          case rel=>exact ⟨q+1,by omega,by go_num,qdI,NI⟩
          case measure=>simp [intOf];omega
        ·obtain rfl:q=m:=by omega
         have hqq:¬ (q:Int)<(q:Int):=by omega
         have yA:Hid (∀ j,j<q+1→zi e.v j=true):=fun j hj=>by
          by_cases q2:j=q
          ·have hf:Y8 e.holds q=true:=vo (fun i hi=>by rw [hh.out];exact decide_eq_true (Iw.out i hi));rw [q2,RH.out,hA.out,Iu.out,hf];rfl
          ·exact Mg.out j (by omega)
         have HN:Hid (Below W.heap.size W wr):=uk.trans (hbi.mono uk.size);go_wp2_with fail;go_roundw
         case rel=>exact ⟨q+1,by omega,by go_num,yA,HN.out⟩
         case measure=>simp [intOf];omega
    ·have e1:m=e.holds.length:=by omega
     have RI:Hid (∀ j,j<e.holds.length→zi e.v j=true):=by rw [e1] at Mg;exact Mg
     have HE:Hid (jQ=decide (e.txs.length≤6)∧Below w.heap.size w wr):=⟨xP.out HT1.out RI.out,hbW.trans (uk.mono hbW.size)⟩;obtain ⟨_,_,_,p3,p4,_,_⟩:=qH se (HB.out wr uk);have hge:¬ (m:Int)<(e.holds.length:Int):=by omega
     clear e1 Mg;by_cases h6:e.txs.length≤6
     ·have lY:(e.txs.length:Int)≤6:=by omega
      go_wp2;go_ret;exact ⟨qd (by rw [HE.out.1,decide_eq_true h6]),HE.out.2⟩
     ·have lY:¬ (e.txs.length:Int)≤6:=by omega
      go_wp2;go_ret;exact ⟨qd (by rw [HE.out.1,decide_eq_false h6]),HE.out.2⟩
end Go.Proofs.YtjkckhfddgeboaaGreatDoor