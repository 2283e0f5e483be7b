/- Several texts in one, in their order. -/
import Derived.Test.YtcoeamamaifoeaaGreatDoorPCrashx20
import Derived.Test.YtcoeamamaifoeaaGreatDoorPCrashx2
import Derived.Test.YtcoeamamaifoeaaGreatDoorPCrashx18
import Derived.Deep.Cut
import Derived.Test.YtcoeamamaifoeaaGreatDoorPCrashx1
set_option maxHeartbeats 8000000
set_option maxRecDepth 100000
namespace Go.Proofs.YtcoeamamaifoeaaGreatDoor
open Go.RowKit
theorem txAt_no {e:EngV} {k:Nat} (hk:k<e.txs.length) (h:txAt e k=false):okTxs e=false:=by
 have:txsB e=false:=all_no k hk h
 rw [okTxs,this,Bool.false_and]
theorem holdAt_no {e:EngV} {k:Nat} (hk:k<e.holds.length) (h:holdAt e k=false):okTxs e=false:=by
 have:holdsB e=false:=all_no k hk h
 rw [okTxs,this,Bool.false_and,Bool.and_false]
theorem okTxs_all {e:EngV} (h1:∀ k,k<e.txs.length→txAt e k=true) (h2:∀ k,k<e.holds.length→holdAt e k=true):okTxs e=decide (e.txs.length≤6):=by
 have a:txsB e=true:=all_yes h1
 have b:holdsB e=true:=all_yes h2
 rw [okTxs,a,b,Bool.true_and,Bool.true_and]
theorem l7TxsOk_any (e:EngA) (se:e.shape) (w:World) (re:e.reads w) (hl:e.short 1048576) (hn1:1≤e.next) (hn2:e.next≤1001):
  Calls Tryz.prog 53 #[.agg e.cells.toArray] w fun r w'=>r=.returned (.bool (okTxs e.v))∧Below w.heap.size w w':=by
 have HTN:Hid (∀ k,k<e.txs.length→txAt e.v k=false→okTxs e.v=false):=fun k hk h=>txAt_no hk h
 have HHN:Hid (∀ k,k<e.holds.length→holdAt e.v k=false→okTxs e.v=false):=fun k hk h=>holdAt_no hk h
 have HALL:Hid ((∀ k,k<e.txs.length→txAt e.v k=true)→(∀ k,k<e.holds.length→holdAt e.v k=true)→okTxs e.v=decide (e.txs.length≤6)):=fun h1 h2=>okTxs_all h1 h2
 have HTX:Hid (∀ k,txAt e.v k=(inB (e.txs.getD k zeroL).tx 1 (e.next-1) && (!(e.txs.getD k zeroL).aborts && (decide ((e.txs.getD k zeroL).last=lastOf (e.log.recs.map RecA.v) (e.txs.getD k zeroL).tx) && (decide (k=0) || decide ((e.txs.getD (k-1) zeroL).tx<(e.txs.getD k zeroL).tx)))))):=fun k=>rfl
 have HHX:Hid (∀ k,holdAt e.v k=(inB (e.holds.getD k zeroH).oid 1 31 && (decide (0≤liveOf e.txs (e.holds.getD k zeroH).tx) && freshH e.holds k))):=fun k=>rfl
 obtain ⟨ROK,hROK⟩:∃ b,okTxs e.v=b:=⟨_,rfl⟩
 rw [hROK] at HTN HHN HALL ⊢
 clear hROK
 obtain ⟨W,hW,b0,hbW,hsW⟩:=boxes1 w e.cells 58
 have HB:Hid (∀ u,Below W.heap.size W u→Box u w.heap.size e.cells 58):=fun u hu=>b0.below hu b0.lt
 have HR:Hid (∀ u,Below W.heap.size W u→e.reads u):=fun u hu=>(re.below hbW).below hu
 have hw0:w.heap.size<W.heap.size:=by omega
 have hlt:=hl.txs
 have hlh:=hl.holds
 have HLL:Hid (e.log.recs.length≤1099511627776):=by have:=hl.log.len;rw [Hid];omega
 clear b0 hsW hl re
 obtain ⟨_,_,_,p3,p4,_,_⟩:=eng_parts se (HB.out W (Below.refl _ _))
 go_enter Tryz.func53,Tryz.ntmps53
 go_wp2_with fail
 rw [hW.out]
 clear hW p3 p4
 go_loopw [3] (fun i wr=>∃ k:Nat,k≤e.txs.length∧i=.int .i64 (k:Int)∧Hid (∀ j,j<k→txAt e.v j=true)∧Below W.heap.size W wr) (fun i _=>e.txs.length-(intOf i).toNat)
 case atStart=>exact ⟨0,Nat.zero_le _,rfl,fun j hj=>by omega,Below.refl _ _⟩
 case round=>
  obtain ⟨k,hk,rfl,hall,hbr⟩:=hrel
  have hsr:=hbr.size
  by_cases hlt2:k<e.txs.length
  ·obtain ⟨b,off,ha,hc⟩:=(HR.out _ hbr).txs (by intro e0;rw [e0] at hlt2;simp at hlt2)
   obtain ⟨c0,c1,c2⟩:=hc k hlt2
   obtain ⟨_,_,_,p3,_,p5,_⟩:=eng_parts se (HB.out wr hbr)
   rw [ha] at p3
   have HPV:Hid (∀ j,k=j+1→∀ u,Below wr.heap.size wr u→u.cell? ⟨b,off+j*3,none⟩=some (.int .i64 (e.txs.getD j zeroL).tx)):=fun j hj u hu=>(hu.cell (p:=⟨b,off+j*3,none⟩) (block_lt (hc j (by omega)).1)).trans (hc j (by omega)).1
   have HTK:=HTX.out k
   have HTKh:Hid (_=_):=HTK
   clear HTK hc
   have HNK:=HTN.out k hlt2
   have HNKh:Hid (_→_):=HNK
   clear HNK
   generalize e.txs.getD k zeroL=t at*
   obtain ⟨V,hV,bV,hbV,hsV⟩:=boxes1 wr [.int .i64 t.tx,.int .i64 t.last,.bool t.aborts] 109
   have nV:Below W.heap.size W V:=hbr.trans (hbV.mono hbr.size)
   have HS:Hid (∀ u,Below V.heap.size V u→(u.cell? ⟨wr.heap.size,0,none⟩=some (.int .i64 t.tx)∧u.cell? ⟨wr.heap.size,1,none⟩=some (.int .i64 t.last)∧u.cell? ⟨wr.heap.size,2,none⟩=some (.bool t.aborts)∧u.cell? ⟨w.heap.size,142,none⟩=some (.int .i64 e.next)∧u.rangeAt w.heap.size 138 e.log.cells∧u.cell? ⟨w.heap.size,140,none⟩=some (.slice (some ⟨b,off,none⟩) e.txs.length e.cT))):=fun u hu=>by
    have bu:=bV.below hu bV.lt
    obtain ⟨_,_,q2,q3,_,q5,_⟩:=eng_parts se (HB.out u (nV.trans (hu.mono nV.size)))
    rw [ha] at q3
    exact ⟨bu.cell 0 _ rfl,bu.cell 1 _ rfl,bu.cell 2 _ rfl,q5,q2,q3⟩
   have sV:=hbV.size
   have CL:=fun u (hu:Below V.heap.size V u)=>l7Last_any e.log t.tx u (HR.out _ (nV.trans (hu.mono nV.size))).log HLL.out
   have HPW:Hid (∀ j,k=j+1→∀ u,Below V.heap.size V u→u.cell? ⟨b,off+j*3,none⟩=some (.int .i64 (e.txs.getD j zeroL).tx)):=fun j hj u hu=>HPV.out j hj u (hbV.trans (hu.mono sV))
   have hlV:=bV.lt
   clear bV hsV HPV
   go_upto_region 5 with fail
   rw [hV.out]
   clear hV c0 c1 c2 p3 p5
   have D0:Below V.heap.size V V.drew:=(Below.refl _ _).drew
   have hwr:IntKind.i64.wrap (e.next-1)=e.next-1:=by rw [IntKind.wrap_i64];omega
   obtain ⟨bA,hA⟩:∃ bA,Hid (inB t.tx 1 (e.next-1)=bA):=⟨_,rfl⟩
   cases bA with
   | false=>
    have HFALSE:Hid (txAt e.v k=false):=by rw [Hid,HTKh.out,hA.out];rfl
    refine wp_region_held_drew (S:=fun u=>(u.cell? ⟨wr.heap.size,0,none⟩=some (.int .i64 t.tx)∧u.cell? ⟨wr.heap.size,1,none⟩=some (.int .i64 t.last)∧u.cell? ⟨wr.heap.size,2,none⟩=some (.bool t.aborts)∧u.cell? ⟨w.heap.size,142,none⟩=some (.int .i64 e.next)∧u.rangeAt w.heap.size 138 e.log.cells∧u.cell? ⟨w.heap.size,140,none⟩=some (.slice (some ⟨b,off,none⟩) e.txs.length e.cT))) (by kernel_rfl) (HS.out _ D0) (fun hHeld=>?_)
    generalize V.drew=d0 at*
    refine tq 0 (v:=.pointer (some ⟨wr.heap.size,0,none⟩)) rfl hHeld ?_
    try simp only [zz]
    refine tk 1 (v:=.int .i64 t.tx) rfl (Or.inl ⟨by rfl,?_⟩) hHeld ?_
    ·intro w' hSw
     have hx:=hSw.1
     go_simp<;>rfl
    try simp only [zz]
    refine tq 2 (v:=.pointer (some ⟨w.heap.size,142,none⟩)) rfl hHeld ?_
    try simp only [zz]
    refine tk 3 (v:=.int .i64 e.next) rfl (Or.inl ⟨by rfl,?_⟩) hHeld ?_
    ·intro w' hSw
     have hx:=hSw.2.2.2.1
     go_simp<;>rfl
    try simp only [zz]
    refine tq 4 (v:=.int .i64 (e.next-1)) rfl hHeld ?_
    try simp only [zz]
    refine wpAnyH_ready (rs:=[5]) (by kernel_rfl) (by simp) ?_
    refine AllReadyH.cons rfl (fun K hK=>?_) AllReadyH.nil
    go_simp
    refine (l1In_any _ _ _ _).mono ?_
    rintro r d0 ⟨rfl,rfl⟩
    rw [hA.out]
    refine hK.out _ _ (hHeld) (fun hHeld=>?_)
    clear hK K 
    try simp only [zz]
    refine tq 6 (v:=.bool true) rfl hHeld ?_
    try simp only [zz]
    refine tq 7 (v:=.bool true) rfl hHeld ?_
    try simp only [zz]
    refine tk 8 (v:=undef) rfl (Or.inr ⟨by rfl,rfl⟩) hHeld ?_
    try simp only [zz]
    refine tk 9 (v:=undef) rfl (Or.inr ⟨by rfl,rfl⟩) hHeld ?_
    try simp only [zz]
    refine tq 10 (v:=.bool true) rfl hHeld ?_
    try simp only [zz]
    refine tq 11 (v:=.bool true) rfl hHeld ?_
    try simp only [zz]
    refine tk 12 (v:=undef) rfl (Or.inr ⟨by rfl,rfl⟩) hHeld ?_
    try simp only [zz]
    refine tk 13 (v:=undef) rfl (Or.inr ⟨by rfl,rfl⟩) hHeld ?_
    try simp only [zz]
    refine tk 14 (v:=undef) rfl (Or.inr ⟨by rfl,rfl⟩) hHeld ?_
    try simp only [zz]
    refine tk 15 (v:=undef) rfl (Or.inr ⟨by rfl,rfl⟩) hHeld ?_
    try simp only [zz]
    refine tk 16 (v:=undef) rfl (Or.inr ⟨by rfl,rfl⟩) hHeld ?_
    try simp only [zz]
    refine tk 17 (v:=undef) rfl (Or.inr ⟨by rfl,rfl⟩) hHeld ?_
    try simp only [zz]
    refine tk 18 (v:=undef) rfl (Or.inr ⟨by rfl,rfl⟩) hHeld ?_
    try simp only [zz]
    refine tk 19 (v:=undef) rfl (Or.inr ⟨by rfl,rfl⟩) hHeld ?_
    try simp only [zz]
    refine tq 20 (v:=.bool true) rfl hHeld ?_
    try simp only [zz]
    refine tq 21 (v:=.bool true) rfl hHeld ?_
    try simp only [zz]
    refine tk 22 (v:=undef) rfl (Or.inr ⟨by rfl,rfl⟩) hHeld ?_
    try simp only [zz]
    refine tk 23 (v:=undef) rfl (Or.inr ⟨by rfl,rfl⟩) hHeld ?_
    try simp only [zz]
    refine tk 24 (v:=undef) rfl (Or.inr ⟨by rfl,rfl⟩) hHeld ?_
    try simp only [zz]
    refine tk 25 (v:=undef) rfl (Or.inr ⟨by rfl,rfl⟩) hHeld ?_
    try simp only [zz]
    refine tk 26 (v:=undef) rfl (Or.inr ⟨by rfl,rfl⟩) hHeld ?_
    try simp only [zz]
    refine tk 27 (v:=undef) rfl (Or.inr ⟨by rfl,rfl⟩) hHeld ?_
    try simp only [zz]
    refine tk 28 (v:=undef) rfl (Or.inr ⟨by rfl,rfl⟩) hHeld ?_
    try simp only [zz]
    refine tk 29 (v:=undef) rfl (Or.inr ⟨by rfl,rfl⟩) hHeld ?_
    try simp only [zz]
    refine tk 30 (v:=undef) rfl (Or.inr ⟨by rfl,rfl⟩) hHeld ?_
    try simp only [zz]
    refine tk 31 (v:=undef) rfl (Or.inr ⟨by rfl,rfl⟩) hHeld ?_
    try simp only [zz]
    refine tk 32 (v:=undef) rfl (Or.inr ⟨by rfl,rfl⟩) hHeld ?_
    try simp only [zz]
    refine tk 33 (v:=undef) rfl (Or.inr ⟨by rfl,rfl⟩) hHeld ?_
    try simp only [zz]
    refine tk 34 (v:=undef) rfl (Or.inr ⟨by rfl,rfl⟩) hHeld ?_
    try simp only [zz]
    refine tk 35 (v:=undef) rfl (Or.inr ⟨by rfl,rfl⟩) hHeld ?_
    try simp only [zz]
    refine tq 36 (v:=.bool true) rfl hHeld ?_
    try simp only [zz]
    refine wpAnyH_done (by kernel_rfl) ?_ _
    clear hHeld
    have HE:Hid (ROK=false∧Below w.heap.size w d0):=⟨HNKh.out HFALSE.out,hbW.trans ((nV.trans (D0.mono nV.size)).mono hbW.size)⟩
    go_wp2
    go_ret
    exact ⟨ret_bool HE.out.1.symm,HE.out.2⟩
   | true=>
    obtain ⟨ab,hab⟩:∃ ab,Hid (t.aborts=ab):=⟨_,rfl⟩
    rw [hab.out] at HS
    cases ab with
    | true=>
     have HFALSE:Hid (txAt e.v k=false):=by rw [Hid,HTKh.out,hA.out,hab.out];rfl
     refine wp_region_held_drew (S:=fun u=>(u.cell? ⟨wr.heap.size,0,none⟩=some (.int .i64 t.tx)∧u.cell? ⟨wr.heap.size,1,none⟩=some (.int .i64 t.last)∧u.cell? ⟨wr.heap.size,2,none⟩=some (.bool true)∧u.cell? ⟨w.heap.size,142,none⟩=some (.int .i64 e.next)∧u.rangeAt w.heap.size 138 e.log.cells∧u.cell? ⟨w.heap.size,140,none⟩=some (.slice (some ⟨b,off,none⟩) e.txs.length e.cT))) (by kernel_rfl) (HS.out _ D0) (fun hHeld=>?_)
     generalize V.drew=d0 at*
     refine tq 0 (v:=.pointer (some ⟨wr.heap.size,0,none⟩)) rfl hHeld ?_
     try simp only [zz]
     refine tk 1 (v:=.int .i64 t.tx) rfl (Or.inl ⟨by rfl,?_⟩) hHeld ?_
     ·intro w' hSw
      have hx:=hSw.1
      go_simp<;>rfl
     try simp only [zz]
     refine tq 2 (v:=.pointer (some ⟨w.heap.size,142,none⟩)) rfl hHeld ?_
     try simp only [zz]
     refine tk 3 (v:=.int .i64 e.next) rfl (Or.inl ⟨by rfl,?_⟩) hHeld ?_
     ·intro w' hSw
      have hx:=hSw.2.2.2.1
      go_simp<;>rfl
     try simp only [zz]
     refine tq 4 (v:=.int .i64 (e.next-1)) rfl hHeld ?_
     try simp only [zz]
     refine wpAnyH_ready (rs:=[5]) (by kernel_rfl) (by simp) ?_
     refine AllReadyH.cons rfl (fun K hK=>?_) AllReadyH.nil
     go_simp
     refine (l1In_any _ _ _ _).mono ?_
     rintro r d0 ⟨rfl,rfl⟩
     rw [hA.out]
     refine hK.out _ _ (hHeld) (fun hHeld=>?_)
     clear hK K 
     try simp only [zz]
     refine tq 6 (v:=.bool false) rfl hHeld ?_
     try simp only [zz]
     refine tq 7 (v:=.bool false) rfl hHeld ?_
     try simp only [zz]
     refine tq 8 (v:=.pointer (some ⟨wr.heap.size,2,none⟩)) rfl hHeld ?_
     try simp only [zz]
     refine tk 9 (v:=.bool true) rfl (Or.inl ⟨by rfl,?_⟩) hHeld ?_
     ·intro w' hSw
      have hx:=hSw.2.2.1
      go_simp<;>rfl
     try simp only [zz]
     refine tq 10 (v:=.bool true) rfl hHeld ?_
     try simp only [zz]
     refine tq 11 (v:=.bool true) rfl hHeld ?_
     try simp only [zz]
     refine tk 12 (v:=undef) rfl (Or.inr ⟨by rfl,rfl⟩) hHeld ?_
     try simp only [zz]
     refine tk 13 (v:=undef) rfl (Or.inr ⟨by rfl,rfl⟩) hHeld ?_
     try simp only [zz]
     refine tk 14 (v:=undef) rfl (Or.inr ⟨by rfl,rfl⟩) hHeld ?_
     try simp only [zz]
     refine tk 15 (v:=undef) rfl (Or.inr ⟨by rfl,rfl⟩) hHeld ?_
     try simp only [zz]
     refine tk 16 (v:=undef) rfl (Or.inr ⟨by rfl,rfl⟩) hHeld ?_
     try simp only [zz]
     refine tk 17 (v:=undef) rfl (Or.inr ⟨by rfl,rfl⟩) hHeld ?_
     try simp only [zz]
     refine tk 18 (v:=undef) rfl (Or.inr ⟨by rfl,rfl⟩) hHeld ?_
     try simp only [zz]
     refine tk 19 (v:=undef) rfl (Or.inr ⟨by rfl,rfl⟩) hHeld ?_
     try simp only [zz]
     refine tq 20 (v:=.bool true) rfl hHeld ?_
     try simp only [zz]
     refine tq 21 (v:=.bool true) rfl hHeld ?_
     try simp only [zz]
     refine tk 22 (v:=undef) rfl (Or.inr ⟨by rfl,rfl⟩) hHeld ?_
     try simp only [zz]
     refine tk 23 (v:=undef) rfl (Or.inr ⟨by rfl,rfl⟩) hHeld ?_
     try simp only [zz]
     refine tk 24 (v:=undef) rfl (Or.inr ⟨by rfl,rfl⟩) hHeld ?_
     try simp only [zz]
     refine tk 25 (v:=undef) rfl (Or.inr ⟨by rfl,rfl⟩) hHeld ?_
     try simp only [zz]
     refine tk 26 (v:=undef) rfl (Or.inr ⟨by rfl,rfl⟩) hHeld ?_
     try simp only [zz]
     refine tk 27 (v:=undef) rfl (Or.inr ⟨by rfl,rfl⟩) hHeld ?_
     try simp only [zz]
     refine tk 28 (v:=undef) rfl (Or.inr ⟨by rfl,rfl⟩) hHeld ?_
     try simp only [zz]
     refine tk 29 (v:=undef) rfl (Or.inr ⟨by rfl,rfl⟩) hHeld ?_
     try simp only [zz]
     refine tk 30 (v:=undef) rfl (Or.inr ⟨by rfl,rfl⟩) hHeld ?_
     try simp only [zz]
     refine tk 31 (v:=undef) rfl (Or.inr ⟨by rfl,rfl⟩) hHeld ?_
     try simp only [zz]
     refine tk 32 (v:=undef) rfl (Or.inr ⟨by rfl,rfl⟩) hHeld ?_
     try simp only [zz]
     refine tk 33 (v:=undef) rfl (Or.inr ⟨by rfl,rfl⟩) hHeld ?_
     try simp only [zz]
     refine tk 34 (v:=undef) rfl (Or.inr ⟨by rfl,rfl⟩) hHeld ?_
     try simp only [zz]
     refine tk 35 (v:=undef) rfl (Or.inr ⟨by rfl,rfl⟩) hHeld ?_
     try simp only [zz]
     refine tq 36 (v:=.bool true) rfl hHeld ?_
     try simp only [zz]
     refine wpAnyH_done (by kernel_rfl) ?_ _
     clear hHeld
     have HE:Hid (ROK=false∧Below w.heap.size w d0):=⟨HNKh.out HFALSE.out,hbW.trans ((nV.trans (D0.mono nV.size)).mono hbW.size)⟩
     go_wp2
     go_ret
     exact ⟨ret_bool HE.out.1.symm,HE.out.2⟩
    | false=>
     by_cases hC:t.last=lastOf (e.log.recs.map RecA.v) t.tx
     ·have HCC:Hid (_=_):=hC
      have hCb:(t.last != lastOf (e.log.recs.map RecA.v) t.tx)=false:=by simp [hC]
      clear hC
      cases k with
      | zero=>
       have HTRUE:Hid (∀ j,j<0+1→txAt e.v j=true):=fun j hj=>by
        obtain rfl:j=0:=by omega
        rw [HTKh.out,hA.out,hab.out,decide_eq_true HCC.out];rfl
       have hk0:¬ (0:Int)<((0:Nat):Int):=by omega
       refine wp_region_held_drew (S:=fun u=>(u.cell? ⟨wr.heap.size,0,none⟩=some (.int .i64 t.tx)∧u.cell? ⟨wr.heap.size,1,none⟩=some (.int .i64 t.last)∧u.cell? ⟨wr.heap.size,2,none⟩=some (.bool false)∧u.cell? ⟨w.heap.size,142,none⟩=some (.int .i64 e.next)∧u.rangeAt w.heap.size 138 e.log.cells∧u.cell? ⟨w.heap.size,140,none⟩=some (.slice (some ⟨b,off,none⟩) e.txs.length e.cT))) (by kernel_rfl) (HS.out _ D0) (fun hHeld=>?_)
       generalize V.drew=d0 at*
       refine tq 0 (v:=.pointer (some ⟨wr.heap.size,0,none⟩)) rfl hHeld ?_
       try simp only [zz]
       refine tk 1 (v:=.int .i64 t.tx) rfl (Or.inl ⟨by rfl,?_⟩) hHeld ?_
       ·intro w' hSw
        have hx:=hSw.1
        go_simp<;>rfl
       try simp only [zz]
       refine tq 2 (v:=.pointer (some ⟨w.heap.size,142,none⟩)) rfl hHeld ?_
       try simp only [zz]
       refine tk 3 (v:=.int .i64 e.next) rfl (Or.inl ⟨by rfl,?_⟩) hHeld ?_
       ·intro w' hSw
        have hx:=hSw.2.2.2.1
        go_simp<;>rfl
       try simp only [zz]
       refine tq 4 (v:=.int .i64 (e.next-1)) rfl hHeld ?_
       try simp only [zz]
       refine wpAnyH_ready (rs:=[5]) (by kernel_rfl) (by simp) ?_
       refine AllReadyH.cons rfl (fun K hK=>?_) AllReadyH.nil
       go_simp
       refine (l1In_any _ _ _ _).mono ?_
       rintro r d0 ⟨rfl,rfl⟩
       rw [hA.out]
       refine hK.out _ _ (hHeld) (fun hHeld=>?_)
       clear hK K 
       try simp only [zz]
       refine tq 6 (v:=.bool false) rfl hHeld ?_
       try simp only [zz]
       refine tq 7 (v:=.bool false) rfl hHeld ?_
       try simp only [zz]
       refine tq 8 (v:=.pointer (some ⟨wr.heap.size,2,none⟩)) rfl hHeld ?_
       try simp only [zz]
       refine tk 9 (v:=.bool false) rfl (Or.inl ⟨by rfl,?_⟩) hHeld ?_
       ·intro w' hSw
        have hx:=hSw.2.2.1
        go_simp<;>rfl
       try simp only [zz]
       refine tq 10 (v:=.bool false) rfl hHeld ?_
       try simp only [zz]
       refine tq 11 (v:=.bool false) rfl hHeld ?_
       try simp only [zz]
       refine tq 12 (v:=.pointer (some ⟨wr.heap.size,1,none⟩)) rfl hHeld ?_
       try simp only [zz]
       refine tk 13 (v:=.int .i64 t.last) rfl (Or.inl ⟨by rfl,?_⟩) hHeld ?_
       ·intro w' hSw
        have hx:=hSw.2.1
        go_simp<;>rfl
       try simp only [zz]
       refine tq 14 (v:=.pointer (some ⟨w.heap.size,138,none⟩)) rfl hHeld ?_
       try simp only [zz]
       refine tk 15 rfl (yieldsIf_load_mid (by rfl) _ _ rfl _ _ rfl (e.log.cells) _ (fun _ h=>h.2.2.2.2.1) Tryz.underlying54 rfl (log_info _)) hHeld ?_
       try simp only [zz]
       refine tq 16 (v:=.pointer (some ⟨wr.heap.size,0,none⟩)) rfl hHeld ?_
       try simp only [zz]
       refine tk 17 (v:=.int .i64 t.tx) rfl (Or.inl ⟨by rfl,?_⟩) hHeld ?_
       ·intro w' hSw
        have hx:=hSw.1
        go_simp<;>rfl
       try simp only [zz]
       refine wpAnyH_ready (rs:=[18]) (by kernel_rfl) (by simp) ?_
       refine AllReadyH.cons rfl (fun K hK=>?_) AllReadyH.nil
       go_simp
       refine (CL _ D0).mono ?_
       rintro r d1 ⟨rfl,hb1⟩
       have D1:Below V.heap.size V d1:=D0.trans (hb1.mono D0.size)
       refine hK.out _ _ (HS.out _ D1) (fun hHeld=>?_)
       clear hK K hb1
       try simp only [zz]
       refine tq 19 (v:=.bool false) rfl hHeld ?_
       try simp only [zz]
       refine tq 20 (v:=.bool false) rfl hHeld ?_
       try simp only [zz]
       refine tq 21 (v:=.bool false) rfl hHeld ?_
       try simp only [zz]
       refine tq 22 (v:=.int .i64 ((0:Nat):Int)) rfl hHeld ?_
       try simp only [zz]
       refine tq 23 (v:=.bool false) rfl hHeld ?_
       try simp only [zz]
       refine tq 24 (v:=.bool false) rfl hHeld ?_
       try simp only [zz]
       refine tk 25 (v:=undef) rfl (Or.inr ⟨by rfl,rfl⟩) hHeld ?_
       try simp only [zz]
       refine tk 26 (v:=undef) rfl (Or.inr ⟨by rfl,rfl⟩) hHeld ?_
       try simp only [zz]
       refine tk 27 (v:=undef) rfl (Or.inr ⟨by rfl,rfl⟩) hHeld ?_
       try simp only [zz]
       refine tk 28 (v:=undef) rfl (Or.inr ⟨by rfl,rfl⟩) hHeld ?_
       try simp only [zz]
       refine tk 29 (v:=undef) rfl (Or.inr ⟨by rfl,rfl⟩) hHeld ?_
       try simp only [zz]
       refine tk 30 (v:=undef) rfl (Or.inr ⟨by rfl,rfl⟩) hHeld ?_
       try simp only [zz]
       refine tk 31 (v:=undef) rfl (Or.inr ⟨by rfl,rfl⟩) hHeld ?_
       try simp only [zz]
       refine tk 32 (v:=undef) rfl (Or.inr ⟨by rfl,rfl⟩) hHeld ?_
       try simp only [zz]
       refine tk 33 (v:=undef) rfl (Or.inr ⟨by rfl,rfl⟩) hHeld ?_
       try simp only [zz]
       refine tk 34 (v:=undef) rfl (Or.inr ⟨by rfl,rfl⟩) hHeld ?_
       try simp only [zz]
       refine tq 35 (v:=.bool false) rfl hHeld ?_
       try simp only [zz]
       refine tq 36 (v:=.bool false) rfl hHeld ?_
       try simp only [zz]
       refine wpAnyH_done (by kernel_rfl) ?_ _
       clear hHeld
       have HN:Hid (Below W.heap.size W d1):=nV.trans (D1.mono nV.size)
       go_wp2_with fail
       go_roundw
       case rel=>exact ⟨0+1,by omega,by go_num,HTRUE,HN.out⟩
       case measure=>simp [intOf];omega
      | succ j=>
       have HPJ:Hid (∀ u,Below V.heap.size V u→u.cell? ⟨b,off+j*3,none⟩=some (.int .i64 (e.txs.getD j zeroL).tx)):=fun u hu=>HPW.out j rfl u hu
       rw [Nat.add_sub_cancel] at HTKh
       generalize e.txs.getD j zeroL=tj at HTKh HPJ
       clear HPW
       have hwj2:IntKind.i64.wrap (j:Int)=(j:Int):=by rw [IntKind.wrap_i64];omega
       have hk1:(0:Int)<((j+1:Nat):Int):=by omega
       have hj0:(0:Int)≤(j:Int):=by omega
       have hjl:(j:Int)<(e.txs.length:Int):=by omega
       have hwj:IntKind.i64.wrap (((j+1:Nat):Int)-1)=(j:Int):=by rw [IntKind.wrap_i64];omega
       by_cases hD:tj.tx<t.tx
       ·have hDD:¬ t.tx≤tj.tx:=by omega
        have HTRUE:Hid (∀ i,i<j+1+1→txAt e.v i=true):=fun i hi=>by
         by_cases q:i=j+1
         ·rw [q,HTKh.out,hA.out,hab.out,decide_eq_true HCC.out,decide_eq_true hD];simp
         ·exact hall.out i (by omega)
        clear hD
        refine wp_region_held_drew (S:=fun u=>(u.cell? ⟨wr.heap.size,0,none⟩=some (.int .i64 t.tx)∧u.cell? ⟨wr.heap.size,1,none⟩=some (.int .i64 t.last)∧u.cell? ⟨wr.heap.size,2,none⟩=some (.bool false)∧u.cell? ⟨w.heap.size,142,none⟩=some (.int .i64 e.next)∧u.rangeAt w.heap.size 138 e.log.cells∧u.cell? ⟨w.heap.size,140,none⟩=some (.slice (some ⟨b,off,none⟩) e.txs.length e.cT))∧u.cell? ⟨b,off+j*3,none⟩=some (.int .i64 tj.tx)) (by kernel_rfl) (⟨HS.out _ D0,HPJ.out _ D0⟩) (fun hHeld=>?_)
        generalize V.drew=d0 at*
        refine tq 0 (v:=.pointer (some ⟨wr.heap.size,0,none⟩)) rfl hHeld ?_
        try simp only [zz]
        refine tk 1 (v:=.int .i64 t.tx) rfl (Or.inl ⟨by rfl,?_⟩) hHeld ?_
        ·intro w' hSw
         have hx:=hSw.1.1
         go_simp<;>rfl
        try simp only [zz]
        refine tq 2 (v:=.pointer (some ⟨w.heap.size,142,none⟩)) rfl hHeld ?_
        try simp only [zz]
        refine tk 3 (v:=.int .i64 e.next) rfl (Or.inl ⟨by rfl,?_⟩) hHeld ?_
        ·intro w' hSw
         have hx:=hSw.1.2.2.2.1
         go_simp<;>rfl
        try simp only [zz]
        refine tq 4 (v:=.int .i64 (e.next-1)) rfl hHeld ?_
        try simp only [zz]
        refine wpAnyH_ready (rs:=[5]) (by kernel_rfl) (by simp) ?_
        refine AllReadyH.cons rfl (fun K hK=>?_) AllReadyH.nil
        go_simp
        refine (l1In_any _ _ _ _).mono ?_
        rintro r d0 ⟨rfl,rfl⟩
        rw [hA.out]
        refine hK.out _ _ (hHeld) (fun hHeld=>?_)
        clear hK K 
        try simp only [zz]
        refine tq 6 (v:=.bool false) rfl hHeld ?_
        try simp only [zz]
        refine tq 7 (v:=.bool false) rfl hHeld ?_
        try simp only [zz]
        refine tq 8 (v:=.pointer (some ⟨wr.heap.size,2,none⟩)) rfl hHeld ?_
        try simp only [zz]
        refine tk 9 (v:=.bool false) rfl (Or.inl ⟨by rfl,?_⟩) hHeld ?_
        ·intro w' hSw
         have hx:=hSw.1.2.2.1
         go_simp<;>rfl
        try simp only [zz]
        refine tq 10 (v:=.bool false) rfl hHeld ?_
        try simp only [zz]
        refine tq 11 (v:=.bool false) rfl hHeld ?_
        try simp only [zz]
        refine tq 12 (v:=.pointer (some ⟨wr.heap.size,1,none⟩)) rfl hHeld ?_
        try simp only [zz]
        refine tk 13 (v:=.int .i64 t.last) rfl (Or.inl ⟨by rfl,?_⟩) hHeld ?_
        ·intro w' hSw
         have hx:=hSw.1.2.1
         go_simp<;>rfl
        try simp only [zz]
        refine tq 14 (v:=.pointer (some ⟨w.heap.size,138,none⟩)) rfl hHeld ?_
        try simp only [zz]
        refine tk 15 rfl (yieldsIf_load_mid (by rfl) _ _ rfl _ _ rfl (e.log.cells) _ (fun _ h=>h.1.2.2.2.2.1) Tryz.underlying54 rfl (log_info _)) hHeld ?_
        try simp only [zz]
        refine tq 16 (v:=.pointer (some ⟨wr.heap.size,0,none⟩)) rfl hHeld ?_
        try simp only [zz]
        refine tk 17 (v:=.int .i64 t.tx) rfl (Or.inl ⟨by rfl,?_⟩) hHeld ?_
        ·intro w' hSw
         have hx:=hSw.1.1
         go_simp<;>rfl
        try simp only [zz]
        refine wpAnyH_ready (rs:=[18]) (by kernel_rfl) (by simp) ?_
        refine AllReadyH.cons rfl (fun K hK=>?_) AllReadyH.nil
        go_simp
        refine (CL _ D0).mono ?_
        rintro r d1 ⟨rfl,hb1⟩
        have D1:Below V.heap.size V d1:=D0.trans (hb1.mono D0.size)
        refine hK.out _ _ (⟨HS.out _ D1,HPJ.out _ D1⟩) (fun hHeld=>?_)
        clear hK K hb1
        try simp only [zz]
        refine tq 19 (v:=.bool false) rfl hHeld ?_
        try simp only [zz]
        refine tq 20 (v:=.bool false) rfl hHeld ?_
        try simp only [zz]
        refine tq 21 (v:=.bool false) rfl hHeld ?_
        try simp only [zz]
        refine tq 22 (v:=.int .i64 ((j+1:Nat):Int)) rfl hHeld ?_
        try simp only [zz]
        refine tq 23 (v:=.bool true) rfl hHeld ?_
        try simp only [zz]
        refine tq 24 (v:=.bool true) rfl hHeld ?_
        try simp only [zz]
        refine tq 25 (v:=.pointer (some ⟨w.heap.size,140,none⟩)) rfl hHeld ?_
        try simp only [zz]
        refine tk 26 (v:=.slice (some ⟨b,off,none⟩) e.txs.length e.cT) rfl (Or.inl ⟨by rfl,?_⟩) hHeld ?_
        ·intro w' hSw
         have hx:=hSw.1.2.2.2.2.2
         go_simp<;>rfl
        try simp only [zz]
        refine tq 27 (v:=.int .i64 ((j+1:Nat):Int)) rfl hHeld ?_
        try simp only [zz]
        refine tq 28 (v:=.int .i64 (j:Int)) rfl hHeld ?_
        try simp only [zz]
        refine tq 29 (v:=.pointer (some ⟨b,off+j*3,none⟩)) rfl hHeld ?_
        try simp only [zz]
        refine tq 30 (v:=.pointer (some ⟨b,off+j*3,none⟩)) rfl hHeld ?_
        try simp only [zz]
        refine tk 31 (v:=.int .i64 tj.tx) rfl (Or.inl ⟨by rfl,?_⟩) hHeld ?_
        ·intro w' hSw
         have hx:=hSw.2
         go_simp<;>rfl
        try simp only [zz]
        refine tq 32 (v:=.pointer (some ⟨wr.heap.size,0,none⟩)) rfl hHeld ?_
        try simp only [zz]
        refine tk 33 (v:=.int .i64 t.tx) rfl (Or.inl ⟨by rfl,?_⟩) hHeld ?_
        ·intro w' hSw
         have hx:=hSw.1.1
         go_simp<;>rfl
        try simp only [zz]
        refine tq 34 (v:=.bool false) rfl hHeld ?_
        try simp only [zz]
        refine tq 35 (v:=.bool false) rfl hHeld ?_
        try simp only [zz]
        refine tq 36 (v:=.bool false) rfl hHeld ?_
        try simp only [zz]
        refine wpAnyH_done (by kernel_rfl) ?_ _
        clear hHeld
        have HN:Hid (Below W.heap.size W d1):=nV.trans (D1.mono nV.size)
        go_wp2_with fail
        go_roundw
        case rel=>exact ⟨j+1+1,by omega,by go_num,HTRUE,HN.out⟩
        case measure=>simp [intOf];omega
       ·have hDD:t.tx≤tj.tx:=by omega
        have HFALSE:Hid (txAt e.v (j+1)=false):=by rw [Hid,HTKh.out,hA.out,hab.out,decide_eq_true HCC.out,decide_eq_false hD];simp
        clear hD
        refine wp_region_held_drew (S:=fun u=>(u.cell? ⟨wr.heap.size,0,none⟩=some (.int .i64 t.tx)∧u.cell? ⟨wr.heap.size,1,none⟩=some (.int .i64 t.last)∧u.cell? ⟨wr.heap.size,2,none⟩=some (.bool false)∧u.cell? ⟨w.heap.size,142,none⟩=some (.int .i64 e.next)∧u.rangeAt w.heap.size 138 e.log.cells∧u.cell? ⟨w.heap.size,140,none⟩=some (.slice (some ⟨b,off,none⟩) e.txs.length e.cT))∧u.cell? ⟨b,off+j*3,none⟩=some (.int .i64 tj.tx)) (by kernel_rfl) (⟨HS.out _ D0,HPJ.out _ D0⟩) (fun hHeld=>?_)
        generalize V.drew=d0 at*
        refine tq 0 (v:=.pointer (some ⟨wr.heap.size,0,none⟩)) rfl hHeld ?_
        try simp only [zz]
        refine tk 1 (v:=.int .i64 t.tx) rfl (Or.inl ⟨by rfl,?_⟩) hHeld ?_
        ·intro w' hSw
         have hx:=hSw.1.1
         go_simp<;>rfl
        try simp only [zz]
        refine tq 2 (v:=.pointer (some ⟨w.heap.size,142,none⟩)) rfl hHeld ?_
        try simp only [zz]
        refine tk 3 (v:=.int .i64 e.next) rfl (Or.inl ⟨by rfl,?_⟩) hHeld ?_
        ·intro w' hSw
         have hx:=hSw.1.2.2.2.1
         go_simp<;>rfl
        try simp only [zz]
        refine tq 4 (v:=.int .i64 (e.next-1)) rfl hHeld ?_
        try simp only [zz]
        refine wpAnyH_ready (rs:=[5]) (by kernel_rfl) (by simp) ?_
        refine AllReadyH.cons rfl (fun K hK=>?_) AllReadyH.nil
        go_simp
        refine (l1In_any _ _ _ _).mono ?_
        rintro r d0 ⟨rfl,rfl⟩
        rw [hA.out]
        refine hK.out _ _ (hHeld) (fun hHeld=>?_)
        clear hK K 
        try simp only [zz]
        refine tq 6 (v:=.bool false) rfl hHeld ?_
        try simp only [zz]
        refine tq 7 (v:=.bool false) rfl hHeld ?_
        try simp only [zz]
        refine tq 8 (v:=.pointer (some ⟨wr.heap.size,2,none⟩)) rfl hHeld ?_
        try simp only [zz]
        refine tk 9 (v:=.bool false) rfl (Or.inl ⟨by rfl,?_⟩) hHeld ?_
        ·intro w' hSw
         have hx:=hSw.1.2.2.1
         go_simp<;>rfl
        try simp only [zz]
        refine tq 10 (v:=.bool false) rfl hHeld ?_
        try simp only [zz]
        refine tq 11 (v:=.bool false) rfl hHeld ?_
        try simp only [zz]
        refine tq 12 (v:=.pointer (some ⟨wr.heap.size,1,none⟩)) rfl hHeld ?_
        try simp only [zz]
        refine tk 13 (v:=.int .i64 t.last) rfl (Or.inl ⟨by rfl,?_⟩) hHeld ?_
        ·intro w' hSw
         have hx:=hSw.1.2.1
         go_simp<;>rfl
        try simp only [zz]
        refine tq 14 (v:=.pointer (some ⟨w.heap.size,138,none⟩)) rfl hHeld ?_
        try simp only [zz]
        refine tk 15 rfl (yieldsIf_load_mid (by rfl) _ _ rfl _ _ rfl (e.log.cells) _ (fun _ h=>h.1.2.2.2.2.1) Tryz.underlying54 rfl (log_info _)) hHeld ?_
        try simp only [zz]
        refine tq 16 (v:=.pointer (some ⟨wr.heap.size,0,none⟩)) rfl hHeld ?_
        try simp only [zz]
        refine tk 17 (v:=.int .i64 t.tx) rfl (Or.inl ⟨by rfl,?_⟩) hHeld ?_
        ·intro w' hSw
         have hx:=hSw.1.1
         go_simp<;>rfl
        try simp only [zz]
        refine wpAnyH_ready (rs:=[18]) (by kernel_rfl) (by simp) ?_
        refine AllReadyH.cons rfl (fun K hK=>?_) AllReadyH.nil
        go_simp
        refine (CL _ D0).mono ?_
        rintro r d1 ⟨rfl,hb1⟩
        have D1:Below V.heap.size V d1:=D0.trans (hb1.mono D0.size)
        refine hK.out _ _ (⟨HS.out _ D1,HPJ.out _ D1⟩) (fun hHeld=>?_)
        clear hK K hb1
        try simp only [zz]
        refine tq 19 (v:=.bool false) rfl hHeld ?_
        try simp only [zz]
        refine tq 20 (v:=.bool false) rfl hHeld ?_
        try simp only [zz]
        refine tq 21 (v:=.bool false) rfl hHeld ?_
        try simp only [zz]
        refine tq 22 (v:=.int .i64 ((j+1:Nat):Int)) rfl hHeld ?_
        try simp only [zz]
        refine tq 23 (v:=.bool true) rfl hHeld ?_
        try simp only [zz]
        refine tq 24 (v:=.bool true) rfl hHeld ?_
        try simp only [zz]
        refine tq 25 (v:=.pointer (some ⟨w.heap.size,140,none⟩)) rfl hHeld ?_
        try simp only [zz]
        refine tk 26 (v:=.slice (some ⟨b,off,none⟩) e.txs.length e.cT) rfl (Or.inl ⟨by rfl,?_⟩) hHeld ?_
        ·intro w' hSw
         have hx:=hSw.1.2.2.2.2.2
         go_simp<;>rfl
        try simp only [zz]
        refine tq 27 (v:=.int .i64 ((j+1:Nat):Int)) rfl hHeld ?_
        try simp only [zz]
        refine tq 28 (v:=.int .i64 (j:Int)) rfl hHeld ?_
        try simp only [zz]
        refine tq 29 (v:=.pointer (some ⟨b,off+j*3,none⟩)) rfl hHeld ?_
        try simp only [zz]
        refine tq 30 (v:=.pointer (some ⟨b,off+j*3,none⟩)) rfl hHeld ?_
        try simp only [zz]
        refine tk 31 (v:=.int .i64 tj.tx) rfl (Or.inl ⟨by rfl,?_⟩) hHeld ?_
        ·intro w' hSw
         have hx:=hSw.2
         go_simp<;>rfl
        try simp only [zz]
        refine tq 32 (v:=.pointer (some ⟨wr.heap.size,0,none⟩)) rfl hHeld ?_
        try simp only [zz]
        refine tk 33 (v:=.int .i64 t.tx) rfl (Or.inl ⟨by rfl,?_⟩) hHeld ?_
        ·intro w' hSw
         have hx:=hSw.1.1
         go_simp<;>rfl
        try simp only [zz]
        refine tq 34 (v:=.bool true) rfl hHeld ?_
        try simp only [zz]
        refine tq 35 (v:=.bool true) rfl hHeld ?_
        try simp only [zz]
        refine tq 36 (v:=.bool true) rfl hHeld ?_
        try simp only [zz]
        refine wpAnyH_done (by kernel_rfl) ?_ _
        clear hHeld
        have HE:Hid (ROK=false∧Below w.heap.size w d1):=⟨HNKh.out HFALSE.out,hbW.trans ((nV.trans (D1.mono nV.size)).mono hbW.size)⟩
        go_wp2
        go_ret
        exact ⟨ret_bool HE.out.1.symm,HE.out.2⟩
     ·have HFALSE:Hid (txAt e.v k=false):=by rw [Hid,HTKh.out,hA.out,hab.out,decide_eq_false hC];rfl
      have hCb:(t.last != lastOf (e.log.recs.map RecA.v) t.tx)=true:=by simpa using hC
      clear hC
      refine wp_region_held_drew (S:=fun u=>(u.cell? ⟨wr.heap.size,0,none⟩=some (.int .i64 t.tx)∧u.cell? ⟨wr.heap.size,1,none⟩=some (.int .i64 t.last)∧u.cell? ⟨wr.heap.size,2,none⟩=some (.bool false)∧u.cell? ⟨w.heap.size,142,none⟩=some (.int .i64 e.next)∧u.rangeAt w.heap.size 138 e.log.cells∧u.cell? ⟨w.heap.size,140,none⟩=some (.slice (some ⟨b,off,none⟩) e.txs.length e.cT))) (by kernel_rfl) (HS.out _ D0) (fun hHeld=>?_)
      generalize V.drew=d0 at*
      refine tq 0 (v:=.pointer (some ⟨wr.heap.size,0,none⟩)) rfl hHeld ?_
      try simp only [zz]
      refine tk 1 (v:=.int .i64 t.tx) rfl (Or.inl ⟨by rfl,?_⟩) hHeld ?_
      ·intro w' hSw
       have hx:=hSw.1
       go_simp<;>rfl
      try simp only [zz]
      refine tq 2 (v:=.pointer (some ⟨w.heap.size,142,none⟩)) rfl hHeld ?_
      try simp only [zz]
      refine tk 3 (v:=.int .i64 e.next) rfl (Or.inl ⟨by rfl,?_⟩) hHeld ?_
      ·intro w' hSw
       have hx:=hSw.2.2.2.1
       go_simp<;>rfl
      try simp only [zz]
      refine tq 4 (v:=.int .i64 (e.next-1)) rfl hHeld ?_
      try simp only [zz]
      refine wpAnyH_ready (rs:=[5]) (by kernel_rfl) (by simp) ?_
      refine AllReadyH.cons rfl (fun K hK=>?_) AllReadyH.nil
      go_simp
      refine (l1In_any _ _ _ _).mono ?_
      rintro r d0 ⟨rfl,rfl⟩
      rw [hA.out]
      refine hK.out _ _ (hHeld) (fun hHeld=>?_)
      clear hK K 
      try simp only [zz]
      refine tq 6 (v:=.bool false) rfl hHeld ?_
      try simp only [zz]
      refine tq 7 (v:=.bool false) rfl hHeld ?_
      try simp only [zz]
      refine tq 8 (v:=.pointer (some ⟨wr.heap.size,2,none⟩)) rfl hHeld ?_
      try simp only [zz]
      refine tk 9 (v:=.bool false) rfl (Or.inl ⟨by rfl,?_⟩) hHeld ?_
      ·intro w' hSw
       have hx:=hSw.2.2.1
       go_simp<;>rfl
      try simp only [zz]
      refine tq 10 (v:=.bool false) rfl hHeld ?_
      try simp only [zz]
      refine tq 11 (v:=.bool false) rfl hHeld ?_
      try simp only [zz]
      refine tq 12 (v:=.pointer (some ⟨wr.heap.size,1,none⟩)) rfl hHeld ?_
      try simp only [zz]
      refine tk 13 (v:=.int .i64 t.last) rfl (Or.inl ⟨by rfl,?_⟩) hHeld ?_
      ·intro w' hSw
       have hx:=hSw.2.1
       go_simp<;>rfl
      try simp only [zz]
      refine tq 14 (v:=.pointer (some ⟨w.heap.size,138,none⟩)) rfl hHeld ?_
      try simp only [zz]
      refine tk 15 rfl (yieldsIf_load_mid (by rfl) _ _ rfl _ _ rfl (e.log.cells) _ (fun _ h=>h.2.2.2.2.1) Tryz.underlying54 rfl (log_info _)) hHeld ?_
      try simp only [zz]
      refine tq 16 (v:=.pointer (some ⟨wr.heap.size,0,none⟩)) rfl hHeld ?_
      try simp only [zz]
      refine tk 17 (v:=.int .i64 t.tx) rfl (Or.inl ⟨by rfl,?_⟩) hHeld ?_
      ·intro w' hSw
       have hx:=hSw.1
       go_simp<;>rfl
      try simp only [zz]
      refine wpAnyH_ready (rs:=[18]) (by kernel_rfl) (by simp) ?_
      refine AllReadyH.cons rfl (fun K hK=>?_) AllReadyH.nil
      go_simp
      refine (CL _ D0).mono ?_
      rintro r d1 ⟨rfl,hb1⟩
      have D1:Below V.heap.size V d1:=D0.trans (hb1.mono D0.size)
      refine hK.out _ _ (HS.out _ D1) (fun hHeld=>?_)
      clear hK K hb1
      try simp only [zz]
      refine tq 19 (v:=.bool true) rfl hHeld ?_
      try simp only [zz]
      refine tq 20 (v:=.bool true) rfl hHeld ?_
      try simp only [zz]
      refine tq 21 (v:=.bool true) rfl hHeld ?_
      try simp only [zz]
      refine tk 22 (v:=undef) rfl (Or.inr ⟨by rfl,rfl⟩) hHeld ?_
      try simp only [zz]
      refine tk 23 (v:=undef) rfl (Or.inr ⟨by rfl,rfl⟩) hHeld ?_
      try simp only [zz]
      refine tk 24 (v:=undef) rfl (Or.inr ⟨by rfl,rfl⟩) hHeld ?_
      try simp only [zz]
      refine tk 25 (v:=undef) rfl (Or.inr ⟨by rfl,rfl⟩) hHeld ?_
      try simp only [zz]
      refine tk 26 (v:=undef) rfl (Or.inr ⟨by rfl,rfl⟩) hHeld ?_
      try simp only [zz]
      refine tk 27 (v:=undef) rfl (Or.inr ⟨by rfl,rfl⟩) hHeld ?_
      try simp only [zz]
      refine tk 28 (v:=undef) rfl (Or.inr ⟨by rfl,rfl⟩) hHeld ?_
      try simp only [zz]
      refine tk 29 (v:=undef) rfl (Or.inr ⟨by rfl,rfl⟩) hHeld ?_
      try simp only [zz]
      refine tk 30 (v:=undef) rfl (Or.inr ⟨by rfl,rfl⟩) hHeld ?_
      try simp only [zz]
      refine tk 31 (v:=undef) rfl (Or.inr ⟨by rfl,rfl⟩) hHeld ?_
      try simp only [zz]
      refine tk 32 (v:=undef) rfl (Or.inr ⟨by rfl,rfl⟩) hHeld ?_
      try simp only [zz]
      refine tk 33 (v:=undef) rfl (Or.inr ⟨by rfl,rfl⟩) hHeld ?_
      try simp only [zz]
      refine tk 34 (v:=undef) rfl (Or.inr ⟨by rfl,rfl⟩) hHeld ?_
      try simp only [zz]
      refine tk 35 (v:=undef) rfl (Or.inr ⟨by rfl,rfl⟩) hHeld ?_
      try simp only [zz]
      refine tq 36 (v:=.bool true) rfl hHeld ?_
      try simp only [zz]
      refine wpAnyH_done (by kernel_rfl) ?_ _
      clear hHeld
      have HE:Hid (ROK=false∧Below w.heap.size w d1):=⟨HNKh.out HFALSE.out,hbW.trans ((nV.trans (D1.mono nV.size)).mono hbW.size)⟩
      go_wp2
      go_ret
      exact ⟨ret_bool HE.out.1.symm,HE.out.2⟩
  ·have e1:k=e.txs.length:=by omega
   have HT1:Hid (∀ j,j<e.txs.length→txAt e.v j=true):=by rw [e1] at hall;exact hall
   obtain ⟨_,_,_,p3,p4,_,_⟩:=eng_parts se (HB.out wr hbr)
   have hge:¬ (k:Int)<(e.txs.length:Int):=by omega
   clear hall e1
   go_upto_region 8 with fail
   clear p3 p4 hge
   generalize wr=wq at*
   go_loopw [5,6] (fun i _ wr=>∃ k:Nat,k≤e.holds.length∧i=.int .i64 (k:Int)∧Hid (∀ j,j<k→holdAt e.v j=true)∧Below W.heap.size W wr) (fun i _ _=>e.holds.length-(intOf i).toNat)
   case atStart=>exact ⟨0,Nat.zero_le _,rfl,fun j hj=>by omega,hbr⟩
   case round=>
    obtain ⟨m,hm,rfl,hallh,hbr2⟩:=hrel
    clear hbr hsr
    have hsr:=hbr2.size
    by_cases hlt3:m<e.holds.length
    ·obtain ⟨b,off,ha,hc⟩:=(HR.out _ hbr2).holds (by intro e0;rw [e0] at hlt3;simp at hlt3)
     have HC:Hid (∀ j,j<e.holds.length→∀ u,Below wr.heap.size wr u→u.cell? ⟨b,off+j*2,none⟩=some (.int .i64 (e.holds.getD j zeroH).tx)∧u.cell? ⟨b,off+j*2+1,none⟩=some (.int .i64 (e.holds.getD j zeroH).oid)):=fun j hj u hu=>⟨(hu.cell (p:=⟨b,off+j*2,none⟩) (block_lt (hc j hj).1)).trans (hc j hj).1,(hu.cell (p:=⟨b,off+j*2+1,none⟩) (block_lt (hc j hj).2)).trans (hc j hj).2⟩
     have HHK:Hid (_=_):=HHX.out m
     have HNK:Hid (_→_):=HHN.out m hlt3
     clear hc
     obtain ⟨h,hh⟩:∃ h,Hid (e.holds.getD m zeroH=h):=⟨_,rfl⟩
     rw [hh.out] at HHK
     have HS:Hid (∀ u,Below wr.heap.size wr u→(u.cell? ⟨w.heap.size,141,none⟩=some (.slice (some ⟨b,off,none⟩) e.holds.length e.cH)∧u.cell? ⟨b,off+m*2+1,none⟩=some (.int .i64 h.oid)∧u.cell? ⟨b,off+m*2,none⟩=some (.int .i64 h.tx)∧u.rangeAt w.heap.size 0 e.cells)):=fun u hu=>by
      have bu:=HB.out u (hbr2.trans (hu.mono hbr2.size))
      obtain ⟨_,_,_,_,q4,_,_⟩:=eng_parts se bu
      rw [ha] at q4
      obtain ⟨z0,z1⟩:=HC.out m hlt3 u hu
      rw [hh.out] at z0 z1
      exact ⟨q4,z1,z0,Box.range [] e.cells [] (by simpa using bu)⟩
     obtain ⟨_,_,_,_,p4,_,_⟩:=eng_parts se (HB.out wr hbr2)
     rw [ha] at p4
     have CL:=fun u (hu:Below wr.heap.size wr u)=>l7Live_any e se h.tx u (HR.out _ (hbr2.trans (hu.mono hbr2.size))).txs (by omega)
     have hml:(m:Int)<(e.holds.length:Int):=by omega
     have hm0:(0:Int)≤(m:Int):=by omega
     go_upto_region 10 with fail
     clear p4
     have D0:Below wr.heap.size wr wr.drew:=(Below.refl _ _).drew
     obtain ⟨bA,hA⟩:∃ bA,Hid (inB h.oid 1 31=bA):=⟨_,rfl⟩
     obtain ⟨lv,hlv⟩:∃ lv,Hid (liveOf e.txs h.tx=lv):=⟨_,rfl⟩
     have HI:=eng_info se
     cases bA with
     | false=>
      have HFALSE:Hid (holdAt e.v m=false):=by rw [Hid,HHK.out,hA.out];rfl
      refine wp_region_held_drew (S:=fun u=>(u.cell? ⟨w.heap.size,141,none⟩=some (.slice (some ⟨b,off,none⟩) e.holds.length e.cH)∧u.cell? ⟨b,off+m*2+1,none⟩=some (.int .i64 h.oid)∧u.cell? ⟨b,off+m*2,none⟩=some (.int .i64 h.tx)∧u.rangeAt w.heap.size 0 e.cells)) (by kernel_rfl) (HS.out _ D0) (fun hHeld=>?_)
      generalize wr.drew=d0 at*
      refine tq 0 (v:=.pointer (some ⟨w.heap.size,141,none⟩)) rfl hHeld ?_
      try simp only [zz]
      refine tk 1 (v:=.slice (some ⟨b,off,none⟩) e.holds.length e.cH) rfl (Or.inl ⟨by rfl,?_⟩) hHeld ?_
      ·intro w' hSw
       have hx:=hSw.1
       go_simp<;>rfl
      try simp only [zz]
      refine tq 2 (v:=.int .i64 (m:Int)) rfl hHeld ?_
      try simp only [zz]
      refine tq 3 (v:=.pointer (some ⟨b,off+m*2,none⟩)) rfl hHeld ?_
      try simp only [zz]
      refine tq 4 (v:=.pointer (some ⟨b,off+m*2+1,none⟩)) rfl hHeld ?_
      try simp only [zz]
      refine tk 5 (v:=.int .i64 h.oid) rfl (Or.inl ⟨by rfl,?_⟩) hHeld ?_
      ·intro w' hSw
       have hx:=hSw.2.1
       go_simp<;>rfl
      try simp only [zz]
      refine wpAnyH_ready (rs:=[6]) (by kernel_rfl) (by simp) ?_
      refine AllReadyH.cons rfl (fun K hK=>?_) AllReadyH.nil
      go_simp
      refine (l1In_any _ _ _ _).mono ?_
      rintro r d0 ⟨rfl,rfl⟩
      rw [hA.out]
      refine hK.out _ _ (hHeld) (fun hHeld=>?_)
      clear hK K 
      try simp only [zz]
      refine tq 7 (v:=.bool true) rfl hHeld ?_
      try simp only [zz]
      refine tq 8 (v:=.bool true) rfl hHeld ?_
      try simp only [zz]
      refine tk 9 (v:=undef) rfl (Or.inr ⟨by rfl,rfl⟩) hHeld ?_
      try simp only [zz]
      refine tk 10 (v:=undef) rfl (Or.inr ⟨by rfl,rfl⟩) hHeld ?_
      try simp only [zz]
      refine tk 11 (v:=undef) rfl (Or.inr ⟨by rfl,rfl⟩) hHeld ?_
      try simp only [zz]
      refine tk 12 (v:=undef) rfl (Or.inr ⟨by rfl,rfl⟩) hHeld ?_
      try simp only [zz]
      refine tk 13 (v:=undef) rfl (Or.inr ⟨by rfl,rfl⟩) hHeld ?_
      try simp only [zz]
      refine tk 14 (v:=undef) rfl (Or.inr ⟨by rfl,rfl⟩) hHeld ?_
      try simp only [zz]
      refine tk 15 (v:=undef) rfl (Or.inr ⟨by rfl,rfl⟩) hHeld ?_
      try simp only [zz]
      refine tk 16 (v:=undef) rfl (Or.inr ⟨by rfl,rfl⟩) hHeld ?_
      try simp only [zz]
      refine tk 17 (v:=undef) rfl (Or.inr ⟨by rfl,rfl⟩) hHeld ?_
      try simp only [zz]
      refine tq 18 (v:=.bool true) rfl hHeld ?_
      try simp only [zz]
      refine wpAnyH_done (by kernel_rfl) ?_ _
      clear hHeld
      have HE:Hid (ROK=false∧Below w.heap.size w d0):=⟨HNK.out HFALSE.out,hbW.trans ((hbr2.trans (D0.mono hbr2.size)).mono hbW.size)⟩
      go_wp2
      go_ret
      exact ⟨ret_bool HE.out.1.symm,HE.out.2⟩
     | true=>
      by_cases hL:lv<0
      ·have HFALSE:Hid (holdAt e.v m=false):=by rw [Hid,HHK.out,hA.out,hlv.out,decide_eq_false (by omega)];rfl
       refine wp_region_held_drew (S:=fun u=>(u.cell? ⟨w.heap.size,141,none⟩=some (.slice (some ⟨b,off,none⟩) e.holds.length e.cH)∧u.cell? ⟨b,off+m*2+1,none⟩=some (.int .i64 h.oid)∧u.cell? ⟨b,off+m*2,none⟩=some (.int .i64 h.tx)∧u.rangeAt w.heap.size 0 e.cells)) (by kernel_rfl) (HS.out _ D0) (fun hHeld=>?_)
       generalize wr.drew=d0 at*
       refine tq 0 (v:=.pointer (some ⟨w.heap.size,141,none⟩)) rfl hHeld ?_
       try simp only [zz]
       refine tk 1 (v:=.slice (some ⟨b,off,none⟩) e.holds.length e.cH) rfl (Or.inl ⟨by rfl,?_⟩) hHeld ?_
       ·intro w' hSw
        have hx:=hSw.1
        go_simp<;>rfl
       try simp only [zz]
       refine tq 2 (v:=.int .i64 (m:Int)) rfl hHeld ?_
       try simp only [zz]
       refine tq 3 (v:=.pointer (some ⟨b,off+m*2,none⟩)) rfl hHeld ?_
       try simp only [zz]
       refine tq 4 (v:=.pointer (some ⟨b,off+m*2+1,none⟩)) rfl hHeld ?_
       try simp only [zz]
       refine tk 5 (v:=.int .i64 h.oid) rfl (Or.inl ⟨by rfl,?_⟩) hHeld ?_
       ·intro w' hSw
        have hx:=hSw.2.1
        go_simp<;>rfl
       try simp only [zz]
       refine wpAnyH_ready (rs:=[6]) (by kernel_rfl) (by simp) ?_
       refine AllReadyH.cons rfl (fun K hK=>?_) AllReadyH.nil
       go_simp
       refine (l1In_any _ _ _ _).mono ?_
       rintro r d0 ⟨rfl,rfl⟩
       rw [hA.out]
       refine hK.out _ _ (hHeld) (fun hHeld=>?_)
       clear hK K 
       try simp only [zz]
       refine tq 7 (v:=.bool false) rfl hHeld ?_
       try simp only [zz]
       refine tq 8 (v:=.bool false) rfl hHeld ?_
       try simp only [zz]
       refine tk 9 rfl (yieldsIf_load_mid (by rfl) _ _ rfl _ _ rfl (e.cells) _ (fun _ h=>h.2.2.2) Tryz.underlying58 rfl HI) hHeld ?_
       try simp only [zz]
       refine tq 10 (v:=.pointer (some ⟨w.heap.size,141,none⟩)) rfl hHeld ?_
       try simp only [zz]
       refine tk 11 (v:=.slice (some ⟨b,off,none⟩) e.holds.length e.cH) rfl (Or.inl ⟨by rfl,?_⟩) hHeld ?_
       ·intro w' hSw
        have hx:=hSw.1
        go_simp<;>rfl
       try simp only [zz]
       refine tq 12 (v:=.int .i64 (m:Int)) rfl hHeld ?_
       try simp only [zz]
       refine tq 13 (v:=.pointer (some ⟨b,off+m*2,none⟩)) rfl hHeld ?_
       try simp only [zz]
       refine tq 14 (v:=.pointer (some ⟨b,off+m*2,none⟩)) rfl hHeld ?_
       try simp only [zz]
       refine tk 15 (v:=.int .i64 h.tx) rfl (Or.inl ⟨by rfl,?_⟩) hHeld ?_
       ·intro w' hSw
        have hx:=hSw.2.2.1
        go_simp<;>rfl
       try simp only [zz]
       refine wpAnyH_ready (rs:=[16]) (by kernel_rfl) (by simp) ?_
       refine AllReadyH.cons rfl (fun K hK=>?_) AllReadyH.nil
       go_simp
       refine (CL _ D0).mono ?_
       rintro r d1 ⟨rfl,hb1⟩
       rw [hlv.out]
       have D1:Below wr.heap.size wr d1:=D0.trans (hb1.mono D0.size)
       refine hK.out _ _ (HS.out _ D1) (fun hHeld=>?_)
       clear hK K hb1
       try simp only [zz]
       refine tq 17 (v:=.bool true) rfl hHeld ?_
       try simp only [zz]
       refine tq 18 (v:=.bool true) rfl hHeld ?_
       try simp only [zz]
       refine wpAnyH_done (by kernel_rfl) ?_ _
       clear hHeld
       have HE:Hid (ROK=false∧Below w.heap.size w d1):=⟨HNK.out HFALSE.out,hbW.trans ((hbr2.trans (D1.mono hbr2.size)).mono hbW.size)⟩
       go_wp2
       go_ret
       exact ⟨ret_bool HE.out.1.symm,HE.out.2⟩
      ·have HLV:Hid (decide (0≤liveOf e.txs h.tx)=true):=by rw [Hid,hlv.out];exact decide_eq_true (by omega)
       refine wp_region_held_drew (S:=fun u=>(u.cell? ⟨w.heap.size,141,none⟩=some (.slice (some ⟨b,off,none⟩) e.holds.length e.cH)∧u.cell? ⟨b,off+m*2+1,none⟩=some (.int .i64 h.oid)∧u.cell? ⟨b,off+m*2,none⟩=some (.int .i64 h.tx)∧u.rangeAt w.heap.size 0 e.cells)) (by kernel_rfl) (HS.out _ D0) (fun hHeld=>?_)
       generalize wr.drew=d0 at*
       refine tq 0 (v:=.pointer (some ⟨w.heap.size,141,none⟩)) rfl hHeld ?_
       try simp only [zz]
       refine tk 1 (v:=.slice (some ⟨b,off,none⟩) e.holds.length e.cH) rfl (Or.inl ⟨by rfl,?_⟩) hHeld ?_
       ·intro w' hSw
        have hx:=hSw.1
        go_simp<;>rfl
       try simp only [zz]
       refine tq 2 (v:=.int .i64 (m:Int)) rfl hHeld ?_
       try simp only [zz]
       refine tq 3 (v:=.pointer (some ⟨b,off+m*2,none⟩)) rfl hHeld ?_
       try simp only [zz]
       refine tq 4 (v:=.pointer (some ⟨b,off+m*2+1,none⟩)) rfl hHeld ?_
       try simp only [zz]
       refine tk 5 (v:=.int .i64 h.oid) rfl (Or.inl ⟨by rfl,?_⟩) hHeld ?_
       ·intro w' hSw
        have hx:=hSw.2.1
        go_simp<;>rfl
       try simp only [zz]
       refine wpAnyH_ready (rs:=[6]) (by kernel_rfl) (by simp) ?_
       refine AllReadyH.cons rfl (fun K hK=>?_) AllReadyH.nil
       go_simp
       refine (l1In_any _ _ _ _).mono ?_
       rintro r d0 ⟨rfl,rfl⟩
       rw [hA.out]
       refine hK.out _ _ (hHeld) (fun hHeld=>?_)
       clear hK K 
       try simp only [zz]
       refine tq 7 (v:=.bool false) rfl hHeld ?_
       try simp only [zz]
       refine tq 8 (v:=.bool false) rfl hHeld ?_
       try simp only [zz]
       refine tk 9 rfl (yieldsIf_load_mid (by rfl) _ _ rfl _ _ rfl (e.cells) _ (fun _ h=>h.2.2.2) Tryz.underlying58 rfl HI) hHeld ?_
       try simp only [zz]
       refine tq 10 (v:=.pointer (some ⟨w.heap.size,141,none⟩)) rfl hHeld ?_
       try simp only [zz]
       refine tk 11 (v:=.slice (some ⟨b,off,none⟩) e.holds.length e.cH) rfl (Or.inl ⟨by rfl,?_⟩) hHeld ?_
       ·intro w' hSw
        have hx:=hSw.1
        go_simp<;>rfl
       try simp only [zz]
       refine tq 12 (v:=.int .i64 (m:Int)) rfl hHeld ?_
       try simp only [zz]
       refine tq 13 (v:=.pointer (some ⟨b,off+m*2,none⟩)) rfl hHeld ?_
       try simp only [zz]
       refine tq 14 (v:=.pointer (some ⟨b,off+m*2,none⟩)) rfl hHeld ?_
       try simp only [zz]
       refine tk 15 (v:=.int .i64 h.tx) rfl (Or.inl ⟨by rfl,?_⟩) hHeld ?_
       ·intro w' hSw
        have hx:=hSw.2.2.1
        go_simp<;>rfl
       try simp only [zz]
       refine wpAnyH_ready (rs:=[16]) (by kernel_rfl) (by simp) ?_
       refine AllReadyH.cons rfl (fun K hK=>?_) AllReadyH.nil
       go_simp
       refine (CL _ D0).mono ?_
       rintro r d1 ⟨rfl,hb1⟩
       rw [hlv.out]
       have D1:Below wr.heap.size wr d1:=D0.trans (hb1.mono D0.size)
       refine hK.out _ _ (HS.out _ D1) (fun hHeld=>?_)
       clear hK K hb1
       try simp only [zz]
       refine tq 17 (v:=.bool false) rfl hHeld ?_
       try simp only [zz]
       refine tq 18 (v:=.bool false) rfl hHeld ?_
       try simp only [zz]
       refine wpAnyH_done (by kernel_rfl) ?_ _
       clear hHeld
       have N1:Below W.heap.size W d1:=hbr2.trans (D1.mono hbr2.size)
       clear CL
       go_wp2_with fail
       generalize wr=wo at*
       go_loopw [6] (fun i wr=>∃ q:Nat,q≤m∧i=.int .i64 (q:Int)∧Hid (∀ j,j<q→(e.holds.getD j zeroH).oid≠h.oid)∧Below wo.heap.size wo wr) (fun i _=>m-(intOf i).toNat)
       case atStart=>exact ⟨0,Nat.zero_le _,rfl,fun j hj=>by omega,D1⟩
       case round=>
        obtain ⟨q,hq,rfl,hdis,hbi⟩:=hrel
        clear D1 N1
        by_cases hlt4:q<m
        ·obtain ⟨y0,y1⟩:=HC.out q (by omega) wr hbi
         obtain ⟨s0,s1,_,_⟩:=HS.out wr hbi
         obtain ⟨oq,hoq⟩:∃ oq,Hid ((e.holds.getD q zeroH).oid=oq):=⟨_,rfl⟩
         rw [hoq.out] at y1
         have HSI:Hid (∀ u,Below wr.heap.size wr u→(u.cell? ⟨w.heap.size,141,none⟩=some (.slice (some ⟨b,off,none⟩) e.holds.length e.cH)∧u.cell? ⟨b,off+m*2+1,none⟩=some (.int .i64 h.oid)∧u.cell? ⟨b,off+q*2+1,none⟩=some (.int .i64 oq))):=fun u hu=>by
          have hu2:=hbi.trans (hu.mono hbi.size)
          obtain ⟨z0,z1,_,_⟩:=HS.out u hu2
          obtain ⟨_,z2⟩:=HC.out q (by omega) u hu2
          rw [hoq.out] at z2
          exact ⟨z0,z1,z2⟩
         have hql:(q:Int)<(e.holds.length:Int):=by omega
         have hq0:(0:Int)≤(q:Int):=by omega
         have hqm:(q:Int)<(m:Int):=by omega
         clear y0 y1 s0 s1
         go_wp2_with fail
         have DI:Below wr.heap.size wr wr.drew:=(Below.refl _ _).drew
         have NI:Below wo.heap.size wo wr.drew:=hbi.trans (DI.mono hbi.size)
         by_cases heq:oq=h.oid
         ·have hqb:(oq == h.oid)=true:=by simp [heq]
          have HFALSE:Hid (holdAt e.v m=false):=by
           have hf:freshH e.holds m=false:=all_no q (by omega) (by rw [hh.out,hoq.out,heq];simp)
           rw [Hid,HHK.out,hf];simp
          clear heq
          refine wp_region_held_drew (S:=fun u=>(u.cell? ⟨w.heap.size,141,none⟩=some (.slice (some ⟨b,off,none⟩) e.holds.length e.cH)∧u.cell? ⟨b,off+m*2+1,none⟩=some (.int .i64 h.oid)∧u.cell? ⟨b,off+q*2+1,none⟩=some (.int .i64 oq))) (by kernel_rfl) (HSI.out _ DI) (fun hHeld=>?_)
          generalize wr.drew=d2 at*
          refine tq 0 (v:=.pointer (some ⟨w.heap.size,141,none⟩)) rfl hHeld ?_
          try simp only [zz]
          refine tk 1 (v:=.slice (some ⟨b,off,none⟩) e.holds.length e.cH) rfl (Or.inl ⟨by rfl,?_⟩) hHeld ?_
          ·intro w' hSw
           have hx:=hSw.1
           go_simp<;>rfl
          try simp only [zz]
          refine tq 2 (v:=.int .i64 (q:Int)) rfl hHeld ?_
          try simp only [zz]
          refine tq 3 (v:=.pointer (some ⟨b,off+q*2,none⟩)) rfl hHeld ?_
          try simp only [zz]
          refine tq 4 (v:=.pointer (some ⟨b,off+q*2+1,none⟩)) rfl hHeld ?_
          try simp only [zz]
          refine tk 5 (v:=.int .i64 oq) rfl (Or.inl ⟨by rfl,?_⟩) hHeld ?_
          ·intro w' hSw
           have hx:=hSw.2.2
           go_simp<;>rfl
          try simp only [zz]
          refine tq 6 (v:=.pointer (some ⟨w.heap.size,141,none⟩)) rfl hHeld ?_
          try simp only [zz]
          refine tk 7 (v:=.slice (some ⟨b,off,none⟩) e.holds.length e.cH) rfl (Or.inl ⟨by rfl,?_⟩) hHeld ?_
          ·intro w' hSw
           have hx:=hSw.1
           go_simp<;>rfl
          try simp only [zz]
          refine tq 8 (v:=.int .i64 (m:Int)) rfl hHeld ?_
          try simp only [zz]
          refine tq 9 (v:=.pointer (some ⟨b,off+m*2,none⟩)) rfl hHeld ?_
          try simp only [zz]
          refine tq 10 (v:=.pointer (some ⟨b,off+m*2+1,none⟩)) rfl hHeld ?_
          try simp only [zz]
          refine tk 11 (v:=.int .i64 h.oid) rfl (Or.inl ⟨by rfl,?_⟩) hHeld ?_
          ·intro w' hSw
           have hx:=hSw.2.1
           go_simp<;>rfl
          try simp only [zz]
          refine tq 12 (v:=.bool true) rfl hHeld ?_
          try simp only [zz]
          refine wpAnyH_done (by kernel_rfl) ?_ _
          clear hHeld
          have HE:Hid (ROK=false∧Below w.heap.size w d2):=⟨HNK.out HFALSE.out,hbW.trans ((hbr2.trans (NI.mono hbr2.size)).mono hbW.size)⟩
          go_wp2
          go_ret
          exact ⟨ret_bool HE.out.1.symm,HE.out.2⟩
         ·have hqb:(oq == h.oid)=false:=by simpa using heq
          have HDIS:Hid (∀ j,j<q+1→(e.holds.getD j zeroH).oid≠h.oid):=fun j hj=>by
           by_cases q2:j=q
           ·rw [q2,hoq.out];exact heq
           ·exact hdis.out j (by omega)
          clear heq
          refine wp_region_held_drew (S:=fun u=>(u.cell? ⟨w.heap.size,141,none⟩=some (.slice (some ⟨b,off,none⟩) e.holds.length e.cH)∧u.cell? ⟨b,off+m*2+1,none⟩=some (.int .i64 h.oid)∧u.cell? ⟨b,off+q*2+1,none⟩=some (.int .i64 oq))) (by kernel_rfl) (HSI.out _ DI) (fun hHeld=>?_)
          generalize wr.drew=d2 at*
          refine tq 0 (v:=.pointer (some ⟨w.heap.size,141,none⟩)) rfl hHeld ?_
          try simp only [zz]
          refine tk 1 (v:=.slice (some ⟨b,off,none⟩) e.holds.length e.cH) rfl (Or.inl ⟨by rfl,?_⟩) hHeld ?_
          ·intro w' hSw
           have hx:=hSw.1
           go_simp<;>rfl
          try simp only [zz]
          refine tq 2 (v:=.int .i64 (q:Int)) rfl hHeld ?_
          try simp only [zz]
          refine tq 3 (v:=.pointer (some ⟨b,off+q*2,none⟩)) rfl hHeld ?_
          try simp only [zz]
          refine tq 4 (v:=.pointer (some ⟨b,off+q*2+1,none⟩)) rfl hHeld ?_
          try simp only [zz]
          refine tk 5 (v:=.int .i64 oq) rfl (Or.inl ⟨by rfl,?_⟩) hHeld ?_
          ·intro w' hSw
           have hx:=hSw.2.2
           go_simp<;>rfl
          try simp only [zz]
          refine tq 6 (v:=.pointer (some ⟨w.heap.size,141,none⟩)) rfl hHeld ?_
          try simp only [zz]
          refine tk 7 (v:=.slice (some ⟨b,off,none⟩) e.holds.length e.cH) rfl (Or.inl ⟨by rfl,?_⟩) hHeld ?_
          ·intro w' hSw
           have hx:=hSw.1
           go_simp<;>rfl
          try simp only [zz]
          refine tq 8 (v:=.int .i64 (m:Int)) rfl hHeld ?_
          try simp only [zz]
          refine tq 9 (v:=.pointer (some ⟨b,off+m*2,none⟩)) rfl hHeld ?_
          try simp only [zz]
          refine tq 10 (v:=.pointer (some ⟨b,off+m*2+1,none⟩)) rfl hHeld ?_
          try simp only [zz]
          refine tk 11 (v:=.int .i64 h.oid) rfl (Or.inl ⟨by rfl,?_⟩) hHeld ?_
          ·intro w' hSw
           have hx:=hSw.2.1
           go_simp<;>rfl
          try simp only [zz]
          refine tq 12 (v:=.bool false) rfl hHeld ?_
          try simp only [zz]
          refine wpAnyH_done (by kernel_rfl) ?_ _
          clear hHeld
          go_wp2_with fail
          go_roundw
          case rel=>exact ⟨q+1,by omega,by go_num,HDIS,NI⟩
          case measure=>simp [intOf];omega
        ·obtain rfl:q=m:=by omega
         have hqq:¬ (q:Int)<(q:Int):=by omega
         have HOK:Hid (∀ j,j<q+1→holdAt e.v j=true):=fun j hj=>by
          by_cases q2:j=q
          ·have hf:freshH e.holds q=true:=all_yes (fun i hi=>by rw [hh.out];exact decide_eq_true (hdis.out i hi))
           rw [q2,HHK.out,hA.out,HLV.out,hf];rfl
          ·exact hallh.out j (by omega)
         have HN:Hid (Below W.heap.size W wr):=hbr2.trans (hbi.mono hbr2.size)
         go_wp2_with fail
         go_roundw
         case rel=>exact ⟨q+1,by omega,by go_num,HOK,HN.out⟩
         case measure=>simp [intOf];omega
    ·have e1:m=e.holds.length:=by omega
     have HH1:Hid (∀ j,j<e.holds.length→holdAt e.v j=true):=by rw [e1] at hallh;exact hallh
     have HE:Hid (ROK=decide (e.txs.length≤6)∧Below w.heap.size w wr):=⟨HALL.out HT1.out HH1.out,hbW.trans (hbr2.mono hbW.size)⟩
     obtain ⟨_,_,_,p3,p4,_,_⟩:=eng_parts se (HB.out wr hbr2)
     have hge:¬ (m:Int)<(e.holds.length:Int):=by omega
     clear e1 hallh
     by_cases h6:e.txs.length≤6
     ·have h6i:(e.txs.length:Int)≤6:=by omega
      go_wp2
      go_ret
      exact ⟨ret_bool (by rw [HE.out.1,decide_eq_true h6]),HE.out.2⟩
     ·have h6i:¬ (e.txs.length:Int)≤6:=by omega
      go_wp2
      go_ret
      exact ⟨ret_bool (by rw [HE.out.1,decide_eq_false h6]),HE.out.2⟩
end Go.Proofs.YtcoeamamaifoeaaGreatDoor