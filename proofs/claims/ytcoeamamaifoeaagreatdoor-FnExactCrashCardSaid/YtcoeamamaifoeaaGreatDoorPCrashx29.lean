/- Several texts in one, in their order. -/
import Derived.Test.YtcoeamamaifoeaaGreatDoorPCrashx22
import Derived.Test.YtcoeamamaifoeaaGreatDoorPCrashx18
import Derived.Test.YtcoeamamaifoeaaGreatDoorPCrashx10
import Derived.Test.YtcoeamamaifoeaaGreatDoorPCrashx9
import Derived.Test.YtcoeamamaifoeaaGreatDoorPCrashx1
set_option maxHeartbeats 8000000
set_option maxRecDepth 100000
namespace Go.Proofs.YtcoeamamaifoeaaGreatDoor
open Go.RowKit
theorem nextOk_any (e:EngA) (se:e.shape) (w:World) (re:e.reads w) (hl:e.short 1048576):
  Calls Tryz.prog 98 #[.agg e.cells.toArray] w fun r w'=>r=.returned (.bool (nextB e.v && inB e.next 1 1001))∧Below w.heap.size w w':=by
 have hvl:e.v.log.recs.length=e.log.recs.length:=by simp [EngA.v,LogA.v]
 have HNO:Hid (∀ k,k<e.log.recs.length→nextAt e.v k=false→(nextB e.v && inB e.next 1 1001)=false):=fun k hk h=>by (have:nextB e.v=false:=all_no k (by omega) h;rw [this];rfl)
 have HYES:Hid ((∀ k,k<e.log.recs.length→nextAt e.v k=true)→(nextB e.v && inB e.next 1 1001)=inB e.next 1 1001):=fun h=>by (have:nextB e.v=true:=all_yes (fun k hk=>h k (by omega));rw [this];rfl)
 have HXA:Hid (∀ k,nextAt e.v k=decide ((e.log.recs.getD k zeroR).tx<e.next)):=fun k=>by (show decide (((e.log.recs.map RecA.v).getD k zeroR.v).tx<e.next)=_;rw [recD_v];rfl)
 obtain ⟨RB,hRB⟩:∃ RB,(nextB e.v && inB e.next 1 1001)=RB:=⟨_,rfl⟩
 rw [hRB] at HNO HYES ⊢
 clear hRB hvl
 have hrl:e.log.recs.length≤1048576:=hl.log.len
 obtain ⟨W,hW,b0,hbW,hsW⟩:=boxes1 w e.cells 58
 have HB:Hid (∀ u,Below W.heap.size W u→Box u w.heap.size e.cells 58):=fun u hu=>b0.below hu b0.lt
 have HR:Hid (∀ u,Below W.heap.size W u→e.reads u):=fun u hu=>(re.below hbW).below hu
 have HEND:Hid (∀ u,Below W.heap.size W u→Below w.heap.size w u):=fun u hu=>hbW.trans (hu.mono hbW.size)
 have hw0:w.heap.size<W.heap.size:=by omega
 have N:Below W.heap.size W W:=Below.refl _ _
 clear b0 hsW
 obtain ⟨_,_,p2,_,_,_,_⟩:=eng_parts se (HB.out W N)
 have l0:W.cell? ⟨w.heap.size,138,none⟩=some (.slice e.log.a e.log.recs.length e.log.c):=p2 0 _ rfl
 clear p2 hl re
 go_enter Tryz.func98,Tryz.ntmps98
 go_upto_region 1 with fail
 rw [hW.out]
 clear hW
 go_wp2_with fail
 clear l0
 go_loopw [9] (fun i wr=>∃ k:Nat,k≤e.log.recs.length∧i=.int .i64 (k:Int)∧Hid (∀ j,j<k→nextAt e.v j=true)∧Below W.heap.size W wr) (fun i _=>e.log.recs.length-(intOf i).toNat)
 case atStart=>exact ⟨0,Nat.zero_le _,rfl,fun j hj=>by omega,N⟩
 case round=>
  obtain ⟨k,hk,rfl,hall,hbr⟩:=hrel
  clear N
  have hsr:=hbr.size
  by_cases hlt:k<e.log.recs.length
  ·obtain ⟨b,off,ha,hc⟩:=(HR.out _ hbr).log (by intro e0;rw [e0] at hlt;simp at hlt)
   have hcr:wr.rangeAt b (off+k*15) (e.log.recs.getD k zeroR).cells:=(hc k hlt).1
   have HXK:Hid (_=_):=HXA.out k
   have HXN:Hid (_→_):=HNO.out k hlt
   rw [ha]
   clear hc ha
   generalize e.log.recs.getD k zeroR=z at*
   obtain ⟨ZV,hZV,bZ,hbZ,hsZ⟩:=boxes1 wr [.int .i64 0,.int .i64 0,.int .i64 0,.int .i64 0,.int .i64 0,.bool false,.int .i64 0,.slice none 0 0,.slice none 0 0,.bool false,.int .i64 0,.slice none 0 0,.slice none 0 0,.int .i64 0,.slice none 0 0] 100
   obtain ⟨V,hV,hwS,hsS,HT,_,bS⟩:=rec_out z _ rfl bZ
   have nb:Below wr.heap.size wr V:=hbZ.trans (hwS.below (Nat.le_refl _) (by omega))
   have nV:Below W.heap.size W V:=hbr.trans (nb.mono hbr.size)
   have EV:Hid (ZV.setCells wr.heap.size 0 z.cells.toArray.toList=V):=hV.out
   have x1:=bS.cell 1 _ rfl
   obtain ⟨_,_,_,_,_,p5,_⟩:=eng_parts se (HB.out _ nV)
   have hkl:(k:Int)<(e.log.recs.length:Int):=by omega
   have hk0:(0:Int)≤(k:Int):=by omega
   clear bZ hbZ hsZ hwS hsS hV nb bS
   go_upto_region 4 with (first | (guard_target=wpList _ _ _ (Oper.mk (some 12) _ _ _ _ _::_) _ _;refine wpList_load_mid rfl 100 (.tmp 11) rfl b (off+k*15) rfl (z.cells) _ hcr Tryz.underlying100 rfl (rec_info _) ?_) | (guard_target=wpList _ _ _ (Oper.mk none (Op.store _ (Operand.tmp 4) _) _ _ _ _::_) _ _;refine wpList_store_mid rfl 100 (.tmp 4) (.tmp 12) rfl wr.heap.size 0 z.cells.toArray rfl rfl (by rw [hZV.out];exact HT.out) (by rw [List.size_toArray];exact rec_info _) (rec_one _) ?_) | fail)
   rw [hZV.out,EV.out]
   clear hZV EV HT hcr
   by_cases hx:z.tx<e.next
   ·have hxn:¬ e.next≤z.tx:=by omega
    have HK:Hid (∀ j,j<k+1→nextAt e.v j=true):=fun j hj=>by
     by_cases q:j=k
     ·rw [q,HXK.out];exact decide_eq_true hx
     ·exact hall.out j (by omega)
    clear hx
    go_wp2_with fail
    go_roundw
    case rel=>exact ⟨k+1,by omega,by go_num,HK,nV⟩
    case measure=>simp [intOf];omega
   ·have hxn:e.next≤z.tx:=by omega
    have HE:Hid (RB=false∧Below w.heap.size w V):=⟨HXN.out (by rw [HXK.out];exact decide_eq_false hx),HEND.out _ nV⟩
    clear hx
    go_wp2
    go_ret
    exact ⟨ret_bool HE.out.1.symm,HE.out.2⟩
  ·have e1:k=e.log.recs.length:=by omega
   have HE:Hid (RB=inB e.next 1 1001∧Below w.heap.size w wr):=⟨HYES.out (by rw [e1] at hall;exact hall.out),HEND.out _ hbr⟩
   have hge:¬ (k:Int)<(e.log.recs.length:Int):=by omega
   obtain ⟨_,_,_,_,_,p5,_⟩:=eng_parts se (HB.out _ hbr)
   clear hall e1
   by_cases h1:1≤e.next
   ·by_cases h2:e.next≤1001
    ·have HF:Hid (RB=true):=by rw [Hid,HE.out.1];simp [inB,h1,h2]
     go_wp2
     go_ret
     exact ⟨ret_bool HF.out.symm,HE.out.2⟩
    ·have HF:Hid (RB=false):=by rw [Hid,HE.out.1];simp [inB,h2]
     go_wp2
     go_ret
     exact ⟨ret_bool HF.out.symm,HE.out.2⟩
   ·have HF:Hid (RB=false):=by rw [Hid,HE.out.1];simp [inB,h1]
    go_wp2
    go_ret
    exact ⟨ret_bool HF.out.symm,HE.out.2⟩
theorem lastLsn_any (l:LogA) (tx:Int) (w:World) (hr:l.reads w) (hl:l.recs.length≤1048576):
  Calls Tryz.prog 123 #[.agg l.cells.toArray,.int .i64 tx] w fun r w'=>r=.returned (.int .i64 ((chainOf l.v tx).headD 0))∧Below w.heap.size w w':=by
 obtain ⟨W,hW,b0,hbW,hsW⟩:=boxes1 w l.cells 54
 have r0:W.rangeAt w.heap.size 0 l.cells:=Box.range [] l.cells [] (by simpa using b0)
 have C:=implChain_any l tx W (LogA.reads.below hr hbW) hl
 clear b0 hsW
 go_enter Tryz.func123,Tryz.ntmps123
 go_wp2_with (first | (guard_target=wpList _ _ _ (Oper.mk (some 6) _ _ _ _ _::_) _ _;refine wpList_load_mid rfl 54 (.tmp 2) rfl w.heap.size 0 rfl (l.cells) _ (by rw [hW.out];exact r0) Tryz.underlying54 rfl (log_info _) ?_) | fail)
 rw [hW.out]
 clear hW r0
 refine C.mono ?_
 clear C
 rintro r w1 ⟨a,c,ys,rfl,hy,oy,hb⟩
 have n1:Below w.heap.size w w1:=hbW.trans (hb.mono hbW.size)
 have HY:Hid ((chainOf l.v tx).headD 0=ys.headD 0):=by rw [Hid,hy.out]
 have ry:=oy.reads
 clear oy hy hb hbW
 cases ys with
 | nil=>
  go_wp2
  go_ret
  exact ⟨ret_int HY.out.symm,n1⟩
 | cons y r=>
  obtain ⟨b,off,rfl,hc⟩:=ry (by simp)
  have c0:=hc 0 (by simp)
  simp only [Nat.add_zero,List.getD_cons_zero] at c0
  have HY2:Hid ((chainOf l.v tx).headD 0=y):=by rw [Hid,HY.out];rfl
  have hn0:(((y::r).length:Int) == 0)=false:=beq_eq_false_iff_ne.2 (by simp;omega)
  have hp:(0:Int)<((y::r).length:Int):=by simp only [List.length_cons];omega
  have hpn:0<(y::r).length:=by simp
  clear hc HY ry
  generalize y::r=ys at*
  go_wp2
  go_ret
  exact ⟨ret_int HY2.out.symm,n1⟩
theorem liveFrom_no (tx:Int) (ls:List LiveV):∀ k,(∀ j,j<ls.length→(ls.getD j zeroL).tx≠tx)→liveFrom tx ls k= -1:=by
 induction ls with
 | nil=>intro k _;rfl
 | cons l r ih=>
  intro k h
  have h0:=h 0 (by simp)
  simp only [List.getD_cons_zero] at h0
  rw [liveFrom,if_neg h0,ih (k+1) (fun j hj=>by have:=h (j+1) (by simpa using hj);simpa using this)]
theorem liveFrom_yes (tx:Int) (ls:List LiveV):∀ k j,j<ls.length→(ls.getD j zeroL).tx=tx→0≤liveFrom tx ls k:=by
 induction ls with
 | nil=>intro k j h;simp at h
 | cons l r ih=>
  intro k j hj h
  rw [liveFrom]
  split
  ·omega
  ·rename_i hn
   cases j with
   | zero=>simp only [List.getD_cons_zero] at h;exact absurd h hn
   | succ j=>exact ih (k+1) j (by simpa using hj) (by simpa using h)
theorem isUnderWay_any (a:Option Addr) (c:Nat) (ls:List LiveV) (tx:Int) (w:World) (hr:ReadsL w a ls) (hl:ls.length≤1099511627776):
  Calls Tryz.prog 125 #[.slice a ls.length c,.int .i64 tx] w fun r w'=>r=.returned (.bool (decide (0≤liveOf ls tx)))∧Below w.heap.size w w':=by
 have HY:Hid (∀ k,k<ls.length→(ls.getD k zeroL).tx=tx→decide (0≤liveOf ls tx)=true):=fun k hk h=>decide_eq_true (liveFrom_yes tx ls 0 k hk h)
 have HN:Hid ((∀ k,k<ls.length→(ls.getD k zeroL).tx≠tx)→decide (0≤liveOf ls tx)=false):=fun h=>decide_eq_false (by (unfold liveOf;rw [liveFrom_no tx ls 0 h];omega))
 have HR:Hid (ReadsL w a ls):=hr
 generalize decide (0≤liveOf ls tx)=RB at*
 clear hr
 go_enter Tryz.func125,Tryz.ntmps125
 go_wp2_with fail
 go_loopw [9] (fun i wr=>∃ k:Nat,k≤ls.length∧i=.int .i64 (k:Int)∧Hid (∀ j,j<k→(ls.getD j zeroL).tx≠tx)∧Below w.heap.size w wr) (fun i _=>ls.length-(intOf i).toNat)
 case atStart=>exact ⟨0,Nat.zero_le _,rfl,fun j hj=>by omega,Below.refl _ _⟩
 case round=>
  obtain ⟨k,hk,rfl,hall,hbr⟩:=hrel
  by_cases hlt:k<ls.length
  ·obtain ⟨b,off,rfl,hc⟩:=(HR.out.below hbr) (by intro e0;rw [e0] at hlt;simp at hlt)
   obtain ⟨c0,c1,c2⟩:=hc k hlt
   have HYK:Hid (_→_):=HY.out k hlt
   obtain ⟨t,ht⟩:∃ t,Hid (ls.getD k zeroL=t):=⟨_,rfl⟩
   rw [ht.out] at c0 c1 c2 HYK
   clear hc
   obtain ⟨V,hV,bV,hbV,hsV⟩:=boxes1 wr [.int .i64 t.tx,.int .i64 t.last,.bool t.aborts] 109
   have nV:Below w.heap.size w V:=hbr.trans (hbV.mono hbr.size)
   have x0:=bV.cell 0 _ rfl
   have hkl:(k:Int)<(ls.length:Int):=by omega
   have hk0:(0:Int)≤(k:Int):=by omega
   clear hbV hsV bV
   go_upto_region 4 with fail
   rw [hV.out]
   clear hV c0 c1 c2
   by_cases hx:t.tx=tx
   ·have hxb:(t.tx == tx)=true:=by simp [hx]
    have HE:Hid (RB=true):=HYK.out hx
    clear hx
    go_wp2
    go_ret
    exact ⟨ret_bool HE.out.symm,nV⟩
   ·have hxb:(t.tx == tx)=false:=by simpa using hx
    have HK:Hid (∀ j,j<k+1→(ls.getD j zeroL).tx≠tx):=fun j hj=>by
     by_cases q:j=k
     ·rw [q,ht.out];exact hx
     ·exact hall.out j (by omega)
    clear hx
    go_wp2_with fail
    go_roundw
    case rel=>exact ⟨k+1,by omega,by go_num,HK,nV⟩
    case measure=>simp [intOf];omega
  ·have e1:k=ls.length:=by omega
   have HE:Hid (RB=false):=HN.out (by rw [e1] at hall;exact hall.out)
   have hge:¬ (k:Int)<(ls.length:Int):=by omega
   clear hall e1
   go_wp2
   go_ret
   exact ⟨ret_bool HE.out.symm,hbr⟩
def aheadV (ls:List LiveV) (k:Nat):Int:=if k=0 then 0 else (ls.getD (k-1) zeroL).tx
theorem txsOk_any (e:EngA) (se:e.shape) (w:World) (re:e.reads w) (hl:e.short 1048576) (hlog:okLog e.log.v=true):
  Calls Tryz.prog 99 #[.agg e.cells.toArray] w fun r w'=>r=.returned (.bool (decide (e.txs.length≤6) && txsB e.v))∧Below w.heap.size w w':=by
 have HNO:Hid (∀ k,k<e.txs.length→txAt e.v k=false→(decide (e.txs.length≤6) && txsB e.v)=false):=fun k hk h=>by (have:txsB e.v=false:=all_no k hk h;rw [this,Bool.and_false])
 have HYES:Hid (e.txs.length≤6→(∀ k,k<e.txs.length→txAt e.v k=true)→(decide (e.txs.length≤6) && txsB e.v)=true):=fun h6 h=>by (have:txsB e.v=true:=all_yes h;rw [this,decide_eq_true h6];rfl)
 have HLONG:Hid (¬ e.txs.length≤6→(decide (e.txs.length≤6) && txsB e.v)=false):=fun h=>by (rw [decide_eq_false h];rfl)
 have HTX:Hid (∀ k,txAt e.v k=(inB (e.txs.getD k zeroL).tx 1 (e.next-1) && (!(e.txs.getD k zeroL).aborts && (decide ((e.txs.getD k zeroL).last=lastOf (e.log.recs.map RecA.v) (e.txs.getD k zeroL).tx) && (decide (k=0) || decide ((e.txs.getD (k-1) zeroL).tx<(e.txs.getD k zeroL).tx)))))):=fun k=>rfl
 have HLH:Hid (∀ tx,1≤tx→(chainOf e.log.v tx).headD 0=lastOf (e.log.recs.map RecA.v) tx):=fun tx h=>last_head hlog tx h
 obtain ⟨ROK,hRB⟩:∃ RB,(decide (e.txs.length≤6) && txsB e.v)=RB:=⟨_,rfl⟩
 rw [hRB] at HNO HYES HLONG ⊢
 clear hRB hlog
 have hlt:=hl.txs
 have hrl:e.log.recs.length≤1048576:=hl.log.len
 obtain ⟨W,hW,b0,hbW,hsW⟩:=boxes1 w e.cells 58
 have HB:Hid (∀ u,Below W.heap.size W u→Box u w.heap.size e.cells 58):=fun u hu=>b0.below hu b0.lt
 have HR:Hid (∀ u,Below W.heap.size W u→e.reads u):=fun u hu=>(re.below hbW).below hu
 have HEND:Hid (∀ u,Below W.heap.size W u→Below w.heap.size w u):=fun u hu=>hbW.trans (hu.mono hbW.size)
 have hw0:w.heap.size<W.heap.size:=by omega
 have N:Below W.heap.size W W:=Below.refl _ _
 clear b0 hsW
 obtain ⟨_,_,_,p3,_,_,_⟩:=eng_parts se (HB.out W N)
 clear hl re
 go_enter Tryz.func99,Tryz.ntmps99
 go_upto_region 1 with fail
 rw [hW.out]
 clear hW
 by_cases h6:e.txs.length≤6
 ·have h6i:¬ (6:Int)<(e.txs.length:Int):=by omega
  have HY6:Hid (_→_):=HYES.out h6
  clear HLONG HYES h6
  go_wp2_with fail
  clear p3 h6i
  go_loopw [3,13] (fun ah i wr=>∃ k:Nat,k≤e.txs.length∧i=.int .i64 (k:Int)∧ah=.int .i64 (aheadV e.txs k)∧Hid (∀ j,j<k→txAt e.v j=true)∧Hid (0≤aheadV e.txs k)∧Below W.heap.size W wr) (fun _ i _=>e.txs.length-(intOf i).toNat)
  case atStart=>exact ⟨0,Nat.zero_le _,rfl,rfl,fun j hj=>by omega,by show (0:Int)≤0;omega,N⟩
  case round=>
   obtain ⟨k,hk,rfl,rfl,hall,hah,hbr⟩:=hrel
   clear N
   have hsr:=hbr.size
   by_cases hlt2:k<e.txs.length
   ·obtain ⟨b,off,ha,hc⟩:=(HR.out _ hbr).txs (by intro e0;rw [e0] at hlt2;simp at hlt2)
    obtain ⟨c0,c1,c2⟩:=hc k hlt2
    have HTK:Hid (_=_):=HTX.out k
    have HNK:Hid (_→_):=HNO.out k hlt2
    have HAN:Hid (aheadV e.txs (k+1)=(e.txs.getD k zeroL).tx):=by rw [Hid,aheadV,if_neg (by omega),Nat.add_sub_cancel]
    have HAK:Hid ((k=0∧aheadV e.txs k=0)∨(k≠0∧aheadV e.txs k=(e.txs.getD (k-1) zeroL).tx)):=by
     by_cases q:k=0
     ·exact .inl ⟨q,by rw [aheadV,if_pos q]⟩
     ·exact .inr ⟨q,by rw [aheadV,if_neg q]⟩
    rw [ha]
    clear hc ha
    generalize e.txs.getD k zeroL=t at*
    generalize aheadV e.txs k=ah at*
    obtain ⟨V,hV,bV,hbV,hsV⟩:=boxes1 wr [.int .i64 t.tx,.int .i64 t.last,.bool t.aborts] 109
    have nV:Below W.heap.size W V:=hbr.trans (hbV.mono hbr.size)
    obtain ⟨ab,hab⟩:∃ ab,Hid (t.aborts=ab):=⟨_,rfl⟩
    have HS:Hid (∀ u,Below V.heap.size V u→(u.cell? ⟨wr.heap.size,0,none⟩=some (.int .i64 t.tx)∧u.cell? ⟨wr.heap.size,1,none⟩=some (.int .i64 t.last)∧u.cell? ⟨wr.heap.size,2,none⟩=some (.bool ab)∧u.cell? ⟨w.heap.size,142,none⟩=some (.int .i64 e.next)∧u.rangeAt w.heap.size 138 e.log.cells)):=fun u hu=>by
     have bu:=bV.below hu bV.lt
     obtain ⟨_,_,q2,_,_,q5,_⟩:=eng_parts se (HB.out u (nV.trans (hu.mono nV.size)))
     have z2:=bu.cell 2 _ rfl
     rw [hab.out] at z2
     exact ⟨bu.cell 0 _ rfl,bu.cell 1 _ rfl,z2,q5,q2⟩
    have CL:=fun u (hu:Below V.heap.size V u)=>lastLsn_any e.log t.tx u (HR.out _ (nV.trans (hu.mono nV.size))).log hrl
    have hkl:(k:Int)<(e.txs.length:Int):=by omega
    have hk0:(0:Int)≤(k:Int):=by omega
    have hlV:=bV.lt
    clear bV hbV hsV
    go_upto_region 7 with fail
    rw [hV.out]
    clear hV c0 c1 c2
    have D0:Below V.heap.size V V.drew:=(Below.refl _ _).drew
    have N2:Below W.heap.size W V.drew:=nV.trans (D0.mono nV.size)
    by_cases hA:t.tx≤ah
    ·have HFALSE:Hid (txAt e.v k=false):=by
      rw [Hid,HTK.out]
      rcases HAK.out with ⟨q,h0⟩ | ⟨q,h1⟩
      ·have:inB t.tx 1 (e.next-1)=false:=by unfold inB;exact decide_eq_false (by omega)
       rw [this];rfl
      ·have h2:decide ((e.txs.getD (k-1) zeroL).tx<t.tx)=false:=decide_eq_false (by omega)
       rw [h2,decide_eq_false q];simp
     refine wp_region_held_drew (S:=fun u=>(u.cell? ⟨wr.heap.size,0,none⟩=some (.int .i64 t.tx)∧u.cell? ⟨wr.heap.size,1,none⟩=some (.int .i64 t.last)∧u.cell? ⟨wr.heap.size,2,none⟩=some (.bool ab)∧u.cell? ⟨w.heap.size,142,none⟩=some (.int .i64 e.next)∧u.rangeAt w.heap.size 138 e.log.cells)) (by kernel_rfl) (HS.out _ D0) (fun hHeld=>?_)
     generalize V.drew=d0 at*
     refine tq 0 (v:=.pointer (some ⟨wr.heap.size,0,none⟩)) rfl hHeld ?_
     try simp only [zz]
     refine tk 1 (v:=.int .i64 t.tx) rfl (Or.inl ⟨by rfl,?_⟩) hHeld ?_
     ·intro w' hSw
      have hx:=hSw.1
      go_simp<;>rfl
     try simp only [zz]
     refine tq 2 (v:=.int .i64 ah) rfl hHeld ?_
     try simp only [zz]
     refine tq 3 (v:=.bool true) rfl hHeld ?_
     try simp only [zz]
     refine tq 4 (v:=.bool true) rfl hHeld ?_
     try simp only [zz]
     refine tk 5 (v:=undef) rfl (Or.inr ⟨by rfl,rfl⟩) hHeld ?_
     try simp only [zz]
     refine tk 6 (v:=undef) rfl (Or.inr ⟨by rfl,rfl⟩) hHeld ?_
     try simp only [zz]
     refine tk 7 (v:=undef) rfl (Or.inr ⟨by rfl,rfl⟩) hHeld ?_
     try simp only [zz]
     refine tk 8 (v:=undef) rfl (Or.inr ⟨by rfl,rfl⟩) hHeld ?_
     try simp only [zz]
     refine tk 9 (v:=undef) rfl (Or.inr ⟨by rfl,rfl⟩) hHeld ?_
     try simp only [zz]
     refine tq 10 (v:=.bool true) rfl hHeld ?_
     try simp only [zz]
     refine tq 11 (v:=.bool true) rfl hHeld ?_
     try simp only [zz]
     refine tk 12 (v:=undef) rfl (Or.inr ⟨by rfl,rfl⟩) hHeld ?_
     try simp only [zz]
     refine tk 13 (v:=undef) rfl (Or.inr ⟨by rfl,rfl⟩) hHeld ?_
     try simp only [zz]
     refine tq 14 (v:=.bool true) rfl hHeld ?_
     try simp only [zz]
     refine tq 15 (v:=.bool true) rfl hHeld ?_
     try simp only [zz]
     refine tk 16 (v:=undef) rfl (Or.inr ⟨by rfl,rfl⟩) hHeld ?_
     try simp only [zz]
     refine tk 17 (v:=undef) rfl (Or.inr ⟨by rfl,rfl⟩) hHeld ?_
     try simp only [zz]
     refine tk 18 (v:=undef) rfl (Or.inr ⟨by rfl,rfl⟩) hHeld ?_
     try simp only [zz]
     refine tk 19 (v:=undef) rfl (Or.inr ⟨by rfl,rfl⟩) hHeld ?_
     try simp only [zz]
     refine tk 20 (v:=undef) rfl (Or.inr ⟨by rfl,rfl⟩) hHeld ?_
     try simp only [zz]
     refine tk 21 (v:=undef) rfl (Or.inr ⟨by rfl,rfl⟩) hHeld ?_
     try simp only [zz]
     refine tk 22 (v:=undef) rfl (Or.inr ⟨by rfl,rfl⟩) hHeld ?_
     try simp only [zz]
     refine tk 23 (v:=undef) rfl (Or.inr ⟨by rfl,rfl⟩) hHeld ?_
     try simp only [zz]
     refine tq 24 (v:=.bool true) rfl hHeld ?_
     try simp only [zz]
     refine wpAnyH_done (by kernel_rfl) ?_ _
     clear hHeld
     have HE:Hid (ROK=false∧Below w.heap.size w d0):=⟨HNK.out HFALSE.out,HEND.out _ N2⟩
     go_wp2
     go_ret
     exact ⟨ret_bool HE.out.1.symm,HE.out.2⟩
    ·have hAn:ah<t.tx:=by omega
     have HGE:Hid (0≤t.tx):=by have:=hah.out;rw [Hid];omega
     by_cases hB:e.next≤t.tx
     ·have HFALSE:Hid (txAt e.v k=false):=by
       have:inB t.tx 1 (e.next-1)=false:=by unfold inB;exact decide_eq_false (by omega)
       rw [Hid,HTK.out,this];rfl
      refine wp_region_held_drew (S:=fun u=>(u.cell? ⟨wr.heap.size,0,none⟩=some (.int .i64 t.tx)∧u.cell? ⟨wr.heap.size,1,none⟩=some (.int .i64 t.last)∧u.cell? ⟨wr.heap.size,2,none⟩=some (.bool ab)∧u.cell? ⟨w.heap.size,142,none⟩=some (.int .i64 e.next)∧u.rangeAt w.heap.size 138 e.log.cells)) (by kernel_rfl) (HS.out _ D0) (fun hHeld=>?_)
      generalize V.drew=d0 at*
      refine tq 0 (v:=.pointer (some ⟨wr.heap.size,0,none⟩)) rfl hHeld ?_
      try simp only [zz]
      refine tk 1 (v:=.int .i64 t.tx) rfl (Or.inl ⟨by rfl,?_⟩) hHeld ?_
      ·intro w' hSw
       have hx:=hSw.1
       go_simp<;>rfl
      try simp only [zz]
      refine tq 2 (v:=.int .i64 ah) rfl hHeld ?_
      try simp only [zz]
      refine tq 3 (v:=.bool false) rfl hHeld ?_
      try simp only [zz]
      refine tq 4 (v:=.bool false) rfl hHeld ?_
      try simp only [zz]
      refine tq 5 (v:=.pointer (some ⟨wr.heap.size,0,none⟩)) rfl hHeld ?_
      try simp only [zz]
      refine tk 6 (v:=.int .i64 t.tx) rfl (Or.inl ⟨by rfl,?_⟩) hHeld ?_
      ·intro w' hSw
       have hx:=hSw.1
       go_simp<;>rfl
      try simp only [zz]
      refine tq 7 (v:=.pointer (some ⟨w.heap.size,142,none⟩)) rfl hHeld ?_
      try simp only [zz]
      refine tk 8 (v:=.int .i64 e.next) rfl (Or.inl ⟨by rfl,?_⟩) hHeld ?_
      ·intro w' hSw
       have hx:=hSw.2.2.2.1
       go_simp<;>rfl
      try simp only [zz]
      refine tq 9 (v:=.bool true) rfl hHeld ?_
      try simp only [zz]
      refine tq 10 (v:=.bool true) rfl hHeld ?_
      try simp only [zz]
      refine tq 11 (v:=.bool true) rfl hHeld ?_
      try simp only [zz]
      refine tk 12 (v:=undef) rfl (Or.inr ⟨by rfl,rfl⟩) hHeld ?_
      try simp only [zz]
      refine tk 13 (v:=undef) rfl (Or.inr ⟨by rfl,rfl⟩) hHeld ?_
      try simp only [zz]
      refine tq 14 (v:=.bool true) rfl hHeld ?_
      try simp only [zz]
      refine tq 15 (v:=.bool true) rfl hHeld ?_
      try simp only [zz]
      refine tk 16 (v:=undef) rfl (Or.inr ⟨by rfl,rfl⟩) hHeld ?_
      try simp only [zz]
      refine tk 17 (v:=undef) rfl (Or.inr ⟨by rfl,rfl⟩) hHeld ?_
      try simp only [zz]
      refine tk 18 (v:=undef) rfl (Or.inr ⟨by rfl,rfl⟩) hHeld ?_
      try simp only [zz]
      refine tk 19 (v:=undef) rfl (Or.inr ⟨by rfl,rfl⟩) hHeld ?_
      try simp only [zz]
      refine tk 20 (v:=undef) rfl (Or.inr ⟨by rfl,rfl⟩) hHeld ?_
      try simp only [zz]
      refine tk 21 (v:=undef) rfl (Or.inr ⟨by rfl,rfl⟩) hHeld ?_
      try simp only [zz]
      refine tk 22 (v:=undef) rfl (Or.inr ⟨by rfl,rfl⟩) hHeld ?_
      try simp only [zz]
      refine tk 23 (v:=undef) rfl (Or.inr ⟨by rfl,rfl⟩) hHeld ?_
      try simp only [zz]
      refine tq 24 (v:=.bool true) rfl hHeld ?_
      try simp only [zz]
      refine wpAnyH_done (by kernel_rfl) ?_ _
      clear hHeld
      have HE:Hid (ROK=false∧Below w.heap.size w d0):=⟨HNK.out HFALSE.out,HEND.out _ N2⟩
      go_wp2
      go_ret
      exact ⟨ret_bool HE.out.1.symm,HE.out.2⟩
     ·have hBn:t.tx<e.next:=by omega
      have HIN:Hid (inB t.tx 1 (e.next-1)=true):=by have:=hah.out;rw [Hid];unfold inB;exact decide_eq_true (by omega)
      have HPR:Hid ((decide (k=0) || decide ((e.txs.getD (k-1) zeroL).tx<t.tx))=true):=by
       rcases HAK.out with ⟨q,_⟩ | ⟨q,h1⟩
       ·rw [Hid,decide_eq_true q];rfl
       ·rw [Hid,decide_eq_true (show (e.txs.getD (k-1) zeroL).tx<t.tx by omega),Bool.or_true]
      obtain ⟨lst,HLT⟩:∃ lst,Hid ((chainOf e.log.v t.tx).headD 0=lst):=⟨_,rfl⟩
      have HLE:Hid (lastOf (e.log.recs.map RecA.v) t.tx=lst):=by have:=hah.out;rw [Hid,← HLT.out];exact (HLH.out t.tx (by omega)).symm
      cases ab with
      | true=>
       have HFALSE:Hid (txAt e.v k=false):=by rw [Hid,HTK.out,HIN.out,hab.out];rfl
       refine wp_region_held_drew (S:=fun u=>(u.cell? ⟨wr.heap.size,0,none⟩=some (.int .i64 t.tx)∧u.cell? ⟨wr.heap.size,1,none⟩=some (.int .i64 t.last)∧u.cell? ⟨wr.heap.size,2,none⟩=some (.bool true)∧u.cell? ⟨w.heap.size,142,none⟩=some (.int .i64 e.next)∧u.rangeAt w.heap.size 138 e.log.cells)) (by kernel_rfl) (HS.out _ D0) (fun hHeld=>?_)
       generalize V.drew=d0 at*
       refine tq 0 (v:=.pointer (some ⟨wr.heap.size,0,none⟩)) rfl hHeld ?_
       try simp only [zz]
       refine tk 1 (v:=.int .i64 t.tx) rfl (Or.inl ⟨by rfl,?_⟩) hHeld ?_
       ·intro w' hSw
        have hx:=hSw.1
        go_simp<;>rfl
       try simp only [zz]
       refine tq 2 (v:=.int .i64 ah) rfl hHeld ?_
       try simp only [zz]
       refine tq 3 (v:=.bool false) rfl hHeld ?_
       try simp only [zz]
       refine tq 4 (v:=.bool false) rfl hHeld ?_
       try simp only [zz]
       refine tq 5 (v:=.pointer (some ⟨wr.heap.size,0,none⟩)) rfl hHeld ?_
       try simp only [zz]
       refine tk 6 (v:=.int .i64 t.tx) rfl (Or.inl ⟨by rfl,?_⟩) hHeld ?_
       ·intro w' hSw
        have hx:=hSw.1
        go_simp<;>rfl
       try simp only [zz]
       refine tq 7 (v:=.pointer (some ⟨w.heap.size,142,none⟩)) rfl hHeld ?_
       try simp only [zz]
       refine tk 8 (v:=.int .i64 e.next) rfl (Or.inl ⟨by rfl,?_⟩) hHeld ?_
       ·intro w' hSw
        have hx:=hSw.2.2.2.1
        go_simp<;>rfl
       try simp only [zz]
       refine tq 9 (v:=.bool false) rfl hHeld ?_
       try simp only [zz]
       refine tq 10 (v:=.bool false) rfl hHeld ?_
       try simp only [zz]
       refine tq 11 (v:=.bool false) rfl hHeld ?_
       try simp only [zz]
       refine tq 12 (v:=.pointer (some ⟨wr.heap.size,2,none⟩)) rfl hHeld ?_
       try simp only [zz]
       refine tk 13 (v:=.bool true) rfl (Or.inl ⟨by rfl,?_⟩) hHeld ?_
       ·intro w' hSw
        have hx:=hSw.2.2.1
        go_simp<;>rfl
       try simp only [zz]
       refine tq 14 (v:=.bool true) rfl hHeld ?_
       try simp only [zz]
       refine tq 15 (v:=.bool true) rfl hHeld ?_
       try simp only [zz]
       refine tk 16 (v:=undef) rfl (Or.inr ⟨by rfl,rfl⟩) hHeld ?_
       try simp only [zz]
       refine tk 17 (v:=undef) rfl (Or.inr ⟨by rfl,rfl⟩) hHeld ?_
       try simp only [zz]
       refine tk 18 (v:=undef) rfl (Or.inr ⟨by rfl,rfl⟩) hHeld ?_
       try simp only [zz]
       refine tk 19 (v:=undef) rfl (Or.inr ⟨by rfl,rfl⟩) hHeld ?_
       try simp only [zz]
       refine tk 20 (v:=undef) rfl (Or.inr ⟨by rfl,rfl⟩) hHeld ?_
       try simp only [zz]
       refine tk 21 (v:=undef) rfl (Or.inr ⟨by rfl,rfl⟩) hHeld ?_
       try simp only [zz]
       refine tk 22 (v:=undef) rfl (Or.inr ⟨by rfl,rfl⟩) hHeld ?_
       try simp only [zz]
       refine tk 23 (v:=undef) rfl (Or.inr ⟨by rfl,rfl⟩) hHeld ?_
       try simp only [zz]
       refine tq 24 (v:=.bool true) rfl hHeld ?_
       try simp only [zz]
       refine wpAnyH_done (by kernel_rfl) ?_ _
       clear hHeld
       have HE:Hid (ROK=false∧Below w.heap.size w d0):=⟨HNK.out HFALSE.out,HEND.out _ N2⟩
       go_wp2
       go_ret
       exact ⟨ret_bool HE.out.1.symm,HE.out.2⟩
      | false=>
       by_cases hD:t.last=lst
       ·have hDb:(t.last != lst)=false:=by simp [hD]
        have HTRUE:Hid (∀ j,j<k+1→txAt e.v j=true):=fun j hj=>by
         by_cases q:j=k
         ·rw [q,HTK.out,HIN.out,hab.out,HLE.out,decide_eq_true hD,HPR.out];rfl
         ·exact hall.out j (by omega)
        clear hD
        refine wp_region_held_drew (S:=fun u=>(u.cell? ⟨wr.heap.size,0,none⟩=some (.int .i64 t.tx)∧u.cell? ⟨wr.heap.size,1,none⟩=some (.int .i64 t.last)∧u.cell? ⟨wr.heap.size,2,none⟩=some (.bool false)∧u.cell? ⟨w.heap.size,142,none⟩=some (.int .i64 e.next)∧u.rangeAt w.heap.size 138 e.log.cells)) (by kernel_rfl) (HS.out _ D0) (fun hHeld=>?_)
        generalize V.drew=d0 at*
        refine tq 0 (v:=.pointer (some ⟨wr.heap.size,0,none⟩)) rfl hHeld ?_
        try simp only [zz]
        refine tk 1 (v:=.int .i64 t.tx) rfl (Or.inl ⟨by rfl,?_⟩) hHeld ?_
        ·intro w' hSw
         have hx:=hSw.1
         go_simp<;>rfl
        try simp only [zz]
        refine tq 2 (v:=.int .i64 ah) rfl hHeld ?_
        try simp only [zz]
        refine tq 3 (v:=.bool false) rfl hHeld ?_
        try simp only [zz]
        refine tq 4 (v:=.bool false) rfl hHeld ?_
        try simp only [zz]
        refine tq 5 (v:=.pointer (some ⟨wr.heap.size,0,none⟩)) rfl hHeld ?_
        try simp only [zz]
        refine tk 6 (v:=.int .i64 t.tx) rfl (Or.inl ⟨by rfl,?_⟩) hHeld ?_
        ·intro w' hSw
         have hx:=hSw.1
         go_simp<;>rfl
        try simp only [zz]
        refine tq 7 (v:=.pointer (some ⟨w.heap.size,142,none⟩)) rfl hHeld ?_
        try simp only [zz]
        refine tk 8 (v:=.int .i64 e.next) rfl (Or.inl ⟨by rfl,?_⟩) hHeld ?_
        ·intro w' hSw
         have hx:=hSw.2.2.2.1
         go_simp<;>rfl
        try simp only [zz]
        refine tq 9 (v:=.bool false) rfl hHeld ?_
        try simp only [zz]
        refine tq 10 (v:=.bool false) rfl hHeld ?_
        try simp only [zz]
        refine tq 11 (v:=.bool false) rfl hHeld ?_
        try simp only [zz]
        refine tq 12 (v:=.pointer (some ⟨wr.heap.size,2,none⟩)) rfl hHeld ?_
        try simp only [zz]
        refine tk 13 (v:=.bool false) rfl (Or.inl ⟨by rfl,?_⟩) hHeld ?_
        ·intro w' hSw
         have hx:=hSw.2.2.1
         go_simp<;>rfl
        try simp only [zz]
        refine tq 14 (v:=.bool false) rfl hHeld ?_
        try simp only [zz]
        refine tq 15 (v:=.bool false) rfl hHeld ?_
        try simp only [zz]
        refine tq 16 (v:=.pointer (some ⟨wr.heap.size,1,none⟩)) rfl hHeld ?_
        try simp only [zz]
        refine tk 17 (v:=.int .i64 t.last) rfl (Or.inl ⟨by rfl,?_⟩) hHeld ?_
        ·intro w' hSw
         have hx:=hSw.2.1
         go_simp<;>rfl
        try simp only [zz]
        refine tq 18 (v:=.pointer (some ⟨w.heap.size,138,none⟩)) rfl hHeld ?_
        try simp only [zz]
        refine tk 19 rfl (yieldsIf_load_mid (by rfl) _ _ rfl _ _ rfl (e.log.cells) _ (fun _ h=>h.2.2.2.2) Tryz.underlying54 rfl (log_info _)) hHeld ?_
        try simp only [zz]
        refine tq 20 (v:=.pointer (some ⟨wr.heap.size,0,none⟩)) rfl hHeld ?_
        try simp only [zz]
        refine tk 21 (v:=.int .i64 t.tx) rfl (Or.inl ⟨by rfl,?_⟩) hHeld ?_
        ·intro w' hSw
         have hx:=hSw.1
         go_simp<;>rfl
        try simp only [zz]
        refine wpAnyH_ready (rs:=[22]) (by kernel_rfl) (by simp) ?_
        refine AllReadyH.cons rfl (fun K hK=>?_) AllReadyH.nil
        go_simp
        refine (CL _ D0).mono ?_
        rintro r d1 ⟨rfl,hb1⟩
        have D1:Below V.heap.size V d1:=D0.trans (hb1.mono D0.size)
        have N3:Below W.heap.size W d1:=nV.trans (D1.mono nV.size)
        rw [HLT.out]
        refine hK.out _ _ (HS.out _ D1) (fun hHeld=>?_)
        clear hK K hb1
        try simp only [zz]
        refine tq 23 (v:=.bool false) rfl hHeld ?_
        try simp only [zz]
        refine tq 24 (v:=.bool false) rfl hHeld ?_
        try simp only [zz]
        refine wpAnyH_done (by kernel_rfl) ?_ _
        clear hHeld
        have y0:=(HS.out _ D1).1
        go_wp2_with fail
        go_roundw
        case rel=>exact ⟨k+1,by omega,by go_num,by rw [HAN.out],HTRUE,by rw [Hid,HAN.out];exact HGE.out,N3⟩
        case measure=>simp [intOf];omega
       ·have hDb:(t.last != lst)=true:=by simpa using hD
        have HFALSE:Hid (txAt e.v k=false):=by rw [Hid,HTK.out,HIN.out,hab.out,HLE.out,decide_eq_false hD];rfl
        clear hD
        refine wp_region_held_drew (S:=fun u=>(u.cell? ⟨wr.heap.size,0,none⟩=some (.int .i64 t.tx)∧u.cell? ⟨wr.heap.size,1,none⟩=some (.int .i64 t.last)∧u.cell? ⟨wr.heap.size,2,none⟩=some (.bool false)∧u.cell? ⟨w.heap.size,142,none⟩=some (.int .i64 e.next)∧u.rangeAt w.heap.size 138 e.log.cells)) (by kernel_rfl) (HS.out _ D0) (fun hHeld=>?_)
        generalize V.drew=d0 at*
        refine tq 0 (v:=.pointer (some ⟨wr.heap.size,0,none⟩)) rfl hHeld ?_
        try simp only [zz]
        refine tk 1 (v:=.int .i64 t.tx) rfl (Or.inl ⟨by rfl,?_⟩) hHeld ?_
        ·intro w' hSw
         have hx:=hSw.1
         go_simp<;>rfl
        try simp only [zz]
        refine tq 2 (v:=.int .i64 ah) rfl hHeld ?_
        try simp only [zz]
        refine tq 3 (v:=.bool false) rfl hHeld ?_
        try simp only [zz]
        refine tq 4 (v:=.bool false) rfl hHeld ?_
        try simp only [zz]
        refine tq 5 (v:=.pointer (some ⟨wr.heap.size,0,none⟩)) rfl hHeld ?_
        try simp only [zz]
        refine tk 6 (v:=.int .i64 t.tx) rfl (Or.inl ⟨by rfl,?_⟩) hHeld ?_
        ·intro w' hSw
         have hx:=hSw.1
         go_simp<;>rfl
        try simp only [zz]
        refine tq 7 (v:=.pointer (some ⟨w.heap.size,142,none⟩)) rfl hHeld ?_
        try simp only [zz]
        refine tk 8 (v:=.int .i64 e.next) rfl (Or.inl ⟨by rfl,?_⟩) hHeld ?_
        ·intro w' hSw
         have hx:=hSw.2.2.2.1
         go_simp<;>rfl
        try simp only [zz]
        refine tq 9 (v:=.bool false) rfl hHeld ?_
        try simp only [zz]
        refine tq 10 (v:=.bool false) rfl hHeld ?_
        try simp only [zz]
        refine tq 11 (v:=.bool false) rfl hHeld ?_
        try simp only [zz]
        refine tq 12 (v:=.pointer (some ⟨wr.heap.size,2,none⟩)) rfl hHeld ?_
        try simp only [zz]
        refine tk 13 (v:=.bool false) rfl (Or.inl ⟨by rfl,?_⟩) hHeld ?_
        ·intro w' hSw
         have hx:=hSw.2.2.1
         go_simp<;>rfl
        try simp only [zz]
        refine tq 14 (v:=.bool false) rfl hHeld ?_
        try simp only [zz]
        refine tq 15 (v:=.bool false) rfl hHeld ?_
        try simp only [zz]
        refine tq 16 (v:=.pointer (some ⟨wr.heap.size,1,none⟩)) rfl hHeld ?_
        try simp only [zz]
        refine tk 17 (v:=.int .i64 t.last) rfl (Or.inl ⟨by rfl,?_⟩) hHeld ?_
        ·intro w' hSw
         have hx:=hSw.2.1
         go_simp<;>rfl
        try simp only [zz]
        refine tq 18 (v:=.pointer (some ⟨w.heap.size,138,none⟩)) rfl hHeld ?_
        try simp only [zz]
        refine tk 19 rfl (yieldsIf_load_mid (by rfl) _ _ rfl _ _ rfl (e.log.cells) _ (fun _ h=>h.2.2.2.2) Tryz.underlying54 rfl (log_info _)) hHeld ?_
        try simp only [zz]
        refine tq 20 (v:=.pointer (some ⟨wr.heap.size,0,none⟩)) rfl hHeld ?_
        try simp only [zz]
        refine tk 21 (v:=.int .i64 t.tx) rfl (Or.inl ⟨by rfl,?_⟩) hHeld ?_
        ·intro w' hSw
         have hx:=hSw.1
         go_simp<;>rfl
        try simp only [zz]
        refine wpAnyH_ready (rs:=[22]) (by kernel_rfl) (by simp) ?_
        refine AllReadyH.cons rfl (fun K hK=>?_) AllReadyH.nil
        go_simp
        refine (CL _ D0).mono ?_
        rintro r d1 ⟨rfl,hb1⟩
        have D1:Below V.heap.size V d1:=D0.trans (hb1.mono D0.size)
        have N3:Below W.heap.size W d1:=nV.trans (D1.mono nV.size)
        rw [HLT.out]
        refine hK.out _ _ (HS.out _ D1) (fun hHeld=>?_)
        clear hK K hb1
        try simp only [zz]
        refine tq 23 (v:=.bool true) rfl hHeld ?_
        try simp only [zz]
        refine tq 24 (v:=.bool true) rfl hHeld ?_
        try simp only [zz]
        refine wpAnyH_done (by kernel_rfl) ?_ _
        clear hHeld
        have HE:Hid (ROK=false∧Below w.heap.size w d1):=⟨HNK.out HFALSE.out,HEND.out _ N3⟩
        go_wp2
        go_ret
        exact ⟨ret_bool HE.out.1.symm,HE.out.2⟩
   ·have e1:k=e.txs.length:=by omega
    have HE:Hid (ROK=true∧Below w.heap.size w wr):=⟨HY6.out (by rw [e1] at hall;exact hall.out),HEND.out _ hbr⟩
    have hge:¬ (k:Int)<(e.txs.length:Int):=by omega
    clear hall e1
    go_wp2
    go_ret
    exact ⟨ret_bool HE.out.1.symm,HE.out.2⟩
 ·have h6i:(6:Int)<(e.txs.length:Int):=by omega
  have HE:Hid (ROK=false∧Below w.heap.size w W):=⟨HLONG.out h6,HEND.out _ N⟩
  clear h6
  go_wp2
  go_ret
  exact ⟨ret_bool HE.out.1.symm,HE.out.2⟩
end Go.Proofs.YtcoeamamaifoeaaGreatDoor