/- Several texts in one, in their order. -/
import Derived.Test.YtfehemepdoomdaaGreatDoorPCommitx13
import Derived.Test.YtfehemepdoomdaaGreatDoorPCommitx11
import Derived.Test.YtfehemepdoomdaaGreatDoorPCommitx7
import Derived.Test.YtfehemepdoomdaaGreatDoorPCommitx5
import Derived.Test.YtfehemepdoomdaaGreatDoorPCommitx12
import Derived.Test.YtfehemepdoomdaaGreatDoorPCommitx9
import Derived.Test.YtfehemepdoomdaaGreatDoorPCommitx1
set_option maxHeartbeats 8000000
set_option maxRecDepth 100000
namespace Go.Proofs.YtfehemepdoomdaaGreatDoor
open Go.RowKit
theorem nextOk_any (e:EngA) (se:e.shape) (w:World) (re:e.reads w) (hl:e.short 1048576):
  Calls Tryz.prog 94 #[.agg e.cells.toArray] w fun r w'=>r=.returned (.bool (nextB e.v && inB e.next 1 1001))∧Below w.heap.size w w':=by
 have hvl:e.v.log.recs.length=e.log.recs.length:=by simp [EngA.v,LogA.v]
 have HNO:Hid (∀ k,k<e.log.recs.length→nextAt e.v k=false→(nextB e.v && inB e.next 1 1001)=false):=fun k hk h=>by (have:nextB e.v=false:=all_no k (by omega) h;rw [this];rfl)
 have HYES:Hid ((∀ k,k<e.log.recs.length→nextAt e.v k=true)→(nextB e.v && inB e.next 1 1001)=inB e.next 1 1001):=fun h=>by (have:nextB e.v=true:=all_yes (fun k hk=>h k (by omega));rw [this];rfl)
 have HXA:Hid (∀ k,nextAt e.v k=decide ((e.log.recs.getD k zeroR).tx<e.next)):=fun k=>by (show decide (((e.log.recs.map RecA.v).getD k zeroR.v).tx<e.next)=_;rw [recD_v];rfl)
 obtain ⟨RB,hRB⟩:∃ RB,(nextB e.v && inB e.next 1 1001)=RB:=⟨_,rfl⟩
 rw [hRB] at HNO HYES ⊢
 clear hRB hvl
 have hrl:e.log.recs.length≤1048576:=hl.log.len
 obtain ⟨W,hW,b0,hbW,hsW⟩:=boxes1 w e.cells 58
 have HB:Hid (∀ u,Below W.heap.size W u→Box u w.heap.size e.cells 58):=fun u hu=>b0.below hu b0.lt
 have HR:Hid (∀ u,Below W.heap.size W u→e.reads u):=fun u hu=>(re.below hbW).below hu
 have HEND:Hid (∀ u,Below W.heap.size W u→Below w.heap.size w u):=fun u hu=>hbW.trans (hu.mono hbW.size)
 have hw0:w.heap.size<W.heap.size:=by omega
 have N:Below W.heap.size W W:=Below.refl _ _
 clear b0 hsW
 obtain ⟨_,_,p2,_,_,_,_⟩:=eng_parts se (HB.out W N)
 have l0:W.cell? ⟨w.heap.size,138,none⟩=some (.slice e.log.a e.log.recs.length e.log.c):=p2 0 _ rfl
 clear p2 hl re
 go_enter Tryz.func94,Tryz.ntmps94
 go_upto_region 1 with fail
 rw [hW.out]
 clear hW
 go_wp2_with fail
 clear l0
 go_loopw [9] (fun i wr=>∃ k:Nat,k≤e.log.recs.length∧i=.int .i64 (k:Int)∧Hid (∀ j,j<k→nextAt e.v j=true)∧Below W.heap.size W wr) (fun i _=>e.log.recs.length-(intOf i).toNat)
 case atStart=>exact ⟨0,Nat.zero_le _,rfl,fun j hj=>by omega,N⟩
 case round=>
  obtain ⟨k,hk,rfl,hall,hbr⟩:=hrel
  clear N
  have hsr:=hbr.size
  by_cases hlt:k<e.log.recs.length
  ·obtain ⟨b,off,ha,hc⟩:=(HR.out _ hbr).log (by intro e0;rw [e0] at hlt;simp at hlt)
   have hcr:wr.rangeAt b (off+k*15) (e.log.recs.getD k zeroR).cells:=(hc k hlt).1
   have HXK:Hid (_=_):=HXA.out k
   have HXN:Hid (_→_):=HNO.out k hlt
   rw [ha]
   clear hc ha
   generalize e.log.recs.getD k zeroR=z at*
   obtain ⟨ZV,hZV,bZ,hbZ,hsZ⟩:=boxes1 wr [.int .i64 0,.int .i64 0,.int .i64 0,.int .i64 0,.int .i64 0,.bool false,.int .i64 0,.slice none 0 0,.slice none 0 0,.bool false,.int .i64 0,.slice none 0 0,.slice none 0 0,.int .i64 0,.slice none 0 0] 99
   obtain ⟨V,hV,hwS,hsS,HT,_,bS⟩:=rec_out z _ rfl bZ
   have nb:Below wr.heap.size wr V:=hbZ.trans (hwS.below (Nat.le_refl _) (by omega))
   have nV:Below W.heap.size W V:=hbr.trans (nb.mono hbr.size)
   have EV:Hid (ZV.setCells wr.heap.size 0 z.cells.toArray.toList=V):=hV.out
   have x1:=bS.cell 1 _ rfl
   obtain ⟨_,_,_,_,_,p5,_⟩:=eng_parts se (HB.out _ nV)
   have hkl:(k:Int)<(e.log.recs.length:Int):=by omega
   have hk0:(0:Int)≤(k:Int):=by omega
   clear bZ hbZ hsZ hwS hsS hV nb bS
   go_upto_region 4 with (first | (guard_target=wpList _ _ _ (Oper.mk (some 12) _ _ _ _ _::_) _ _;refine wpList_load_mid rfl 99 (.tmp 11) rfl b (off+k*15) rfl (z.cells) _ hcr Tryz.underlying99 rfl (rec_info _) ?_) | (guard_target=wpList _ _ _ (Oper.mk none (Op.store _ (Operand.tmp 4) _) _ _ _ _::_) _ _;refine wpList_store_mid rfl 99 (.tmp 4) (.tmp 12) rfl wr.heap.size 0 z.cells.toArray rfl rfl (by rw [hZV.out];exact HT.out) (by rw [List.size_toArray];exact rec_info _) (rec_one _) ?_) | fail)
   rw [hZV.out,EV.out]
   clear hZV EV HT hcr
   by_cases hx:z.tx<e.next
   ·have hxn:¬ e.next≤z.tx:=by omega
    have HK:Hid (∀ j,j<k+1→nextAt e.v j=true):=fun j hj=>by
     by_cases q:j=k
     ·rw [q,HXK.out];exact decide_eq_true hx
     ·exact hall.out j (by omega)
    clear hx
    go_wp2_with fail
    go_roundw
    case rel=>exact ⟨k+1,by omega,by go_num,HK,nV⟩
    case measure=>simp [intOf];omega
   ·have hxn:e.next≤z.tx:=by omega
    have HE:Hid (RB=false∧Below w.heap.size w V):=⟨HXN.out (by rw [HXK.out];exact decide_eq_false hx),HEND.out _ nV⟩
    clear hx
    go_wp2
    go_ret
    exact ⟨ret_bool HE.out.1.symm,HE.out.2⟩
  ·have e1:k=e.log.recs.length:=by omega
   have HE:Hid (RB=inB e.next 1 1001∧Below w.heap.size w wr):=⟨HYES.out (by rw [e1] at hall;exact hall.out),HEND.out _ hbr⟩
   have hge:¬ (k:Int)<(e.log.recs.length:Int):=by omega
   obtain ⟨_,_,_,_,_,p5,_⟩:=eng_parts se (HB.out _ hbr)
   clear hall e1
   by_cases h1:1≤e.next
   ·by_cases h2:e.next≤1001
    ·have HF:Hid (RB=true):=by rw [Hid,HE.out.1];simp [inB,h1,h2]
     go_wp2
     go_ret
     exact ⟨ret_bool HF.out.symm,HE.out.2⟩
    ·have HF:Hid (RB=false):=by rw [Hid,HE.out.1];simp [inB,h2]
     go_wp2
     go_ret
     exact ⟨ret_bool HF.out.symm,HE.out.2⟩
   ·have HF:Hid (RB=false):=by rw [Hid,HE.out.1];simp [inB,h1]
    go_wp2
    go_ret
    exact ⟨ret_bool HF.out.symm,HE.out.2⟩
theorem lastLsn_any (l:LogA) (tx:Int) (w:World) (hr:l.reads w) (hl:l.recs.length≤1048576):
  Calls Tryz.prog 128 #[.agg l.cells.toArray,.int .i64 tx] w fun r w'=>r=.returned (.int .i64 ((chainOf l.v tx).headD 0))∧Below w.heap.size w w':=by
 obtain ⟨W,hW,b0,hbW,hsW⟩:=boxes1 w l.cells 54
 have r0:W.rangeAt w.heap.size 0 l.cells:=Box.range [] l.cells [] (by simpa using b0)
 have C:=implChain_any l tx W (LogA.reads.below hr hbW) hl
 clear b0 hsW
 go_enter Tryz.func128,Tryz.ntmps128
 go_wp2_with (first | (guard_target=wpList _ _ _ (Oper.mk (some 6) _ _ _ _ _::_) _ _;refine wpList_load_mid rfl 54 (.tmp 2) rfl w.heap.size 0 rfl (l.cells) _ (by rw [hW.out];exact r0) Tryz.underlying54 rfl (log_info _) ?_) | fail)
 rw [hW.out]
 clear hW r0
 refine C.mono ?_
 clear C
 rintro r w1 ⟨a,c,ys,rfl,hy,oy,hb⟩
 have n1:Below w.heap.size w w1:=hbW.trans (hb.mono hbW.size)
 have HY:Hid ((chainOf l.v tx).headD 0=ys.headD 0):=by rw [Hid,hy.out]
 have ry:=oy.reads
 clear oy hy hb hbW
 cases ys with
 | nil=>
  go_wp2
  go_ret
  exact ⟨ret_int HY.out.symm,n1⟩
 | cons y r=>
  obtain ⟨b,off,rfl,hc⟩:=ry (by simp)
  have c0:=hc 0 (by simp)
  simp only [Nat.add_zero,List.getD_cons_zero] at c0
  have HY2:Hid ((chainOf l.v tx).headD 0=y):=by rw [Hid,HY.out];rfl
  have hn0:(((y::r).length:Int) == 0)=false:=beq_eq_false_iff_ne.2 (by simp;omega)
  have hp:(0:Int)<((y::r).length:Int):=by simp only [List.length_cons];omega
  have hpn:0<(y::r).length:=by simp
  clear hc HY ry
  generalize y::r=ys at*
  go_wp2
  go_ret
  exact ⟨ret_int HY2.out.symm,n1⟩
theorem liveFrom_no (tx:Int) (ls:List LiveV):∀ k,(∀ j,j<ls.length→(ls.getD j zeroL).tx≠tx)→liveFrom tx ls k= -1:=by
 induction ls with
 | nil=>intro k _;rfl
 | cons l r ih=>
  intro k h
  have h0:=h 0 (by simp)
  simp only [List.getD_cons_zero] at h0
  rw [liveFrom,if_neg h0,ih (k+1) (fun j hj=>by have:=h (j+1) (by simpa using hj);simpa using this)]
theorem liveFrom_yes (tx:Int) (ls:List LiveV):∀ k j,j<ls.length→(ls.getD j zeroL).tx=tx→0≤liveFrom tx ls k:=by
 induction ls with
 | nil=>intro k j h;simp at h
 | cons l r ih=>
  intro k j hj h
  rw [liveFrom]
  split
  ·omega
  ·rename_i hn
   cases j with
   | zero=>simp only [List.getD_cons_zero] at h;exact absurd h hn
   | succ j=>exact ih (k+1) j (by simpa using hj) (by simpa using h)
theorem isUnderWay_any (a:Option Addr) (c:Nat) (ls:List LiveV) (tx:Int) (w:World) (hr:ReadsL w a ls) (hl:ls.length≤1099511627776):
  Calls Tryz.prog 130 #[.slice a ls.length c,.int .i64 tx] w fun r w'=>r=.returned (.bool (decide (0≤liveOf ls tx)))∧Below w.heap.size w w':=by
 have HY:Hid (∀ k,k<ls.length→(ls.getD k zeroL).tx=tx→decide (0≤liveOf ls tx)=true):=fun k hk h=>decide_eq_true (liveFrom_yes tx ls 0 k hk h)
 have HN:Hid ((∀ k,k<ls.length→(ls.getD k zeroL).tx≠tx)→decide (0≤liveOf ls tx)=false):=fun h=>decide_eq_false (by (unfold liveOf;rw [liveFrom_no tx ls 0 h];omega))
 have HR:Hid (ReadsL w a ls):=hr
 generalize decide (0≤liveOf ls tx)=RB at*
 clear hr
 go_enter Tryz.func130,Tryz.ntmps130
 go_wp2_with fail
 go_loopw [9] (fun i wr=>∃ k:Nat,k≤ls.length∧i=.int .i64 (k:Int)∧Hid (∀ j,j<k→(ls.getD j zeroL).tx≠tx)∧Below w.heap.size w wr) (fun i _=>ls.length-(intOf i).toNat)
 case atStart=>exact ⟨0,Nat.zero_le _,rfl,fun j hj=>by omega,Below.refl _ _⟩
 case round=>
  obtain ⟨k,hk,rfl,hall,hbr⟩:=hrel
  by_cases hlt:k<ls.length
  ·obtain ⟨b,off,rfl,hc⟩:=(HR.out.below hbr) (by intro e0;rw [e0] at hlt;simp at hlt)
   obtain ⟨c0,c1,c2⟩:=hc k hlt
   have HYK:Hid (_→_):=HY.out k hlt
   obtain ⟨t,ht⟩:∃ t,Hid (ls.getD k zeroL=t):=⟨_,rfl⟩
   rw [ht.out] at c0 c1 c2 HYK
   clear hc
   obtain ⟨V,hV,bV,hbV,hsV⟩:=boxes1 wr [.int .i64 t.tx,.int .i64 t.last,.bool t.aborts] 106
   have nV:Below w.heap.size w V:=hbr.trans (hbV.mono hbr.size)
   have x0:=bV.cell 0 _ rfl
   have hkl:(k:Int)<(ls.length:Int):=by omega
   have hk0:(0:Int)≤(k:Int):=by omega
   clear hbV hsV bV
   go_upto_region 4 with fail
   rw [hV.out]
   clear hV c0 c1 c2
   by_cases hx:t.tx=tx
   ·have hxb:(t.tx == tx)=true:=by simp [hx]
    have HE:Hid (RB=true):=HYK.out hx
    clear hx
    go_wp2
    go_ret
    exact ⟨ret_bool HE.out.symm,nV⟩
   ·have hxb:(t.tx == tx)=false:=by simpa using hx
    have HK:Hid (∀ j,j<k+1→(ls.getD j zeroL).tx≠tx):=fun j hj=>by
     by_cases q:j=k
     ·rw [q,ht.out];exact hx
     ·exact hall.out j (by omega)
    clear hx
    go_wp2_with fail
    go_roundw
    case rel=>exact ⟨k+1,by omega,by go_num,HK,nV⟩
    case measure=>simp [intOf];omega
  ·have e1:k=ls.length:=by omega
   have HE:Hid (RB=false):=HN.out (by rw [e1] at hall;exact hall.out)
   have hge:¬ (k:Int)<(ls.length:Int):=by omega
   clear hall e1
   go_wp2
   go_ret
   exact ⟨ret_bool HE.out.symm,hbr⟩
def aheadV (ls:List LiveV) (k:Nat):Int:=if k=0 then 0 else (ls.getD (k-1) zeroL).tx
theorem txsOk_any (e:EngA) (se:e.shape) (w:World) (re:e.reads w) (hl:e.short 1048576) (hlog:okLog e.log.v=true):
  Calls Tryz.prog 95 #[.agg e.cells.toArray] w fun r w'=>r=.returned (.bool (decide (e.txs.length≤6) && txsB e.v))∧Below w.heap.size w w':=by
 have HNO:Hid (∀ k,k<e.txs.length→txAt e.v k=false→(decide (e.txs.length≤6) && txsB e.v)=false):=fun k hk h=>by (have:txsB e.v=false:=all_no k hk h;rw [this,Bool.and_false])
 have HYES:Hid (e.txs.length≤6→(∀ k,k<e.txs.length→txAt e.v k=true)→(decide (e.txs.length≤6) && txsB e.v)=true):=fun h6 h=>by (have:txsB e.v=true:=all_yes h;rw [this,decide_eq_true h6];rfl)
 have HLONG:Hid (¬ e.txs.length≤6→(decide (e.txs.length≤6) && txsB e.v)=false):=fun h=>by (rw [decide_eq_false h];rfl)
 have HTX:Hid (∀ k,txAt e.v k=(inB (e.txs.getD k zeroL).tx 1 (e.next-1) && (!(e.txs.getD k zeroL).aborts && (decide ((e.txs.getD k zeroL).last=lastOf (e.log.recs.map RecA.v) (e.txs.getD k zeroL).tx) && (decide (k=0) || decide ((e.txs.getD (k-1) zeroL).tx<(e.txs.getD k zeroL).tx)))))):=fun k=>rfl
 have HLH:Hid (∀ tx,1≤tx→(chainOf e.log.v tx).headD 0=lastOf (e.log.recs.map RecA.v) tx):=fun tx h=>last_head hlog tx h
 obtain ⟨ROK,hRB⟩:∃ RB,(decide (e.txs.length≤6) && txsB e.v)=RB:=⟨_,rfl⟩
 rw [hRB] at HNO HYES HLONG ⊢
 clear hRB hlog
 have hlt:=hl.txs
 have hrl:e.log.recs.length≤1048576:=hl.log.len
 obtain ⟨W,hW,b0,hbW,hsW⟩:=boxes1 w e.cells 58
 have HB:Hid (∀ u,Below W.heap.size W u→Box u w.heap.size e.cells 58):=fun u hu=>b0.below hu b0.lt
 have HR:Hid (∀ u,Below W.heap.size W u→e.reads u):=fun u hu=>(re.below hbW).below hu
 have HEND:Hid (∀ u,Below W.heap.size W u→Below w.heap.size w u):=fun u hu=>hbW.trans (hu.mono hbW.size)
 have hw0:w.heap.size<W.heap.size:=by omega
 have N:Below W.heap.size W W:=Below.refl _ _
 clear b0 hsW
 obtain ⟨_,_,_,p3,_,_,_⟩:=eng_parts se (HB.out W N)
 clear hl re
 go_enter Tryz.func95,Tryz.ntmps95
 go_upto_region 1 with fail
 rw [hW.out]
 clear hW
 by_cases h6:e.txs.length≤6
 ·have h6i:¬ (6:Int)<(e.txs.length:Int):=by omega
  have HY6:Hid (_→_):=HYES.out h6
  clear HLONG HYES h6
  go_wp2_with fail
  clear p3 h6i
  go_loopw [3,13] (fun ah i wr=>∃ k:Nat,k≤e.txs.length∧i=.int .i64 (k:Int)∧ah=.int .i64 (aheadV e.txs k)∧Hid (∀ j,j<k→txAt e.v j=true)∧Hid (0≤aheadV e.txs k)∧Below W.heap.size W wr) (fun _ i _=>e.txs.length-(intOf i).toNat)
  case atStart=>exact ⟨0,Nat.zero_le _,rfl,rfl,fun j hj=>by omega,by show (0:Int)≤0;omega,N⟩
  case round=>
   obtain ⟨k,hk,rfl,rfl,hall,hah,hbr⟩:=hrel
   clear N
   have hsr:=hbr.size
   by_cases hlt2:k<e.txs.length
   ·obtain ⟨b,off,ha,hc⟩:=(HR.out _ hbr).txs (by intro e0;rw [e0] at hlt2;simp at hlt2)
    obtain ⟨c0,c1,c2⟩:=hc k hlt2
    have HTK:Hid (_=_):=HTX.out k
    have HNK:Hid (_→_):=HNO.out k hlt2
    have HAN:Hid (aheadV e.txs (k+1)=(e.txs.getD k zeroL).tx):=by rw [Hid,aheadV,if_neg (by omega),Nat.add_sub_cancel]
    have HAK:Hid ((k=0∧aheadV e.txs k=0)∨(k≠0∧aheadV e.txs k=(e.txs.getD (k-1) zeroL).tx)):=by
     by_cases q:k=0
     ·exact .inl ⟨q,by rw [aheadV,if_pos q]⟩
     ·exact .inr ⟨q,by rw [aheadV,if_neg q]⟩
    rw [ha]
    clear hc ha
    generalize e.txs.getD k zeroL=t at*
    generalize aheadV e.txs k=ah at*
    obtain ⟨V,hV,bV,hbV,hsV⟩:=boxes1 wr [.int .i64 t.tx,.int .i64 t.last,.bool t.aborts] 106
    have nV:Below W.heap.size W V:=hbr.trans (hbV.mono hbr.size)
    obtain ⟨ab,hab⟩:∃ ab,Hid (t.aborts=ab):=⟨_,rfl⟩
    have HS:Hid (∀ u,Below V.heap.size V u→(u.cell? ⟨wr.heap.size,0,none⟩=some (.int .i64 t.tx)∧u.cell? ⟨wr.heap.size,1,none⟩=some (.int .i64 t.last)∧u.cell? ⟨wr.heap.size,2,none⟩=some (.bool ab)∧u.cell? ⟨w.heap.size,142,none⟩=some (.int .i64 e.next)∧u.rangeAt w.heap.size 138 e.log.cells)):=fun u hu=>by
     have bu:=bV.below hu bV.lt
     obtain ⟨_,_,q2,_,_,q5,_⟩:=eng_parts se (HB.out u (nV.trans (hu.mono nV.size)))
     have z2:=bu.cell 2 _ rfl
     rw [hab.out] at z2
     exact ⟨bu.cell 0 _ rfl,bu.cell 1 _ rfl,z2,q5,q2⟩
    have CL:=fun u (hu:Below V.heap.size V u)=>lastLsn_any e.log t.tx u (HR.out _ (nV.trans (hu.mono nV.size))).log hrl
    have hkl:(k:Int)<(e.txs.length:Int):=by omega
    have hk0:(0:Int)≤(k:Int):=by omega
    have hlV:=bV.lt
    clear bV hbV hsV
    go_upto_region 7 with fail
    rw [hV.out]
    clear hV c0 c1 c2
    have D0:Below V.heap.size V V.drew:=(Below.refl _ _).drew
    have N2:Below W.heap.size W V.drew:=nV.trans (D0.mono nV.size)
    by_cases hA:t.tx≤ah
    ·have HFALSE:Hid (txAt e.v k=false):=by
      rw [Hid,HTK.out]
      rcases HAK.out with ⟨q,h0⟩ | ⟨q,h1⟩
      ·have:inB t.tx 1 (e.next-1)=false:=by unfold inB;exact decide_eq_false (by omega)
       rw [this];rfl
      ·have h2:decide ((e.txs.getD (k-1) zeroL).tx<t.tx)=false:=decide_eq_false (by omega)
       rw [h2,decide_eq_false q];simp
     refine wp_region_held_drew (S:=fun u=>(u.cell? ⟨wr.heap.size,0,none⟩=some (.int .i64 t.tx)∧u.cell? ⟨wr.heap.size,1,none⟩=some (.int .i64 t.last)∧u.cell? ⟨wr.heap.size,2,none⟩=some (.bool ab)∧u.cell? ⟨w.heap.size,142,none⟩=some (.int .i64 e.next)∧u.rangeAt w.heap.size 138 e.log.cells)) (by kernel_rfl) (HS.out _ D0) (fun hHeld=>?_)
     generalize V.drew=d0 at*
     refine tq 0 (v:=.pointer (some ⟨wr.heap.size,0,none⟩)) rfl hHeld ?_
     try simp only [zz]
     refine tk 1 (v:=.int .i64 t.tx) rfl (Or.inl ⟨by rfl,?_⟩) hHeld ?_
     ·intro w' hSw
      have hx:=hSw.1
      go_simp<;>rfl
     try simp only [zz]
     refine tq 2 (v:=.int .i64 ah) rfl hHeld ?_
     try simp only [zz]
     refine tq 3 (v:=.bool true) rfl hHeld ?_
     try simp only [zz]
     refine tq 4 (v:=.bool true) rfl hHeld ?_
     try simp only [zz]
     refine tk 5 (v:=undef) rfl (Or.inr ⟨by rfl,rfl⟩) hHeld ?_
     try simp only [zz]
     refine tk 6 (v:=undef) rfl (Or.inr ⟨by rfl,rfl⟩) hHeld ?_
     try simp only [zz]
     refine tk 7 (v:=undef) rfl (Or.inr ⟨by rfl,rfl⟩) hHeld ?_
     try simp only [zz]
     refine tk 8 (v:=undef) rfl (Or.inr ⟨by rfl,rfl⟩) hHeld ?_
     try simp only [zz]
     refine tk 9 (v:=undef) rfl (Or.inr ⟨by rfl,rfl⟩) hHeld ?_
     try simp only [zz]
     refine tq 10 (v:=.bool true) rfl hHeld ?_
     try simp only [zz]
     refine tq 11 (v:=.bool true) rfl hHeld ?_
     try simp only [zz]
     refine tk 12 (v:=undef) rfl (Or.inr ⟨by rfl,rfl⟩) hHeld ?_
     try simp only [zz]
     refine tk 13 (v:=undef) rfl (Or.inr ⟨by rfl,rfl⟩) hHeld ?_
     try simp only [zz]
     refine tq 14 (v:=.bool true) rfl hHeld ?_
     try simp only [zz]
     refine tq 15 (v:=.bool true) rfl hHeld ?_
     try simp only [zz]
     refine tk 16 (v:=undef) rfl (Or.inr ⟨by rfl,rfl⟩) hHeld ?_
     try simp only [zz]
     refine tk 17 (v:=undef) rfl (Or.inr ⟨by rfl,rfl⟩) hHeld ?_
     try simp only [zz]
     refine tk 18 (v:=undef) rfl (Or.inr ⟨by rfl,rfl⟩) hHeld ?_
     try simp only [zz]
     refine tk 19 (v:=undef) rfl (Or.inr ⟨by rfl,rfl⟩) hHeld ?_
     try simp only [zz]
     refine tk 20 (v:=undef) rfl (Or.inr ⟨by rfl,rfl⟩) hHeld ?_
     try simp only [zz]
     refine tk 21 (v:=undef) rfl (Or.inr ⟨by rfl,rfl⟩) hHeld ?_
     try simp only [zz]
     refine tk 22 (v:=undef) rfl (Or.inr ⟨by rfl,rfl⟩) hHeld ?_
     try simp only [zz]
     refine tk 23 (v:=undef) rfl (Or.inr ⟨by rfl,rfl⟩) hHeld ?_
     try simp only [zz]
     refine tq 24 (v:=.bool true) rfl hHeld ?_
     try simp only [zz]
     refine wpAnyH_done (by kernel_rfl) ?_ _
     clear hHeld
     have HE:Hid (ROK=false∧Below w.heap.size w d0):=⟨HNK.out HFALSE.out,HEND.out _ N2⟩
     go_wp2
     go_ret
     exact ⟨ret_bool HE.out.1.symm,HE.out.2⟩
    ·have hAn:ah<t.tx:=by omega
     have HGE:Hid (0≤t.tx):=by have:=hah.out;rw [Hid];omega
     by_cases hB:e.next≤t.tx
     ·have HFALSE:Hid (txAt e.v k=false):=by
       have:inB t.tx 1 (e.next-1)=false:=by unfold inB;exact decide_eq_false (by omega)
       rw [Hid,HTK.out,this];rfl
      refine wp_region_held_drew (S:=fun u=>(u.cell? ⟨wr.heap.size,0,none⟩=some (.int .i64 t.tx)∧u.cell? ⟨wr.heap.size,1,none⟩=some (.int .i64 t.last)∧u.cell? ⟨wr.heap.size,2,none⟩=some (.bool ab)∧u.cell? ⟨w.heap.size,142,none⟩=some (.int .i64 e.next)∧u.rangeAt w.heap.size 138 e.log.cells)) (by kernel_rfl) (HS.out _ D0) (fun hHeld=>?_)
      generalize V.drew=d0 at*
      refine tq 0 (v:=.pointer (some ⟨wr.heap.size,0,none⟩)) rfl hHeld ?_
      try simp only [zz]
      refine tk 1 (v:=.int .i64 t.tx) rfl (Or.inl ⟨by rfl,?_⟩) hHeld ?_
      ·intro w' hSw
       have hx:=hSw.1
       go_simp<;>rfl
      try simp only [zz]
      refine tq 2 (v:=.int .i64 ah) rfl hHeld ?_
      try simp only [zz]
      refine tq 3 (v:=.bool false) rfl hHeld ?_
      try simp only [zz]
      refine tq 4 (v:=.bool false) rfl hHeld ?_
      try simp only [zz]
      refine tq 5 (v:=.pointer (some ⟨wr.heap.size,0,none⟩)) rfl hHeld ?_
      try simp only [zz]
      refine tk 6 (v:=.int .i64 t.tx) rfl (Or.inl ⟨by rfl,?_⟩) hHeld ?_
      ·intro w' hSw
       have hx:=hSw.1
       go_simp<;>rfl
      try simp only [zz]
      refine tq 7 (v:=.pointer (some ⟨w.heap.size,142,none⟩)) rfl hHeld ?_
      try simp only [zz]
      refine tk 8 (v:=.int .i64 e.next) rfl (Or.inl ⟨by rfl,?_⟩) hHeld ?_
      ·intro w' hSw
       have hx:=hSw.2.2.2.1
       go_simp<;>rfl
      try simp only [zz]
      refine tq 9 (v:=.bool true) rfl hHeld ?_
      try simp only [zz]
      refine tq 10 (v:=.bool true) rfl hHeld ?_
      try simp only [zz]
      refine tq 11 (v:=.bool true) rfl hHeld ?_
      try simp only [zz]
      refine tk 12 (v:=undef) rfl (Or.inr ⟨by rfl,rfl⟩) hHeld ?_
      try simp only [zz]
      refine tk 13 (v:=undef) rfl (Or.inr ⟨by rfl,rfl⟩) hHeld ?_
      try simp only [zz]
      refine tq 14 (v:=.bool true) rfl hHeld ?_
      try simp only [zz]
      refine tq 15 (v:=.bool true) rfl hHeld ?_
      try simp only [zz]
      refine tk 16 (v:=undef) rfl (Or.inr ⟨by rfl,rfl⟩) hHeld ?_
      try simp only [zz]
      refine tk 17 (v:=undef) rfl (Or.inr ⟨by rfl,rfl⟩) hHeld ?_
      try simp only [zz]
      refine tk 18 (v:=undef) rfl (Or.inr ⟨by rfl,rfl⟩) hHeld ?_
      try simp only [zz]
      refine tk 19 (v:=undef) rfl (Or.inr ⟨by rfl,rfl⟩) hHeld ?_
      try simp only [zz]
      refine tk 20 (v:=undef) rfl (Or.inr ⟨by rfl,rfl⟩) hHeld ?_
      try simp only [zz]
      refine tk 21 (v:=undef) rfl (Or.inr ⟨by rfl,rfl⟩) hHeld ?_
      try simp only [zz]
      refine tk 22 (v:=undef) rfl (Or.inr ⟨by rfl,rfl⟩) hHeld ?_
      try simp only [zz]
      refine tk 23 (v:=undef) rfl (Or.inr ⟨by rfl,rfl⟩) hHeld ?_
      try simp only [zz]
      refine tq 24 (v:=.bool true) rfl hHeld ?_
      try simp only [zz]
      refine wpAnyH_done (by kernel_rfl) ?_ _
      clear hHeld
      have HE:Hid (ROK=false∧Below w.heap.size w d0):=⟨HNK.out HFALSE.out,HEND.out _ N2⟩
      go_wp2
      go_ret
      exact ⟨ret_bool HE.out.1.symm,HE.out.2⟩
     ·have hBn:t.tx<e.next:=by omega
      have HIN:Hid (inB t.tx 1 (e.next-1)=true):=by have:=hah.out;rw [Hid];unfold inB;exact decide_eq_true (by omega)
      have HPR:Hid ((decide (k=0) || decide ((e.txs.getD (k-1) zeroL).tx<t.tx))=true):=by
       rcases HAK.out with ⟨q,_⟩ | ⟨q,h1⟩
       ·rw [Hid,decide_eq_true q];rfl
       ·rw [Hid,decide_eq_true (show (e.txs.getD (k-1) zeroL).tx<t.tx by omega),Bool.or_true]
      obtain ⟨lst,HLT⟩:∃ lst,Hid ((chainOf e.log.v t.tx).headD 0=lst):=⟨_,rfl⟩
      have HLE:Hid (lastOf (e.log.recs.map RecA.v) t.tx=lst):=by have:=hah.out;rw [Hid,← HLT.out];exact (HLH.out t.tx (by omega)).symm
      cases ab with
      | true=>
       have HFALSE:Hid (txAt e.v k=false):=by rw [Hid,HTK.out,HIN.out,hab.out];rfl
       refine wp_region_held_drew (S:=fun u=>(u.cell? ⟨wr.heap.size,0,none⟩=some (.int .i64 t.tx)∧u.cell? ⟨wr.heap.size,1,none⟩=some (.int .i64 t.last)∧u.cell? ⟨wr.heap.size,2,none⟩=some (.bool true)∧u.cell? ⟨w.heap.size,142,none⟩=some (.int .i64 e.next)∧u.rangeAt w.heap.size 138 e.log.cells)) (by kernel_rfl) (HS.out _ D0) (fun hHeld=>?_)
       generalize V.drew=d0 at*
       refine tq 0 (v:=.pointer (some ⟨wr.heap.size,0,none⟩)) rfl hHeld ?_
       try simp only [zz]
       refine tk 1 (v:=.int .i64 t.tx) rfl (Or.inl ⟨by rfl,?_⟩) hHeld ?_
       ·intro w' hSw
        have hx:=hSw.1
        go_simp<;>rfl
       try simp only [zz]
       refine tq 2 (v:=.int .i64 ah) rfl hHeld ?_
       try simp only [zz]
       refine tq 3 (v:=.bool false) rfl hHeld ?_
       try simp only [zz]
       refine tq 4 (v:=.bool false) rfl hHeld ?_
       try simp only [zz]
       refine tq 5 (v:=.pointer (some ⟨wr.heap.size,0,none⟩)) rfl hHeld ?_
       try simp only [zz]
       refine tk 6 (v:=.int .i64 t.tx) rfl (Or.inl ⟨by rfl,?_⟩) hHeld ?_
       ·intro w' hSw
        have hx:=hSw.1
        go_simp<;>rfl
       try simp only [zz]
       refine tq 7 (v:=.pointer (some ⟨w.heap.size,142,none⟩)) rfl hHeld ?_
       try simp only [zz]
       refine tk 8 (v:=.int .i64 e.next) rfl (Or.inl ⟨by rfl,?_⟩) hHeld ?_
       ·intro w' hSw
        have hx:=hSw.2.2.2.1
        go_simp<;>rfl
       try simp only [zz]
       refine tq 9 (v:=.bool false) rfl hHeld ?_
       try simp only [zz]
       refine tq 10 (v:=.bool false) rfl hHeld ?_
       try simp only [zz]
       refine tq 11 (v:=.bool false) rfl hHeld ?_
       try simp only [zz]
       refine tq 12 (v:=.pointer (some ⟨wr.heap.size,2,none⟩)) rfl hHeld ?_
       try simp only [zz]
       refine tk 13 (v:=.bool true) rfl (Or.inl ⟨by rfl,?_⟩) hHeld ?_
       ·intro w' hSw
        have hx:=hSw.2.2.1
        go_simp<;>rfl
       try simp only [zz]
       refine tq 14 (v:=.bool true) rfl hHeld ?_
       try simp only [zz]
       refine tq 15 (v:=.bool true) rfl hHeld ?_
       try simp only [zz]
       refine tk 16 (v:=undef) rfl (Or.inr ⟨by rfl,rfl⟩) hHeld ?_
       try simp only [zz]
       refine tk 17 (v:=undef) rfl (Or.inr ⟨by rfl,rfl⟩) hHeld ?_
       try simp only [zz]
       refine tk 18 (v:=undef) rfl (Or.inr ⟨by rfl,rfl⟩) hHeld ?_
       try simp only [zz]
       refine tk 19 (v:=undef) rfl (Or.inr ⟨by rfl,rfl⟩) hHeld ?_
       try simp only [zz]
       refine tk 20 (v:=undef) rfl (Or.inr ⟨by rfl,rfl⟩) hHeld ?_
       try simp only [zz]
       refine tk 21 (v:=undef) rfl (Or.inr ⟨by rfl,rfl⟩) hHeld ?_
       try simp only [zz]
       refine tk 22 (v:=undef) rfl (Or.inr ⟨by rfl,rfl⟩) hHeld ?_
       try simp only [zz]
       refine tk 23 (v:=undef) rfl (Or.inr ⟨by rfl,rfl⟩) hHeld ?_
       try simp only [zz]
       refine tq 24 (v:=.bool true) rfl hHeld ?_
       try simp only [zz]
       refine wpAnyH_done (by kernel_rfl) ?_ _
       clear hHeld
       have HE:Hid (ROK=false∧Below w.heap.size w d0):=⟨HNK.out HFALSE.out,HEND.out _ N2⟩
       go_wp2
       go_ret
       exact ⟨ret_bool HE.out.1.symm,HE.out.2⟩
      | false=>
       by_cases hD:t.last=lst
       ·have hDb:(t.last != lst)=false:=by simp [hD]
        have HTRUE:Hid (∀ j,j<k+1→txAt e.v j=true):=fun j hj=>by
         by_cases q:j=k
         ·rw [q,HTK.out,HIN.out,hab.out,HLE.out,decide_eq_true hD,HPR.out];rfl
         ·exact hall.out j (by omega)
        clear hD
        refine wp_region_held_drew (S:=fun u=>(u.cell? ⟨wr.heap.size,0,none⟩=some (.int .i64 t.tx)∧u.cell? ⟨wr.heap.size,1,none⟩=some (.int .i64 t.last)∧u.cell? ⟨wr.heap.size,2,none⟩=some (.bool false)∧u.cell? ⟨w.heap.size,142,none⟩=some (.int .i64 e.next)∧u.rangeAt w.heap.size 138 e.log.cells)) (by kernel_rfl) (HS.out _ D0) (fun hHeld=>?_)
        generalize V.drew=d0 at*
        refine tq 0 (v:=.pointer (some ⟨wr.heap.size,0,none⟩)) rfl hHeld ?_
        try simp only [zz]
        refine tk 1 (v:=.int .i64 t.tx) rfl (Or.inl ⟨by rfl,?_⟩) hHeld ?_
        ·intro w' hSw
         have hx:=hSw.1
         go_simp<;>rfl
        try simp only [zz]
        refine tq 2 (v:=.int .i64 ah) rfl hHeld ?_
        try simp only [zz]
        refine tq 3 (v:=.bool false) rfl hHeld ?_
        try simp only [zz]
        refine tq 4 (v:=.bool false) rfl hHeld ?_
        try simp only [zz]
        refine tq 5 (v:=.pointer (some ⟨wr.heap.size,0,none⟩)) rfl hHeld ?_
        try simp only [zz]
        refine tk 6 (v:=.int .i64 t.tx) rfl (Or.inl ⟨by rfl,?_⟩) hHeld ?_
        ·intro w' hSw
         have hx:=hSw.1
         go_simp<;>rfl
        try simp only [zz]
        refine tq 7 (v:=.pointer (some ⟨w.heap.size,142,none⟩)) rfl hHeld ?_
        try simp only [zz]
        refine tk 8 (v:=.int .i64 e.next) rfl (Or.inl ⟨by rfl,?_⟩) hHeld ?_
        ·intro w' hSw
         have hx:=hSw.2.2.2.1
         go_simp<;>rfl
        try simp only [zz]
        refine tq 9 (v:=.bool false) rfl hHeld ?_
        try simp only [zz]
        refine tq 10 (v:=.bool false) rfl hHeld ?_
        try simp only [zz]
        refine tq 11 (v:=.bool false) rfl hHeld ?_
        try simp only [zz]
        refine tq 12 (v:=.pointer (some ⟨wr.heap.size,2,none⟩)) rfl hHeld ?_
        try simp only [zz]
        refine tk 13 (v:=.bool false) rfl (Or.inl ⟨by rfl,?_⟩) hHeld ?_
        ·intro w' hSw
         have hx:=hSw.2.2.1
         go_simp<;>rfl
        try simp only [zz]
        refine tq 14 (v:=.bool false) rfl hHeld ?_
        try simp only [zz]
        refine tq 15 (v:=.bool false) rfl hHeld ?_
        try simp only [zz]
        refine tq 16 (v:=.pointer (some ⟨wr.heap.size,1,none⟩)) rfl hHeld ?_
        try simp only [zz]
        refine tk 17 (v:=.int .i64 t.last) rfl (Or.inl ⟨by rfl,?_⟩) hHeld ?_
        ·intro w' hSw
         have hx:=hSw.2.1
         go_simp<;>rfl
        try simp only [zz]
        refine tq 18 (v:=.pointer (some ⟨w.heap.size,138,none⟩)) rfl hHeld ?_
        try simp only [zz]
        refine tk 19 rfl (yieldsIf_load_mid (by rfl) _ _ rfl _ _ rfl (e.log.cells) _ (fun _ h=>h.2.2.2.2) Tryz.underlying54 rfl (log_info _)) hHeld ?_
        try simp only [zz]
        refine tq 20 (v:=.pointer (some ⟨wr.heap.size,0,none⟩)) rfl hHeld ?_
        try simp only [zz]
        refine tk 21 (v:=.int .i64 t.tx) rfl (Or.inl ⟨by rfl,?_⟩) hHeld ?_
        ·intro w' hSw
         have hx:=hSw.1
         go_simp<;>rfl
        try simp only [zz]
        refine wpAnyH_ready (rs:=[22]) (by kernel_rfl) (by simp) ?_
        refine AllReadyH.cons rfl (fun K hK=>?_) AllReadyH.nil
        go_simp
        refine (CL _ D0).mono ?_
        rintro r d1 ⟨rfl,hb1⟩
        have D1:Below V.heap.size V d1:=D0.trans (hb1.mono D0.size)
        have N3:Below W.heap.size W d1:=nV.trans (D1.mono nV.size)
        rw [HLT.out]
        refine hK.out _ _ (HS.out _ D1) (fun hHeld=>?_)
        clear hK K hb1
        try simp only [zz]
        refine tq 23 (v:=.bool false) rfl hHeld ?_
        try simp only [zz]
        refine tq 24 (v:=.bool false) rfl hHeld ?_
        try simp only [zz]
        refine wpAnyH_done (by kernel_rfl) ?_ _
        clear hHeld
        have y0:=(HS.out _ D1).1
        go_wp2_with fail
        go_roundw
        case rel=>exact ⟨k+1,by omega,by go_num,by rw [HAN.out],HTRUE,by rw [Hid,HAN.out];exact HGE.out,N3⟩
        case measure=>simp [intOf];omega
       ·have hDb:(t.last != lst)=true:=by simpa using hD
        have HFALSE:Hid (txAt e.v k=false):=by rw [Hid,HTK.out,HIN.out,hab.out,HLE.out,decide_eq_false hD];rfl
        clear hD
        refine wp_region_held_drew (S:=fun u=>(u.cell? ⟨wr.heap.size,0,none⟩=some (.int .i64 t.tx)∧u.cell? ⟨wr.heap.size,1,none⟩=some (.int .i64 t.last)∧u.cell? ⟨wr.heap.size,2,none⟩=some (.bool false)∧u.cell? ⟨w.heap.size,142,none⟩=some (.int .i64 e.next)∧u.rangeAt w.heap.size 138 e.log.cells)) (by kernel_rfl) (HS.out _ D0) (fun hHeld=>?_)
        generalize V.drew=d0 at*
        refine tq 0 (v:=.pointer (some ⟨wr.heap.size,0,none⟩)) rfl hHeld ?_
        try simp only [zz]
        refine tk 1 (v:=.int .i64 t.tx) rfl (Or.inl ⟨by rfl,?_⟩) hHeld ?_
        ·intro w' hSw
         have hx:=hSw.1
         go_simp<;>rfl
        try simp only [zz]
        refine tq 2 (v:=.int .i64 ah) rfl hHeld ?_
        try simp only [zz]
        refine tq 3 (v:=.bool false) rfl hHeld ?_
        try simp only [zz]
        refine tq 4 (v:=.bool false) rfl hHeld ?_
        try simp only [zz]
        refine tq 5 (v:=.pointer (some ⟨wr.heap.size,0,none⟩)) rfl hHeld ?_
        try simp only [zz]
        refine tk 6 (v:=.int .i64 t.tx) rfl (Or.inl ⟨by rfl,?_⟩) hHeld ?_
        ·intro w' hSw
         have hx:=hSw.1
         go_simp<;>rfl
        try simp only [zz]
        refine tq 7 (v:=.pointer (some ⟨w.heap.size,142,none⟩)) rfl hHeld ?_
        try simp only [zz]
        refine tk 8 (v:=.int .i64 e.next) rfl (Or.inl ⟨by rfl,?_⟩) hHeld ?_
        ·intro w' hSw
         have hx:=hSw.2.2.2.1
         go_simp<;>rfl
        try simp only [zz]
        refine tq 9 (v:=.bool false) rfl hHeld ?_
        try simp only [zz]
        refine tq 10 (v:=.bool false) rfl hHeld ?_
        try simp only [zz]
        refine tq 11 (v:=.bool false) rfl hHeld ?_
        try simp only [zz]
        refine tq 12 (v:=.pointer (some ⟨wr.heap.size,2,none⟩)) rfl hHeld ?_
        try simp only [zz]
        refine tk 13 (v:=.bool false) rfl (Or.inl ⟨by rfl,?_⟩) hHeld ?_
        ·intro w' hSw
         have hx:=hSw.2.2.1
         go_simp<;>rfl
        try simp only [zz]
        refine tq 14 (v:=.bool false) rfl hHeld ?_
        try simp only [zz]
        refine tq 15 (v:=.bool false) rfl hHeld ?_
        try simp only [zz]
        refine tq 16 (v:=.pointer (some ⟨wr.heap.size,1,none⟩)) rfl hHeld ?_
        try simp only [zz]
        refine tk 17 (v:=.int .i64 t.last) rfl (Or.inl ⟨by rfl,?_⟩) hHeld ?_
        ·intro w' hSw
         have hx:=hSw.2.1
         go_simp<;>rfl
        try simp only [zz]
        refine tq 18 (v:=.pointer (some ⟨w.heap.size,138,none⟩)) rfl hHeld ?_
        try simp only [zz]
        refine tk 19 rfl (yieldsIf_load_mid (by rfl) _ _ rfl _ _ rfl (e.log.cells) _ (fun _ h=>h.2.2.2.2) Tryz.underlying54 rfl (log_info _)) hHeld ?_
        try simp only [zz]
        refine tq 20 (v:=.pointer (some ⟨wr.heap.size,0,none⟩)) rfl hHeld ?_
        try simp only [zz]
        refine tk 21 (v:=.int .i64 t.tx) rfl (Or.inl ⟨by rfl,?_⟩) hHeld ?_
        ·intro w' hSw
         have hx:=hSw.1
         go_simp<;>rfl
        try simp only [zz]
        refine wpAnyH_ready (rs:=[22]) (by kernel_rfl) (by simp) ?_
        refine AllReadyH.cons rfl (fun K hK=>?_) AllReadyH.nil
        go_simp
        refine (CL _ D0).mono ?_
        rintro r d1 ⟨rfl,hb1⟩
        have D1:Below V.heap.size V d1:=D0.trans (hb1.mono D0.size)
        have N3:Below W.heap.size W d1:=nV.trans (D1.mono nV.size)
        rw [HLT.out]
        refine hK.out _ _ (HS.out _ D1) (fun hHeld=>?_)
        clear hK K hb1
        try simp only [zz]
        refine tq 23 (v:=.bool true) rfl hHeld ?_
        try simp only [zz]
        refine tq 24 (v:=.bool true) rfl hHeld ?_
        try simp only [zz]
        refine wpAnyH_done (by kernel_rfl) ?_ _
        clear hHeld
        have HE:Hid (ROK=false∧Below w.heap.size w d1):=⟨HNK.out HFALSE.out,HEND.out _ N3⟩
        go_wp2
        go_ret
        exact ⟨ret_bool HE.out.1.symm,HE.out.2⟩
   ·have e1:k=e.txs.length:=by omega
    have HE:Hid (ROK=true∧Below w.heap.size w wr):=⟨HY6.out (by rw [e1] at hall;exact hall.out),HEND.out _ hbr⟩
    have hge:¬ (k:Int)<(e.txs.length:Int):=by omega
    clear hall e1
    go_wp2
    go_ret
    exact ⟨ret_bool HE.out.1.symm,HE.out.2⟩
 ·have h6i:(6:Int)<(e.txs.length:Int):=by omega
  have HE:Hid (ROK=false∧Below w.heap.size w W):=⟨HLONG.out h6,HEND.out _ N⟩
  clear h6
  go_wp2
  go_ret
  exact ⟨ret_bool HE.out.1.symm,HE.out.2⟩
end Go.Proofs.YtfehemepdoomdaaGreatDoor
namespace Go.Proofs.YtfehemepdoomdaaGreatDoor
open Go.RowKit
def partAt (e:EngV) (i:Nat):Bool:=inB (e.holds.getD i zeroH).oid 1 31 && decide (0≤liveOf e.txs (e.holds.getD i zeroH).tx)
theorem hold_no {e:EngV} {k:Nat} (hk:k<e.holds.length) (h:partAt e k=false):holdsB e=false:=by
 refine all_no k hk ?_
 unfold partAt at h
 unfold holdAt
 rw [← Bool.and_assoc,h,Bool.false_and]
theorem hold_yes {e:EngV} (h:∀ k,k<e.holds.length→partAt e k=true):holdsB e=decide ((claimsTo e.holds e.holds.length).length=e.holds.length):=by
 have hh:∀ k,k<e.holds.length→holdAt e k=freshH e.holds k:=fun k hk=>by
  have:=h k hk
  unfold partAt at this
  unfold holdAt
  rw [← Bool.and_assoc,this,Bool.true_and]
 by_cases q:(claimsTo e.holds e.holds.length).length=e.holds.length
 ·rw [decide_eq_true q]
  refine all_yes fun k hk=>?_
  rw [hh k hk]
  exact all_yes fun j hj=>decide_eq_true ((claims_len _ _).1 q k hk j hj)
 ·rw [decide_eq_false q]
  by_cases r:holdsB e=true
  ·exact absurd ((claims_len _ _).2 fun i hi j hj=>by
    have h1:=all_at r i hi
    rw [hh i hi] at h1
    exact of_decide_eq_true (all_at h1 j hj)) q
  ·simpa using r
theorem holdsOk_any (e:EngA) (se:e.shape) (w:World) (re:e.reads w) (hl:e.short 1048576):
  Calls Tryz.prog 96 #[.agg e.cells.toArray] w fun r w'=>r=.returned (.bool (holdsB e.v))∧Below w.heap.size w w':=by
 have HNO:Hid (∀ k,k<e.holds.length→partAt e.v k=false→holdsB e.v=false):=fun k hk h=>hold_no hk h
 have HYES:Hid ((∀ k,k<e.holds.length→partAt e.v k=true)→holdsB e.v=decide ((claimsTo e.holds e.holds.length).length=e.holds.length)):=fun h=>hold_yes h
 have HPA:Hid (∀ k,partAt e.v k=(inB (e.holds.getD k zeroH).oid 1 31 && decide (0≤liveOf e.txs (e.holds.getD k zeroH).tx))):=fun k=>rfl
 obtain ⟨RB,hRB⟩:∃ RB,holdsB e.v=RB:=⟨_,rfl⟩
 rw [hRB] at HNO HYES ⊢
 clear hRB
 have hlt:=hl.txs
 have hlh:=hl.holds
 obtain ⟨W,hW,b0,hbW,hsW⟩:=boxes1 w e.cells 58
 have HB:Hid (∀ u,Below W.heap.size W u→Box u w.heap.size e.cells 58):=fun u hu=>b0.below hu b0.lt
 have HR:Hid (∀ u,Below W.heap.size W u→e.reads u):=fun u hu=>(re.below hbW).below hu
 have HEND:Hid (∀ u,Below W.heap.size W u→Below w.heap.size w u):=fun u hu=>hbW.trans (hu.mono hbW.size)
 have hw0:w.heap.size<W.heap.size:=by omega
 have N:Below W.heap.size W W:=Below.refl _ _
 clear b0 hsW
 obtain ⟨_,_,_,_,p4,_,_⟩:=eng_parts se (HB.out W N)
 clear hl re
 go_enter Tryz.func96,Tryz.ntmps96
 go_upto_region 1 with fail
 rw [hW.out]
 clear hW
 go_wp2_with fail
 clear p4
 go_loopw [8] (fun i wr=>∃ k:Nat,k≤e.holds.length∧i=.int .i64 (k:Int)∧Hid (∀ j,j<k→partAt e.v j=true)∧Below W.heap.size W wr) (fun i _=>e.holds.length-(intOf i).toNat)
 case atStart=>exact ⟨0,Nat.zero_le _,rfl,fun j hj=>by omega,N⟩
 case round=>
  obtain ⟨k,hk,rfl,hall,hbr⟩:=hrel
  clear N
  have hsr:=hbr.size
  by_cases hlt2:k<e.holds.length
  ·obtain ⟨b,off,ha,hc⟩:=(HR.out _ hbr).holds (by intro e0;rw [e0] at hlt2;simp at hlt2)
   obtain ⟨c0,c1⟩:=hc k hlt2
   have HPK:Hid (_=_):=HPA.out k
   have HNK:Hid (_→_):=HNO.out k hlt2
   rw [ha]
   clear hc ha
   generalize e.holds.getD k zeroH=t at*
   obtain ⟨V,hV,bV,hbV,hsV⟩:=boxes1 wr [.int .i64 t.tx,.int .i64 t.oid] 110
   have nV:Below W.heap.size W V:=hbr.trans (hbV.mono hbr.size)
   have x1:=bV.cell 1 _ rfl
   have x0:=bV.cell 0 _ rfl
   obtain ⟨_,_,_,p3,_,_,_⟩:=eng_parts se (HB.out _ nV)
   have C2:=isUnderWay_any e.aT e.cT e.txs t.tx V (HR.out _ nV).txs (by omega)
   have hkl:(k:Int)<(e.holds.length:Int):=by omega
   have hk0:(0:Int)≤(k:Int):=by omega
   clear hbV hsV bV
   go_upto_region 4 with fail
   rw [hV.out]
   clear hV c0 c1
   go_wp2_with fail
   refine (oidOk_any _ _).mono ?_
   rintro r w1 ⟨rfl,rfl⟩
   obtain ⟨bA,hA⟩:∃ bA,Hid (inB t.oid 1 31=bA):=⟨_,rfl⟩
   rw [hA.out]
   cases bA with
   | false=>
    have HE:Hid (RB=false∧Below w.heap.size w w1):=⟨HNK.out (by rw [HPK.out,hA.out];rfl),HEND.out _ nV⟩
    clear C2
    go_wp2
    go_ret
    exact ⟨ret_bool HE.out.1.symm,HE.out.2⟩
   | true=>
    go_wp2_with fail
    refine C2.mono ?_
    clear C2 p3 x0 x1
    rintro r w2 ⟨rfl,hb2⟩
    have n2:Below W.heap.size W w2:=nV.trans (hb2.mono nV.size)
    clear hb2 nV
    obtain ⟨bB,hB⟩:∃ bB,Hid (decide (0≤liveOf e.txs t.tx)=bB):=⟨_,rfl⟩
    rw [hB.out]
    cases bB with
    | false=>
     have HE:Hid (RB=false∧Below w.heap.size w w2):=⟨HNK.out (by rw [HPK.out,hA.out,hB.out];rfl),HEND.out _ n2⟩
     go_wp2
     go_ret
     exact ⟨ret_bool HE.out.1.symm,HE.out.2⟩
    | true=>
     have HK:Hid (∀ j,j<k+1→partAt e.v j=true):=fun j hj=>by
      by_cases q:j=k
      ·rw [q,HPK.out,hA.out,hB.out];rfl
      ·exact hall.out j (by omega)
     go_wp2_with fail
     go_roundw
     case rel=>exact ⟨k+1,by omega,by go_num,HK,n2⟩
     case measure=>simp [intOf];omega
  ·have e1:k=e.holds.length:=by omega
   have HRB:Hid (RB=_):=HYES.out (by rw [e1] at hall;exact hall.out)
   have hge:¬ (k:Int)<(e.holds.length:Int):=by omega
   clear hall e1
   go_upto_region 7 with fail
   have HS:Hid (∀ u,Below wr.heap.size wr u→u.cell? ⟨w.heap.size,141,none⟩=some (.slice e.aH e.holds.length e.cH)):=fun u hu=>by
    obtain ⟨_,_,_,_,q4,_,_⟩:=eng_parts se (HB.out u (hbr.trans (hu.mono hbr.size)))
    exact q4
   have D0:Below wr.heap.size wr wr.drew:=(Below.refl _ _).drew
   have N2:Below W.heap.size W wr.drew:=hbr.trans (D0.mono hbr.size)
   have hle:(claimsTo e.holds e.holds.length).length≤e.holds.length:=claims_len_le _ _
   obtain ⟨bA,hA⟩:∃ bA,Hid ((((claimsTo e.holds e.holds.length).length:Int) == (e.holds.length:Int))=bA):=⟨_,rfl⟩
   have HRA:Hid (RB=bA):=HRB.out.trans (by rw [← hA.out];exact Bool.eq_iff_iff.2 (by rw [decide_eq_true_iff,beq_iff_eq];omega))
   have HCC:Hid (∀ u,Below W.heap.size W u→Calls Tryz.prog 62 #[.slice e.aH e.holds.length e.cH] u fun r w'=>r=.returned (.map (some u.heap.size))∧MapAt w' u.heap.size (claimsTo e.holds e.holds.length)∧Below u.heap.size u w'):=fun u hu=>claimsOf_any e.aH e.cH e.holds u (HR.out _ hu).holds (by omega)
   clear HRB hge HYES HNO HPA
   generalize hcl:claimsTo e.holds e.holds.length=cl at*
   clear hcl
   refine wp_region_held_drew (S:=fun u=>u.cell? ⟨w.heap.size,141,none⟩=some (.slice e.aH e.holds.length e.cH)) (by kernel_rfl) (HS.out _ D0) (fun hHeld=>?_)
   generalize wr.drew=d0 at*
   refine tq 0 (v:=.pointer (some ⟨w.heap.size,141,none⟩)) rfl hHeld ?_
   try simp only [zz]
   refine tk 1 (v:=.slice e.aH e.holds.length e.cH) rfl (Or.inl ⟨by rfl,?_⟩) hHeld ?_
   ·intro w' hSw
    have hx:=hSw
    go_simp<;>rfl
   try simp only [zz]
   refine tq 4 (v:=.pointer (some ⟨w.heap.size,141,none⟩)) rfl hHeld ?_
   try simp only [zz]
   refine tk 5 (v:=.slice e.aH e.holds.length e.cH) rfl (Or.inl ⟨by rfl,?_⟩) hHeld ?_
   ·intro w' hSw
    have hx:=hSw
    go_simp<;>rfl
   try simp only [zz]
   refine tq 6 (v:=.int .i64 (e.holds.length:Int)) rfl hHeld ?_
   try simp only [zz]
   refine wpAnyH_ready (rs:=[2]) (by kernel_rfl) (by simp) ?_
   refine AllReadyH.cons rfl (fun K hK=>?_) AllReadyH.nil
   go_simp
   refine (HCC.out _ N2).mono ?_
   rintro r d1 ⟨rfl,hm1,hb1⟩
   have D1:Below wr.heap.size wr d1:=D0.trans (hb1.mono D0.size)
   have N3:Below W.heap.size W d1:=hbr.trans (D1.mono hbr.size)
   refine hK.out _ _ (HS.out _ D1) (fun hHeld=>?_)
   clear hK K hb1
   try simp only [zz]
   refine wpAnyH_ready (rs:=[3]) (by kernel_rfl) (by simp) ?_
   refine AllReadyH.cons rfl (fun K hK=>?_) AllReadyH.nil
   have hlen:=run_len_c hm1
   go_simp
   refine hK.out _ _ (HS.out _ D1) (fun hHeld=>?_)
   clear hK K 
   try simp only [zz]
   refine tk 7 (v:=.bool bA) rfl (Or.inl ⟨by rfl,?_⟩) hHeld ?_
   ·intro w' hSw
    have hx:=hA.out
    go_simp<;>rfl
   try simp only [zz]
   refine tq 8 (v:=.bool bA) rfl hHeld ?_
   try simp only [zz]
   refine wpAnyH_done (by kernel_rfl) ?_ _
   clear hHeld
   have HE:Hid (RB=bA∧Below w.heap.size w d1):=⟨HRA.out,HEND.out _ N3⟩
   go_wp2
   go_ret
   exact ⟨ret_bool HE.out.1.symm,HE.out.2⟩
theorem implEngineOk_any (e:EngA) (se:e.shape) (w:World) (hg:ErrT w) (re:e.reads w) (hl:e.short 1048576):
  Calls Tryz.prog 58 #[.agg e.cells.toArray] w fun r w'=>r=.returned (.bool (okEng e.v))∧Below w.heap.size w w':=by
 have HOK:Hid (okEng e.v=(okLog e.log.v && (okPool e.poolA.v && (inB e.next 1 1001 && (okTxs e.v && (nextB e.v && (diskB e.v && (seatsB e.v && (!e.down || bareB e.v))))))))):=rfl
 have HTX:Hid (okTxs e.v=(txsB e.v && (holdsB e.v && decide (e.txs.length≤6)))):=rfl
 have HNO:Hid (okPool e.poolA.v=true→∀ k,k<e.seats.length→∃ n:Nat,(e.seats.getD k zeroSt).no=n∧n<8):=fun h k hk=>by
  obtain ⟨n,h1,h2⟩:=seat_no (e:=e.v) h k (by simpa [EngA.v] using hk)
  exact ⟨n,by rw [← h1];show _=(e.v.seats.getD k zeroStV).no;rw [show e.v.seats.getD k zeroStV=(e.seats.getD k zeroSt).v from seatV_at e.seats k];rfl,h2⟩
 have CB:=fun u=>isBare_any e se u
 have CD:=fun u (hu:ErrT u) (hr:e.reads u)=>diskOk_any e se u hu hr hl
 have CS:=fun u (hr:e.reads u) h=>seatsOk_any e se u hr hl h
 have CN:=fun u (hr:e.reads u)=>nextOk_any e se u hr hl
 have CT:=fun u (hr:e.reads u) h=>txsOk_any e se u hr hl h
 have CH:=fun u (hr:e.reads u)=>holdsOk_any e se u hr hl
 have HLP:Hid (e.poolA.short 1099511627776):=PoolA.short_wide hl.pool
 have HLL:Hid (e.log.short 1099511627776):=LogA.short_wide hl.log
 obtain ⟨ROK,hROK⟩:∃ b,okEng e.v=b:=⟨_,rfl⟩
 rw [hROK] at HOK ⊢
 clear hROK
 have HI:=eng_info se
 obtain ⟨W,hW,b0,hbW,hsW⟩:=boxes1 w e.cells 58
 have HB:Hid (∀ u,Below W.heap.size W u→Box u w.heap.size e.cells 58):=fun u hu=>b0.below hu b0.lt
 have HR:Hid (∀ u,Below W.heap.size W u→e.reads u):=fun u hu=>(re.below hbW).below hu
 have HEND:Hid (∀ u,Below W.heap.size W u→Below w.heap.size w u):=fun u hu=>hbW.trans (hu.mono hbW.size)
 have hw0:w.heap.size<W.heap.size:=by omega
 have N:Below W.heap.size W W:=Below.refl _ _
 clear b0 hsW
 have HG:Hid (∀ u,Below W.heap.size W u→ErrT u):=fun u hu=>hg.keep (HEND.out u hu)
 have HPE:Hid (∀ u,Below W.heap.size W u→u.rangeAt w.heap.size 0 e.cells):=fun u hu=>Box.range [] e.cells [] (by simpa using HB.out u hu)
 clear re hl hg
 have p1:=(eng_parts se (HB.out W N)).2.1
 have C1:=implPoolOk_any e.poolA W (HG.out W N) (HR.out W N).pool HLP.out
 go_enter Tryz.func58,Tryz.ntmps58
 go_upto_region 1 with fail
 rw [hW.out]
 clear hW
 go_wp2_with (first | (guard_target=wpList _ _ _ (Oper.mk (some 4) _ _ _ _ _::_) _ _;refine wpList_load_mid rfl 51 (.tmp 3) rfl w.heap.size 136 rfl (e.poolA.cells) _ p1 Tryz.underlying51 rfl (pool_info _) ?_) | fail)
 refine C1.mono ?_
 clear C1 p1
 rintro r w1 ⟨rfl,hb⟩
 replace N:=N.trans (hb.mono N.size)
 clear hb
 obtain ⟨vP,hP⟩:∃ b,Hid (okPool e.poolA.v=b):=⟨_,rfl⟩
 rw [hP.out] at HOK ⊢
 cases vP with
 | false=>
  have HE:Hid (ROK=false∧Below w.heap.size w w1):=⟨by rw [HOK.out];simp,HEND.out _ N⟩
  go_wp2
  go_ret
  exact ⟨ret_bool HE.out.1.symm,HE.out.2⟩
 | true=>
  have p2:=(eng_parts se (HB.out _ N)).2.2.1
  have C2:=implLogOk_any e.log w1 (HG.out _ N) (HR.out _ N).log HLL.out
  go_wp2_with (first | (guard_target=wpList _ _ _ (Oper.mk (some 9) _ _ _ _ _::_) _ _;refine wpList_load_mid_if (by rfl) 54 (.tmp 8) rfl w.heap.size 138 rfl (e.log.cells) _ p2 Tryz.underlying54 rfl (log_info _) ?_) | fail)
  refine C2.mono ?_
  clear C2 p2
  rintro r w2 ⟨rfl,hb⟩
  replace N:=N.trans (hb.mono N.size)
  clear hb
  obtain ⟨vL,hL⟩:∃ b,Hid (okLog e.log.v=b):=⟨_,rfl⟩
  rw [hL.out] at HOK ⊢
  cases vL with
  | false=>
   have HE:Hid (ROK=false∧Below w.heap.size w w2):=⟨by rw [HOK.out];simp,HEND.out _ N⟩
   go_wp2
   go_ret
   exact ⟨ret_bool HE.out.1.symm,HE.out.2⟩
  | true=>
   have p6:=(eng_parts se (HB.out _ N)).2.2.2.2.2.2
   have pe:=HPE.out _ N
   obtain ⟨vD,hD⟩:∃ b,Hid (e.down=b):=⟨_,rfl⟩
   rw [hD.out] at HOK p6
   have HL:Hid (okLog e.log.v=true):=hL.out
   have HP:Hid (okPool e.poolA.v=true):=hP.out
   clear hL hP
   cases vD with
   | false=>
    have HOK2:Hid (ROK=(inB e.next 1 1001 && (okTxs e.v && (nextB e.v && (diskB e.v && seatsB e.v))))):=by rw [Hid,HOK.out];simp
    clear HOK CB
    have C3:=CD w2 (HG.out _ N) (HR.out _ N)
    go_upto_region 3 with fail
    clear p6
    go_wp2_with (first | (guard_target=wpList _ _ _ (Oper.mk (some 22) _ _ _ _ _::_) _ _;refine wpList_load_mid rfl 58 (.tmp 1) rfl w.heap.size 0 rfl (e.cells) _ pe Tryz.underlying58 rfl HI ?_) | fail)
    refine C3.mono ?_
    clear C3 pe
    rintro r x0 ⟨rfl,hb⟩
    replace N:=N.trans (hb.mono N.size)
    clear hb
    obtain ⟨v1,hv1⟩:∃ b,Hid (diskB e.v=b):=⟨_,rfl⟩
    rw [hv1.out]
    cases v1 with
    | false=>
     have HE:Hid (ROK=false∧Below w.heap.size w x0):=⟨by
      rw [HOK2.out,HTX.out]
      have q:=hv1.out
      generalize inB e.next 1 1001=a1 at*
      generalize diskB e.v=a2 at*
      generalize seatsB e.v=a3 at*
      generalize nextB e.v=a4 at*
      generalize decide (e.txs.length≤6)=a5 at*
      generalize txsB e.v=a6 at*
      generalize holdsB e.v=a7 at*
      revert q
      cases a1<;>cases a2<;>cases a3<;>cases a4<;>cases a5<;>cases a6<;>cases a7<;>decide,HEND.out _ N⟩
     go_wp2
     go_ret
     exact ⟨ret_bool HE.out.1.symm,HE.out.2⟩
    | true=>
     have pe:=HPE.out _ N
     have C3:=CS _ (HR.out _ N) (HNO.out HP.out)
     go_wp2_with (first | (guard_target=wpList _ _ _ (Oper.mk (some 25) _ _ _ _ _::_) _ _;refine wpList_load_mid_if (by rfl) 58 (.tmp 1) rfl w.heap.size 0 rfl (e.cells) _ pe Tryz.underlying58 rfl HI ?_) | fail)
     refine C3.mono ?_
     clear C3 pe
     rintro r x1 ⟨rfl,hb⟩
     replace N:=N.trans (hb.mono N.size)
     clear hb
     obtain ⟨v2,hv2⟩:∃ b,Hid (seatsB e.v=b):=⟨_,rfl⟩
     rw [hv2.out]
     cases v2 with
     | false=>
      have HE:Hid (ROK=false∧Below w.heap.size w x1):=⟨by
       rw [HOK2.out,HTX.out]
       have q:=hv2.out
       generalize inB e.next 1 1001=a1 at*
       generalize diskB e.v=a2 at*
       generalize seatsB e.v=a3 at*
       generalize nextB e.v=a4 at*
       generalize decide (e.txs.length≤6)=a5 at*
       generalize txsB e.v=a6 at*
       generalize holdsB e.v=a7 at*
       revert q
       cases a1<;>cases a2<;>cases a3<;>cases a4<;>cases a5<;>cases a6<;>cases a7<;>decide,HEND.out _ N⟩
      go_wp2
      go_ret
      exact ⟨ret_bool HE.out.1.symm,HE.out.2⟩
     | true=>
      have pe:=HPE.out _ N
      have C3:=CN _ (HR.out _ N)
      go_wp2_with (first | (guard_target=wpList _ _ _ (Oper.mk (some 29) _ _ _ _ _::_) _ _;refine wpList_load_mid_if (by rfl) 58 (.tmp 1) rfl w.heap.size 0 rfl (e.cells) _ pe Tryz.underlying58 rfl HI ?_) | fail)
      refine C3.mono ?_
      clear C3 pe
      rintro r x2 ⟨rfl,hb⟩
      replace N:=N.trans (hb.mono N.size)
      clear hb
      obtain ⟨v3,hv3⟩:∃ b,Hid ((nextB e.v && inB e.next 1 1001)=b):=⟨_,rfl⟩
      rw [hv3.out]
      cases v3 with
      | false=>
       have HE:Hid (ROK=false∧Below w.heap.size w x2):=⟨by
        rw [HOK2.out,HTX.out]
        have q:=hv3.out
        generalize inB e.next 1 1001=a1 at*
        generalize diskB e.v=a2 at*
        generalize seatsB e.v=a3 at*
        generalize nextB e.v=a4 at*
        generalize decide (e.txs.length≤6)=a5 at*
        generalize txsB e.v=a6 at*
        generalize holdsB e.v=a7 at*
        revert q
        cases a1<;>cases a2<;>cases a3<;>cases a4<;>cases a5<;>cases a6<;>cases a7<;>decide,HEND.out _ N⟩
       go_wp2
       go_ret
       exact ⟨ret_bool HE.out.1.symm,HE.out.2⟩
      | true=>
       have pe:=HPE.out _ N
       have C3:=CT _ (HR.out _ N) HL.out
       go_wp2_with (first | (guard_target=wpList _ _ _ (Oper.mk (some 33) _ _ _ _ _::_) _ _;refine wpList_load_mid_if (by rfl) 58 (.tmp 1) rfl w.heap.size 0 rfl (e.cells) _ pe Tryz.underlying58 rfl HI ?_) | fail)
       refine C3.mono ?_
       clear C3 pe
       rintro r x3 ⟨rfl,hb⟩
       replace N:=N.trans (hb.mono N.size)
       clear hb
       obtain ⟨v4,hv4⟩:∃ b,Hid ((decide (e.txs.length≤6) && txsB e.v)=b):=⟨_,rfl⟩
       rw [hv4.out]
       cases v4 with
       | false=>
        have HE:Hid (ROK=false∧Below w.heap.size w x3):=⟨by
         rw [HOK2.out,HTX.out]
         have q:=hv4.out
         generalize inB e.next 1 1001=a1 at*
         generalize diskB e.v=a2 at*
         generalize seatsB e.v=a3 at*
         generalize nextB e.v=a4 at*
         generalize decide (e.txs.length≤6)=a5 at*
         generalize txsB e.v=a6 at*
         generalize holdsB e.v=a7 at*
         revert q
         cases a1<;>cases a2<;>cases a3<;>cases a4<;>cases a5<;>cases a6<;>cases a7<;>decide,HEND.out _ N⟩
        go_wp2
        go_ret
        exact ⟨ret_bool HE.out.1.symm,HE.out.2⟩
       | true=>
        have pe:=HPE.out _ N
        have C3:=CH _ (HR.out _ N)
        go_wp2_with (first | (guard_target=wpList _ _ _ (Oper.mk (some 37) _ _ _ _ _::_) _ _;refine wpList_load_mid_if (by rfl) 58 (.tmp 1) rfl w.heap.size 0 rfl (e.cells) _ pe Tryz.underlying58 rfl HI ?_) | fail)
        refine C3.mono ?_
        clear C3 pe
        rintro r x4 ⟨rfl,hb⟩
        replace N:=N.trans (hb.mono N.size)
        clear hb
        obtain ⟨v5,hv5⟩:∃ b,Hid (holdsB e.v=b):=⟨_,rfl⟩
        rw [hv5.out]
        cases v5 with
        | false=>
         have HE:Hid (ROK=false∧Below w.heap.size w x4):=⟨by
          rw [HOK2.out,HTX.out]
          have q:=hv5.out
          generalize inB e.next 1 1001=a1 at*
          generalize diskB e.v=a2 at*
          generalize seatsB e.v=a3 at*
          generalize nextB e.v=a4 at*
          generalize decide (e.txs.length≤6)=a5 at*
          generalize txsB e.v=a6 at*
          generalize holdsB e.v=a7 at*
          revert q
          cases a1<;>cases a2<;>cases a3<;>cases a4<;>cases a5<;>cases a6<;>cases a7<;>decide,HEND.out _ N⟩
         go_wp2
         go_ret
         exact ⟨ret_bool HE.out.1.symm,HE.out.2⟩
        | true=>
         have HE:Hid (ROK=true∧Below w.heap.size w x4):=⟨by
          have q1:=hv1.out
          have q2:=hv2.out
          have q3:=hv3.out
          have q4:=hv4.out
          have q5:=hv5.out
          rw [Bool.and_eq_true] at q3 q4
          rw [HOK2.out,HTX.out,q1,q2,q3.1,q3.2,q4.1,q4.2,q5];rfl,HEND.out _ N⟩
         go_wp2
         go_ret
         exact ⟨ret_bool HE.out.1.symm,HE.out.2⟩
   | true=>
    have C0:=CB w2
    go_wp2_with (first | (guard_target=wpList _ _ _ (Oper.mk (some 17) _ _ _ _ _::_) _ _;refine wpList_load_mid_if (by rfl) 58 (.tmp 1) rfl w.heap.size 0 rfl (e.cells) _ pe Tryz.underlying58 rfl HI ?_) | fail)
    refine C0.mono ?_
    clear C0 CB p6 pe
    rintro r w3 ⟨rfl,hb⟩
    replace N:=N.trans (hb.mono N.size)
    clear hb
    obtain ⟨vB,hB⟩:∃ b,Hid (bareB e.v=b):=⟨_,rfl⟩
    rw [hB.out] at HOK ⊢
    cases vB with
    | false=>
     have HE:Hid (ROK=false∧Below w.heap.size w w3):=⟨by rw [HOK.out];simp,HEND.out _ N⟩
     go_wp2
     go_ret
     exact ⟨ret_bool HE.out.1.symm,HE.out.2⟩
    | true=>
     have HOK2:Hid (ROK=(inB e.next 1 1001 && (okTxs e.v && (nextB e.v && (diskB e.v && seatsB e.v))))):=by rw [Hid,HOK.out];simp
     clear HOK
     have pe:=HPE.out _ N
     have C3:=CD w3 (HG.out _ N) (HR.out _ N)
     go_upto_region 3 with fail
     go_wp2_with (first | (guard_target=wpList _ _ _ (Oper.mk (some 22) _ _ _ _ _::_) _ _;refine wpList_load_mid rfl 58 (.tmp 1) rfl w.heap.size 0 rfl (e.cells) _ pe Tryz.underlying58 rfl HI ?_) | fail)
     refine C3.mono ?_
     clear C3 pe
     rintro r x0 ⟨rfl,hb⟩
     replace N:=N.trans (hb.mono N.size)
     clear hb
     obtain ⟨v1,hv1⟩:∃ b,Hid (diskB e.v=b):=⟨_,rfl⟩
     rw [hv1.out]
     cases v1 with
     | false=>
      have HE:Hid (ROK=false∧Below w.heap.size w x0):=⟨by
       rw [HOK2.out,HTX.out]
       have q:=hv1.out
       generalize inB e.next 1 1001=a1 at*
       generalize diskB e.v=a2 at*
       generalize seatsB e.v=a3 at*
       generalize nextB e.v=a4 at*
       generalize decide (e.txs.length≤6)=a5 at*
       generalize txsB e.v=a6 at*
       generalize holdsB e.v=a7 at*
       revert q
       cases a1<;>cases a2<;>cases a3<;>cases a4<;>cases a5<;>cases a6<;>cases a7<;>decide,HEND.out _ N⟩
      go_wp2
      go_ret
      exact ⟨ret_bool HE.out.1.symm,HE.out.2⟩
     | true=>
      have pe:=HPE.out _ N
      have C3:=CS _ (HR.out _ N) (HNO.out HP.out)
      go_wp2_with (first | (guard_target=wpList _ _ _ (Oper.mk (some 25) _ _ _ _ _::_) _ _;refine wpList_load_mid_if (by rfl) 58 (.tmp 1) rfl w.heap.size 0 rfl (e.cells) _ pe Tryz.underlying58 rfl HI ?_) | fail)
      refine C3.mono ?_
      clear C3 pe
      rintro r x1 ⟨rfl,hb⟩
      replace N:=N.trans (hb.mono N.size)
      clear hb
      obtain ⟨v2,hv2⟩:∃ b,Hid (seatsB e.v=b):=⟨_,rfl⟩
      rw [hv2.out]
      cases v2 with
      | false=>
       have HE:Hid (ROK=false∧Below w.heap.size w x1):=⟨by
        rw [HOK2.out,HTX.out]
        have q:=hv2.out
        generalize inB e.next 1 1001=a1 at*
        generalize diskB e.v=a2 at*
        generalize seatsB e.v=a3 at*
        generalize nextB e.v=a4 at*
        generalize decide (e.txs.length≤6)=a5 at*
        generalize txsB e.v=a6 at*
        generalize holdsB e.v=a7 at*
        revert q
        cases a1<;>cases a2<;>cases a3<;>cases a4<;>cases a5<;>cases a6<;>cases a7<;>decide,HEND.out _ N⟩
       go_wp2
       go_ret
       exact ⟨ret_bool HE.out.1.symm,HE.out.2⟩
      | true=>
       have pe:=HPE.out _ N
       have C3:=CN _ (HR.out _ N)
       go_wp2_with (first | (guard_target=wpList _ _ _ (Oper.mk (some 29) _ _ _ _ _::_) _ _;refine wpList_load_mid_if (by rfl) 58 (.tmp 1) rfl w.heap.size 0 rfl (e.cells) _ pe Tryz.underlying58 rfl HI ?_) | fail)
       refine C3.mono ?_
       clear C3 pe
       rintro r x2 ⟨rfl,hb⟩
       replace N:=N.trans (hb.mono N.size)
       clear hb
       obtain ⟨v3,hv3⟩:∃ b,Hid ((nextB e.v && inB e.next 1 1001)=b):=⟨_,rfl⟩
       rw [hv3.out]
       cases v3 with
       | false=>
        have HE:Hid (ROK=false∧Below w.heap.size w x2):=⟨by
         rw [HOK2.out,HTX.out]
         have q:=hv3.out
         generalize inB e.next 1 1001=a1 at*
         generalize diskB e.v=a2 at*
         generalize seatsB e.v=a3 at*
         generalize nextB e.v=a4 at*
         generalize decide (e.txs.length≤6)=a5 at*
         generalize txsB e.v=a6 at*
         generalize holdsB e.v=a7 at*
         revert q
         cases a1<;>cases a2<;>cases a3<;>cases a4<;>cases a5<;>cases a6<;>cases a7<;>decide,HEND.out _ N⟩
        go_wp2
        go_ret
        exact ⟨ret_bool HE.out.1.symm,HE.out.2⟩
       | true=>
        have pe:=HPE.out _ N
        have C3:=CT _ (HR.out _ N) HL.out
        go_wp2_with (first | (guard_target=wpList _ _ _ (Oper.mk (some 33) _ _ _ _ _::_) _ _;refine wpList_load_mid_if (by rfl) 58 (.tmp 1) rfl w.heap.size 0 rfl (e.cells) _ pe Tryz.underlying58 rfl HI ?_) | fail)
        refine C3.mono ?_
        clear C3 pe
        rintro r x3 ⟨rfl,hb⟩
        replace N:=N.trans (hb.mono N.size)
        clear hb
        obtain ⟨v4,hv4⟩:∃ b,Hid ((decide (e.txs.length≤6) && txsB e.v)=b):=⟨_,rfl⟩
        rw [hv4.out]
        cases v4 with
        | false=>
         have HE:Hid (ROK=false∧Below w.heap.size w x3):=⟨by
          rw [HOK2.out,HTX.out]
          have q:=hv4.out
          generalize inB e.next 1 1001=a1 at*
          generalize diskB e.v=a2 at*
          generalize seatsB e.v=a3 at*
          generalize nextB e.v=a4 at*
          generalize decide (e.txs.length≤6)=a5 at*
          generalize txsB e.v=a6 at*
          generalize holdsB e.v=a7 at*
          revert q
          cases a1<;>cases a2<;>cases a3<;>cases a4<;>cases a5<;>cases a6<;>cases a7<;>decide,HEND.out _ N⟩
         go_wp2
         go_ret
         exact ⟨ret_bool HE.out.1.symm,HE.out.2⟩
        | true=>
         have pe:=HPE.out _ N
         have C3:=CH _ (HR.out _ N)
         go_wp2_with (first | (guard_target=wpList _ _ _ (Oper.mk (some 37) _ _ _ _ _::_) _ _;refine wpList_load_mid_if (by rfl) 58 (.tmp 1) rfl w.heap.size 0 rfl (e.cells) _ pe Tryz.underlying58 rfl HI ?_) | fail)
         refine C3.mono ?_
         clear C3 pe
         rintro r x4 ⟨rfl,hb⟩
         replace N:=N.trans (hb.mono N.size)
         clear hb
         obtain ⟨v5,hv5⟩:∃ b,Hid (holdsB e.v=b):=⟨_,rfl⟩
         rw [hv5.out]
         cases v5 with
         | false=>
          have HE:Hid (ROK=false∧Below w.heap.size w x4):=⟨by
           rw [HOK2.out,HTX.out]
           have q:=hv5.out
           generalize inB e.next 1 1001=a1 at*
           generalize diskB e.v=a2 at*
           generalize seatsB e.v=a3 at*
           generalize nextB e.v=a4 at*
           generalize decide (e.txs.length≤6)=a5 at*
           generalize txsB e.v=a6 at*
           generalize holdsB e.v=a7 at*
           revert q
           cases a1<;>cases a2<;>cases a3<;>cases a4<;>cases a5<;>cases a6<;>cases a7<;>decide,HEND.out _ N⟩
          go_wp2
          go_ret
          exact ⟨ret_bool HE.out.1.symm,HE.out.2⟩
         | true=>
          have HE:Hid (ROK=true∧Below w.heap.size w x4):=⟨by
           have q1:=hv1.out
           have q2:=hv2.out
           have q3:=hv3.out
           have q4:=hv4.out
           have q5:=hv5.out
           rw [Bool.and_eq_true] at q3 q4
           rw [HOK2.out,HTX.out,q1,q2,q3.1,q3.2,q4.1,q4.2,q5];rfl,HEND.out _ N⟩
          go_wp2
          go_ret
          exact ⟨ret_bool HE.out.1.symm,HE.out.2⟩
end Go.Proofs.YtfehemepdoomdaaGreatDoor