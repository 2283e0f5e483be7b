/- Several texts in one, in their order. -/
import Derived.Test.YtjkckhfddgeboaaGreatDoorPGetx14
import Derived.Test.YtjkckhfddgeboaaGreatDoorPGetx11
import Derived.Test.YtjkckhfddgeboaaGreatDoorPGetx7
import Derived.Test.YtjkckhfddgeboaaGreatDoorPGetx5
import Derived.Test.YtjkckhfddgeboaaGreatDoorPGetx13
import Derived.Test.YtjkckhfddgeboaaGreatDoorPGetx9
import Derived.Test.YtjkckhfddgeboaaGreatDoorPGetx1
set_option maxHeartbeats 8000000
set_option maxRecDepth 100000
namespace Go.Proofs.YtjkckhfddgeboaaGreatDoor
open Go.RowKit
theorem Ct (e:qa) (se:e.shape) (w:World) (re:e.reads w) (hl:e.short 1048576):
  Calls Tryz.prog 66 #[.agg e.cells.toArray] w fun r w'=>r=.returned (.bool (yL e.v && inB e.next 1 1001))∧Below w.heap.size w w':=by
 have hvl:e.v.log.recs.length=e.log.recs.length:=by simp [qa.v,qz.v]
 have jP:Hid (∀ k,k<e.log.recs.length→vK e.v k=false→(yL e.v && inB e.next 1 1001)=false):=fun k hk h=>by (have:yL e.v=false:=uW k (by omega) h;rw [this];rfl)
 have Qw:Hid ((∀ k,k<e.log.recs.length→vK e.v k=true)→(yL e.v && inB e.next 1 1001)=inB e.next 1 1001):=fun h=>by (have:yL e.v=true:=vo (fun k hk=>h k (by omega));rw [this];rfl)
 have Ow:Hid (∀ k,vK e.v k=decide ((e.log.recs.getD k qm).tx<e.next)):=fun k=>by (show decide (((e.log.recs.map qg.v).getD k qm.v).tx<e.next)=_;rw [Pn];rfl)
 obtain ⟨RB,Kk⟩:∃ RB,(yL e.v && inB e.next 1 1001)=RB:=⟨_,rfl⟩;rw [Kk] at jP Qw ⊢;clear Kk hvl;have hrl:e.log.recs.length≤1048576:=hl.log.len;obtain ⟨W,hW,b0,hbW,qp⟩:=qx w e.cells 42;have HB:Hid (∀ u,Below W.heap.size W u→Box u w.heap.size e.cells 42):=fun u hu=>b0.below hu b0.lt
 have HR:Hid (∀ u,Below W.heap.size W u→e.reads u):=fun u hu=>(re.below hbW).below hu
 have qR:Hid (∀ u,Below W.heap.size W u→Below w.heap.size w u):=fun u hu=>hbW.trans (hu.mono hbW.size)
 have hw0:w.heap.size<W.heap.size:=by omega
 have N:Below W.heap.size W W:=Below.refl _ _;clear b0 qp;obtain ⟨_,_,p2,_,_,_,_⟩:=qH se (HB.out W N);have l0:W.cell? ⟨w.heap.size,138,none⟩=some (.slice e.log.a e.log.recs.length e.log.c):=p2 0 _ rfl;clear p2 hl re;go_enter Tryz.func66,Tryz.ntmps66;go_upto_region 1 with fail;rw [hW.out];clear hW;go_wp2_with fail;clear l0;go_loopw [9] (fun i wr=>∃ k:Nat,k≤e.log.recs.length∧i=.int .i64 (k:Int)∧Hid (∀ j,j<k→vK e.v j=true)∧Below W.heap.size W wr) (fun i _=>e.log.recs.length-(intOf i).toNat)
 case atStart=>exact ⟨0,Nat.zero_le _,rfl,fun j hj=>by omega,N⟩
 case round=>
  obtain ⟨k,hk,rfl,hall,hbr⟩:=hrel;clear N;have uX:=hbr.size;by_cases hlt:k<e.log.recs.length
  ·obtain ⟨b,off,ha,hc⟩:=(HR.out _ hbr).log (by intro e0;rw [e0] at hlt;simp at hlt);have hcr:wr.rangeAt b (off+k*15) (e.log.recs.getD k qm).cells:=(hc k hlt).1;have Tm:Hid (_=_):=Ow.out k;have Ox:Hid (_→_):=jP.out k hlt;rw [ha];clear hc ha;generalize e.log.recs.getD k qm=z at*
   obtain ⟨ZV,uB,bZ,uY,Xh⟩:=qx wr [.int .i64 0,.int .i64 0,.int .i64 0,.int .i64 0,.int .i64 0,.bool false,.int .i64 0,.slice none 0 0,.slice none 0 0,.bool false,.int .i64 0,.slice none 0 0,.slice none 0 0,.int .i64 0,.slice none 0 0] 189;obtain ⟨V,hV,Kl,Km,HT,_,bS⟩:=Xb z _ rfl bZ;have nb:Below wr.heap.size wr V:=uY.trans (Kl.below (Nat.le_refl _) (by omega));have nV:Below W.heap.size W V:=hbr.trans (nb.mono hbr.size);have EV:Hid (ZV.setCells wr.heap.size 0 z.cells.toArray.toList=V):=hV.out;have x1:=bS.cell 1 _ rfl;obtain ⟨_,_,_,_,_,p5,_⟩:=qH se (HB.out _ nV);have hkl:(k:Int)<(e.log.recs.length:Int):=by omega
   have hk0:(0:Int)≤(k:Int):=by omega
   clear bZ uY Xh Kl Km hV nb bS;go_upto_region 4 with (first | (guard_target=wpList _ _ _ (Oper.mk (some 12) _ _ _ _ _::_) _ _;refine wpList_load_mid rfl 189 (.tmp 11) rfl b (off+k*15) rfl (z.cells) _ hcr Tryz.underlying189 rfl (JZ _) ?_) | (guard_target=wpList _ _ _ (Oper.mk none (Op.store _ (Operand.tmp 4) _) _ _ _ _::_) _ _;refine wpList_store_mid rfl 189 (.tmp 4) (.tmp 12) rfl wr.heap.size 0 z.cells.toArray rfl rfl (by rw [uB.out];exact HT.out) (by rw [List.size_toArray];exact JZ _) (Q3 _) ?_) | fail);rw [uB.out,EV.out];clear uB EV HT hcr;by_cases hx:z.tx<e.next
   ·have Vk:¬ e.next≤z.tx:=by omega
    have HK:Hid (∀ j,j<k+1→vK e.v j=true):=fun j hj=>by
     by_cases q:j=k
     ·rw [q,Tm.out];exact decide_eq_true hx
     ·exact hall.out j (by omega)
    clear hx;go_wp2_with fail;go_roundw
    case rel=>exact ⟨k+1,by omega,by go_num,HK,nV⟩
    case measure=>simp [intOf];omega
   ·have Vk:e.next≤z.tx:=by omega
    have HE:Hid (RB=false∧Below w.heap.size w V):=⟨Ox.out (by rw [Tm.out];exact decide_eq_false hx),qR.out _ nV⟩;clear hx;go_wp2;go_ret;exact ⟨qd HE.out.1.symm,HE.out.2⟩
  ·have e1:k=e.log.recs.length:=by omega
   have HE:Hid (RB=inB e.next 1 1001∧Below w.heap.size w wr):=⟨Qw.out (by rw [e1] at hall;exact hall.out),qR.out _ hbr⟩;have hge:¬ (k:Int)<(e.log.recs.length:Int):=by omega
   obtain ⟨_,_,_,_,_,p5,_⟩:=qH se (HB.out _ hbr);clear hall e1;by_cases h1:1≤e.next
   ·by_cases h2:e.next≤1001
    ·have HF:Hid (RB=true):=by rw [Hid,HE.out.1];simp [inB,h1,h2]
     go_wp2;go_ret;exact ⟨qd HF.out.symm,HE.out.2⟩
    ·have HF:Hid (RB=false):=by rw [Hid,HE.out.1];simp [inB,h2]
     go_wp2;go_ret;exact ⟨qd HF.out.symm,HE.out.2⟩
   ·have HF:Hid (RB=false):=by rw [Hid,HE.out.1];simp [inB,h1]
    go_wp2;go_ret;exact ⟨qd HF.out.symm,HE.out.2⟩
theorem Dz (l:qz) (tx:Int) (w:World) (hr:l.reads w) (hl:l.recs.length≤1048576):
  Calls Tryz.prog 163 #[.agg l.cells.toArray,.int .i64 tx] w fun r w'=>r=.returned (.int .i64 ((chainOf l.v tx).headD 0))∧Below w.heap.size w w':=by
 obtain ⟨W,hW,b0,hbW,qp⟩:=qx w l.cells 38;have r0:W.rangeAt w.heap.size 0 l.cells:=Box.range [] l.cells [] (by simpa using b0);have C:=H5 l tx W (qz.reads.below hr hbW) hl;clear b0 qp;go_enter Tryz.func163,Tryz.ntmps163;go_wp2_with (first | (guard_target=wpList _ _ _ (Oper.mk (some 6) _ _ _ _ _::_) _ _;refine wpList_load_mid rfl 38 (.tmp 2) rfl w.heap.size 0 rfl (l.cells) _ (by rw [hW.out];exact r0) Tryz.underlying38 rfl (xQ _) ?_) | fail);rw [hW.out];clear hW r0;refine C.mono ?_;clear C;rintro r w1 ⟨a,c,ys,rfl,hy,oy,hb⟩;have n1:Below w.heap.size w w1:=hbW.trans (hb.mono hbW.size);have HY:Hid ((chainOf l.v tx).headD 0=ys.headD 0):=by rw [Hid,hy.out]
 have ry:=oy.reads;clear oy hy hb hbW;cases ys with
 | nil=>
  go_wp2;go_ret;exact ⟨ja HY.out.symm,n1⟩
 | cons y r=>
  obtain ⟨b,off,rfl,hc⟩:=ry (by simp);have c0:=hc 0 (by simp);simp only [Nat.add_zero,List.getD_cons_zero] at c0;have dS:Hid ((chainOf l.v tx).headD 0=y):=by rw [Hid,HY.out];rfl
  have hn0:(((y::r).length:Int) == 0)=false:=beq_eq_false_iff_ne.2 (by simp;omega);have hp:(0:Int)<((y::r).length:Int):=by simp only [List.length_cons];omega
  have hpn:0<(y::r).length:=by simp
  clear hc HY ry;generalize y::r=ys at*
  go_wp2;go_ret;exact ⟨ja dS.out.symm,n1⟩
theorem DC (tx:Int) (ls:List qC):∀ k,(∀ j,j<ls.length→(ls.getD j qA).tx≠tx)→wh tx ls k= -1:=by
 induction ls with
 | nil=>intro k _;rfl
 | cons l r ih=>
  intro k h;have h0:=h 0 (by simp);simp only [List.getD_cons_zero] at h0;rw [wh,if_neg h0,ih (k+1) (fun j hj=>by have:=h (j+1) (by simpa using hj);simpa using this)]
theorem Po (tx:Int) (ls:List qC):∀ k j,j<ls.length→(ls.getD j qA).tx=tx→0≤wh tx ls k:=by
 induction ls with
 | nil=>intro k j h;simp at h
 | cons l r ih=>
  intro k j hj h;rw [wh];split
  ·omega
  ·rename_i hn
   cases j with
   | zero=>simp only [List.getD_cons_zero] at h;exact absurd h hn
   | succ j=>exact ih (k+1) j (by simpa using hj) (by simpa using h)
theorem dK (a:Option Addr) (c:Nat) (ls:List qC) (tx:Int) (w:World) (hr:jW w a ls) (hl:ls.length≤1099511627776):
  Calls Tryz.prog 164 #[.slice a ls.length c,.int .i64 tx] w fun r w'=>r=.returned (.bool (decide (0≤wT ls tx)))∧Below w.heap.size w w':=by
 have HY:Hid (∀ k,k<ls.length→(ls.getD k qA).tx=tx→decide (0≤wT ls tx)=true):=fun k hk h=>decide_eq_true (Po tx ls 0 k hk h)
 have HN:Hid ((∀ k,k<ls.length→(ls.getD k qA).tx≠tx)→decide (0≤wT ls tx)=false):=fun h=>decide_eq_false (by (unfold wT;rw [DC tx ls 0 h];omega))
 have HR:Hid (jW w a ls):=hr;generalize decide (0≤wT ls tx)=RB at*
 clear hr;go_enter Tryz.func164,Tryz.ntmps164;go_wp2_with fail;go_loopw [9] (fun i wr=>∃ k:Nat,k≤ls.length∧i=.int .i64 (k:Int)∧Hid (∀ j,j<k→(ls.getD j qA).tx≠tx)∧Below w.heap.size w wr) (fun i _=>ls.length-(intOf i).toNat)
 case atStart=>exact ⟨0,Nat.zero_le _,rfl,fun j hj=>by omega,Below.refl _ _⟩
 case round=>
  obtain ⟨k,hk,rfl,hall,hbr⟩:=hrel;by_cases hlt:k<ls.length
  ·obtain ⟨b,off,rfl,hc⟩:=(HR.out.below hbr) (by intro e0;rw [e0] at hlt;simp at hlt);obtain ⟨c0,c1,c2⟩:=hc k hlt;have HYK:Hid (_→_):=HY.out k hlt;obtain ⟨t,ht⟩:∃ t,Hid (ls.getD k qA=t):=⟨_,rfl⟩;rw [ht.out] at c0 c1 c2 HYK;clear hc;obtain ⟨V,hV,bV,wB,Xu⟩:=qx wr [.int .i64 t.tx,.int .i64 t.last,.bool t.aborts] 118;have nV:Below w.heap.size w V:=hbr.trans (wB.mono hbr.size);have x0:=bV.cell 0 _ rfl;have hkl:(k:Int)<(ls.length:Int):=by omega
   have hk0:(0:Int)≤(k:Int):=by omega
   clear wB Xu bV;go_upto_region 4 with fail;rw [hV.out];clear hV c0 c1 c2;by_cases hx:t.tx=tx
   ·have hxb:(t.tx == tx)=true:=by simp [hx]
    have HE:Hid (RB=true):=HYK.out hx;clear hx;go_wp2;go_ret;exact ⟨qd HE.out.symm,nV⟩
   ·have hxb:(t.tx == tx)=false:=by simpa using hx
    have HK:Hid (∀ j,j<k+1→(ls.getD j qA).tx≠tx):=fun j hj=>by
     by_cases q:j=k
     ·rw [q,ht.out];exact hx
     ·exact hall.out j (by omega)
    clear hx;go_wp2_with fail;go_roundw
    case rel=>exact ⟨k+1,by omega,by go_num,HK,nV⟩
    case measure=>simp [intOf];omega
  ·have e1:k=ls.length:=by omega
   have HE:Hid (RB=false):=HN.out (by rw [e1] at hall;exact hall.out);have hge:¬ (k:Int)<(ls.length:Int):=by omega
   clear hall e1;go_wp2;go_ret;exact ⟨qd HE.out.symm,hbr⟩
def JH (ls:List qC) (k:Nat):Int:=if k=0 then 0 else (ls.getD (k-1) qA).tx
theorem Tn (e:qa) (se:e.shape) (w:World) (re:e.reads w) (hl:e.short 1048576) (WA:kC e.log.v=true):
  Calls Tryz.prog 67 #[.agg e.cells.toArray] w fun r w'=>r=.returned (.bool (decide (e.txs.length≤6) && wV e.v))∧Below w.heap.size w w':=by
 have jP:Hid (∀ k,k<e.txs.length→wU e.v k=false→(decide (e.txs.length≤6) && wV e.v)=false):=fun k hk h=>by (have:wV e.v=false:=uW k hk h;rw [this,Bool.and_false])
 have Qw:Hid (e.txs.length≤6→(∀ k,k<e.txs.length→wU e.v k=true)→(decide (e.txs.length≤6) && wV e.v)=true):=fun h6 h=>by (have:wV e.v=true:=vo h;rw [this,decide_eq_true h6];rfl)
 have Cu:Hid (¬ e.txs.length≤6→(decide (e.txs.length≤6) && wV e.v)=false):=fun h=>by (rw [decide_eq_false h];rfl)
 have KT:Hid (∀ k,wU e.v k=(inB (e.txs.getD k qA).tx 1 (e.next-1) && (!(e.txs.getD k qA).aborts && (decide ((e.txs.getD k qA).last=lastOf (e.log.recs.map qg.v) (e.txs.getD k qA).tx) && (decide (k=0) || decide ((e.txs.getD (k-1) qA).tx<(e.txs.getD k qA).tx)))))):=fun k=>rfl
 have HLH:Hid (∀ tx,1≤tx→(chainOf e.log.v tx).headD 0=lastOf (e.log.recs.map qg.v) tx):=fun tx h=>Tp WA tx h
 obtain ⟨jQ,Kk⟩:∃ RB,(decide (e.txs.length≤6) && wV e.v)=RB:=⟨_,rfl⟩;rw [Kk] at jP Qw Cu ⊢;clear Kk WA;have hlt:=hl.txs;have hrl:e.log.recs.length≤1048576:=hl.log.len;obtain ⟨W,hW,b0,hbW,qp⟩:=qx w e.cells 42;have HB:Hid (∀ u,Below W.heap.size W u→Box u w.heap.size e.cells 42):=fun u hu=>b0.below hu b0.lt
 have HR:Hid (∀ u,Below W.heap.size W u→e.reads u):=fun u hu=>(re.below hbW).below hu
 have qR:Hid (∀ u,Below W.heap.size W u→Below w.heap.size w u):=fun u hu=>hbW.trans (hu.mono hbW.size)
 have hw0:w.heap.size<W.heap.size:=by omega
 have N:Below W.heap.size W W:=Below.refl _ _;clear b0 qp;obtain ⟨_,_,_,p3,_,_,_⟩:=qH se (HB.out W N);clear hl re;go_enter Tryz.func67,Tryz.ntmps67;go_upto_region 1 with fail;rw [hW.out];clear hW;by_cases h6:e.txs.length≤6
 ·have lY:¬ (6:Int)<(e.txs.length:Int):=by omega
  have HY6:Hid (_→_):=Qw.out h6;clear Cu Qw h6;go_wp2_with fail;clear p3 lY;go_loopw [3,13] (fun ah i wr=>∃ k:Nat,k≤e.txs.length∧i=.int .i64 (k:Int)∧ah=.int .i64 (JH e.txs k)∧Hid (∀ j,j<k→wU e.v j=true)∧Hid (0≤JH e.txs k)∧Below W.heap.size W wr) (fun _ i _=>e.txs.length-(intOf i).toNat)
  case atStart=>exact ⟨0,Nat.zero_le _,rfl,rfl,fun j hj=>by omega,by show (0:Int)≤0;omega,N⟩
  case round=>
   obtain ⟨k,hk,rfl,rfl,hall,hah,hbr⟩:=hrel;clear N;have uX:=hbr.size;by_cases hlt2:k<e.txs.length
   ·obtain ⟨b,off,ha,hc⟩:=(HR.out _ hbr).txs (by intro e0;rw [e0] at hlt2;simp at hlt2);obtain ⟨c0,c1,c2⟩:=hc k hlt2;have Qs:Hid (_=_):=KT.out k;have Q8:Hid (_→_):=jP.out k hlt2;have HAN:Hid (JH e.txs (k+1)=(e.txs.getD k qA).tx):=by rw [Hid,JH,if_neg (by omega),Nat.add_sub_cancel]
    have HAK:Hid ((k=0∧JH e.txs k=0)∨(k≠0∧JH e.txs k=(e.txs.getD (k-1) qA).tx)):=by
     by_cases q:k=0
     ·exact .inl ⟨q,by rw [JH,if_pos q]⟩
     ·exact .inr ⟨q,by rw [JH,if_neg q]⟩
    rw [ha];clear hc ha;generalize e.txs.getD k qA=t at*
    generalize JH e.txs k=ah at*
    obtain ⟨V,hV,bV,wB,Xu⟩:=qx wr [.int .i64 t.tx,.int .i64 t.last,.bool t.aborts] 118;have nV:Below W.heap.size W V:=hbr.trans (wB.mono hbr.size);obtain ⟨ab,hab⟩:∃ ab,Hid (t.aborts=ab):=⟨_,rfl⟩;have HS:Hid (∀ u,Below V.heap.size V u→(u.cell? ⟨wr.heap.size,0,none⟩=some (.int .i64 t.tx)∧u.cell? ⟨wr.heap.size,1,none⟩=some (.int .i64 t.last)∧u.cell? ⟨wr.heap.size,2,none⟩=some (.bool ab)∧u.cell? ⟨w.heap.size,142,none⟩=some (.int .i64 e.next)∧u.rangeAt w.heap.size 138 e.log.cells)):=fun u hu=>by
     have bu:=bV.below hu bV.lt;obtain ⟨_,_,q2,_,_,q5,_⟩:=qH se (HB.out u (nV.trans (hu.mono nV.size)));have z2:=bu.cell 2 _ rfl;rw [hab.out] at z2;exact ⟨bu.cell 0 _ rfl,bu.cell 1 _ rfl,z2,q5,q2⟩
    have CL:=fun u (hu:Below V.heap.size V u)=>Dz e.log t.tx u (HR.out _ (nV.trans (hu.mono nV.size))).log hrl
    have hkl:(k:Int)<(e.txs.length:Int):=by omega
    have hk0:(0:Int)≤(k:Int):=by omega
    have FJ:=bV.lt;clear bV wB Xu;go_upto_region 7 with fail;rw [hV.out];clear hV c0 c1 c2;have D0:Below V.heap.size V V.drew:=(Below.refl _ _).drew;have N2:Below W.heap.size W V.drew:=nV.trans (D0.mono nV.size);by_cases hA:t.tx≤ah
    ·have yu:Hid (wU e.v k=false):=by
      rw [Hid,Qs.out];rcases HAK.out with ⟨q,h0⟩ | ⟨q,h1⟩
      ·have:inB t.tx 1 (e.next-1)=false:=by unfold inB;exact decide_eq_false (by omega)
       rw [this];rfl
      ·have h2:decide ((e.txs.getD (k-1) qA).tx<t.tx)=false:=decide_eq_false (by omega);rw [h2,decide_eq_false q];simp
     refine wp_region_held_drew (S:=fun u=>(u.cell? ⟨wr.heap.size,0,none⟩=some (.int .i64 t.tx)∧u.cell? ⟨wr.heap.size,1,none⟩=some (.int .i64 t.last)∧u.cell? ⟨wr.heap.size,2,none⟩=some (.bool ab)∧u.cell? ⟨w.heap.size,142,none⟩=some (.int .i64 e.next)∧u.rangeAt w.heap.size 138 e.log.cells)) (by kernel_rfl) (HS.out _ D0) (fun hHeld=>?_);generalize V.drew=d0 at*
     refine tr 0 (.pointer (some ⟨wr.heap.size,0,none⟩)) ?_;refine tk 1 (v:=.int .i64 t.tx) rfl (Or.inl ⟨by rfl,?_⟩) hHeld ?_
     ·intro w' hSw;have hx:=hSw.1;go_simp<;>rfl
     try simp only [zz]
     refine tr 2 (.int .i64 ah) ?_;refine tr 3 (.bool true) ?_;refine tr 4 (.bool true) ?_;refine Go.Proofs.YtjkckhfddgeboaaGreatDoor.tu 5 ?_;refine Go.Proofs.YtjkckhfddgeboaaGreatDoor.tu 6 ?_;refine Go.Proofs.YtjkckhfddgeboaaGreatDoor.tu 7 ?_;refine Go.Proofs.YtjkckhfddgeboaaGreatDoor.tu 8 ?_;refine Go.Proofs.YtjkckhfddgeboaaGreatDoor.tu 9 ?_;refine tr 10 (.bool true) ?_;refine tr 11 (.bool true) ?_;refine Go.Proofs.YtjkckhfddgeboaaGreatDoor.tu 12 ?_;refine Go.Proofs.YtjkckhfddgeboaaGreatDoor.tu 13 ?_;refine tr 14 (.bool true) ?_;refine tr 15 (.bool true) ?_;refine Go.Proofs.YtjkckhfddgeboaaGreatDoor.tu 16 ?_;refine Go.Proofs.YtjkckhfddgeboaaGreatDoor.tu 17 ?_;refine Go.Proofs.YtjkckhfddgeboaaGreatDoor.tu 18 ?_;refine Go.Proofs.YtjkckhfddgeboaaGreatDoor.tu 19 ?_;refine Go.Proofs.YtjkckhfddgeboaaGreatDoor.tu 20 ?_;refine Go.Proofs.YtjkckhfddgeboaaGreatDoor.tu 21 ?_;refine Go.Proofs.YtjkckhfddgeboaaGreatDoor.tu 22 ?_;refine Go.Proofs.YtjkckhfddgeboaaGreatDoor.tu 23 ?_;refine tr 24 (.bool true) ?_;refine wpAnyH_done (by kernel_rfl) ?_ _;clear hHeld;have HE:Hid (jQ=false∧Below w.heap.size w d0):=⟨Q8.out yu.out,qR.out _ N2⟩;go_wp2;go_ret;exact ⟨qd HE.out.1.symm,HE.out.2⟩
    ·have hAn:ah<t.tx:=by omega
     have HGE:Hid (0≤t.tx):=by have:=hah.out;rw [Hid];omega
     by_cases hB:e.next≤t.tx
     ·have yu:Hid (wU e.v k=false):=by
       have:inB t.tx 1 (e.next-1)=false:=by unfold inB;exact decide_eq_false (by omega)
       rw [Hid,Qs.out,this];rfl
      refine wp_region_held_drew (S:=fun u=>(u.cell? ⟨wr.heap.size,0,none⟩=some (.int .i64 t.tx)∧u.cell? ⟨wr.heap.size,1,none⟩=some (.int .i64 t.last)∧u.cell? ⟨wr.heap.size,2,none⟩=some (.bool ab)∧u.cell? ⟨w.heap.size,142,none⟩=some (.int .i64 e.next)∧u.rangeAt w.heap.size 138 e.log.cells)) (by kernel_rfl) (HS.out _ D0) (fun hHeld=>?_);generalize V.drew=d0 at*
      refine tr 0 (.pointer (some ⟨wr.heap.size,0,none⟩)) ?_;refine tk 1 (v:=.int .i64 t.tx) rfl (Or.inl ⟨by rfl,?_⟩) hHeld ?_
      ·intro w' hSw;have hx:=hSw.1;go_simp<;>rfl
      try simp only [zz]
      refine tr 2 (.int .i64 ah) ?_;refine tr 3 (.bool false) ?_;refine tr 4 (.bool false) ?_;refine tr 5 (.pointer (some ⟨wr.heap.size,0,none⟩)) ?_;refine tk 6 (v:=.int .i64 t.tx) rfl (Or.inl ⟨by rfl,?_⟩) hHeld ?_
      ·intro w' hSw;have hx:=hSw.1;go_simp<;>rfl
      try simp only [zz]
      refine tr 7 (.pointer (some ⟨w.heap.size,142,none⟩)) ?_;refine tk 8 (v:=.int .i64 e.next) rfl (Or.inl ⟨by rfl,?_⟩) hHeld ?_
      ·intro w' hSw;have hx:=hSw.2.2.2.1;go_simp<;>rfl
      try simp only [zz]
      refine tr 9 (.bool true) ?_;refine tr 10 (.bool true) ?_;refine tr 11 (.bool true) ?_;refine Go.Proofs.YtjkckhfddgeboaaGreatDoor.tu 12 ?_;refine Go.Proofs.YtjkckhfddgeboaaGreatDoor.tu 13 ?_;refine tr 14 (.bool true) ?_;refine tr 15 (.bool true) ?_;refine Go.Proofs.YtjkckhfddgeboaaGreatDoor.tu 16 ?_;refine Go.Proofs.YtjkckhfddgeboaaGreatDoor.tu 17 ?_;refine Go.Proofs.YtjkckhfddgeboaaGreatDoor.tu 18 ?_;refine Go.Proofs.YtjkckhfddgeboaaGreatDoor.tu 19 ?_;refine Go.Proofs.YtjkckhfddgeboaaGreatDoor.tu 20 ?_;refine Go.Proofs.YtjkckhfddgeboaaGreatDoor.tu 21 ?_;refine Go.Proofs.YtjkckhfddgeboaaGreatDoor.tu 22 ?_;refine Go.Proofs.YtjkckhfddgeboaaGreatDoor.tu 23 ?_;refine tr 24 (.bool true) ?_;refine wpAnyH_done (by kernel_rfl) ?_ _;clear hHeld;have HE:Hid (jQ=false∧Below w.heap.size w d0):=⟨Q8.out yu.out,qR.out _ N2⟩;go_wp2;go_ret;exact ⟨qd HE.out.1.symm,HE.out.2⟩
     ·have hBn:t.tx<e.next:=by omega
      have Te:Hid (inB t.tx 1 (e.next-1)=true):=by have:=hah.out;rw [Hid];unfold inB;exact decide_eq_true (by omega)
      have HPR:Hid ((decide (k=0) || decide ((e.txs.getD (k-1) qA).tx<t.tx))=true):=by
       rcases HAK.out with ⟨q,_⟩ | ⟨q,h1⟩
       ·rw [Hid,decide_eq_true q];rfl
       ·rw [Hid,decide_eq_true (show (e.txs.getD (k-1) qA).tx<t.tx by omega),Bool.or_true]
      obtain ⟨rz,Oy⟩:∃ rz,Hid ((chainOf e.log.v t.tx).headD 0=rz):=⟨_,rfl⟩;have KR:Hid (lastOf (e.log.recs.map qg.v) t.tx=rz):=by have:=hah.out;rw [Hid,← Oy.out];exact (HLH.out t.tx (by omega)).symm
      cases ab with
      | true=>
       have yu:Hid (wU e.v k=false):=by rw [Hid,Qs.out,Te.out,hab.out];rfl
       refine wp_region_held_drew (S:=fun u=>(u.cell? ⟨wr.heap.size,0,none⟩=some (.int .i64 t.tx)∧u.cell? ⟨wr.heap.size,1,none⟩=some (.int .i64 t.last)∧u.cell? ⟨wr.heap.size,2,none⟩=some (.bool true)∧u.cell? ⟨w.heap.size,142,none⟩=some (.int .i64 e.next)∧u.rangeAt w.heap.size 138 e.log.cells)) (by kernel_rfl) (HS.out _ D0) (fun hHeld=>?_);generalize V.drew=d0 at*
       refine tr 0 (.pointer (some ⟨wr.heap.size,0,none⟩)) ?_;refine tk 1 (v:=.int .i64 t.tx) rfl (Or.inl ⟨by rfl,?_⟩) hHeld ?_
       ·intro w' hSw;have hx:=hSw.1;go_simp<;>rfl
       try simp only [zz]
       refine tr 2 (.int .i64 ah) ?_;refine tr 3 (.bool false) ?_;refine tr 4 (.bool false) ?_;refine tr 5 (.pointer (some ⟨wr.heap.size,0,none⟩)) ?_;refine tk 6 (v:=.int .i64 t.tx) rfl (Or.inl ⟨by rfl,?_⟩) hHeld ?_
       ·intro w' hSw;have hx:=hSw.1;go_simp<;>rfl
       try simp only [zz]
       refine tr 7 (.pointer (some ⟨w.heap.size,142,none⟩)) ?_;refine tk 8 (v:=.int .i64 e.next) rfl (Or.inl ⟨by rfl,?_⟩) hHeld ?_
       ·intro w' hSw;have hx:=hSw.2.2.2.1;go_simp<;>rfl
       try simp only [zz]
       refine tr 9 (.bool false) ?_;refine tr 10 (.bool false) ?_;refine tr 11 (.bool false) ?_;refine tr 12 (.pointer (some ⟨wr.heap.size,2,none⟩)) ?_;refine tk 13 (v:=.bool true) rfl (Or.inl ⟨by rfl,?_⟩) hHeld ?_
       ·intro w' hSw;have hx:=hSw.2.2.1;go_simp<;>rfl
       try simp only [zz]
       refine tr 14 (.bool true) ?_;refine tr 15 (.bool true) ?_;refine Go.Proofs.YtjkckhfddgeboaaGreatDoor.tu 16 ?_;refine Go.Proofs.YtjkckhfddgeboaaGreatDoor.tu 17 ?_;refine Go.Proofs.YtjkckhfddgeboaaGreatDoor.tu 18 ?_;refine Go.Proofs.YtjkckhfddgeboaaGreatDoor.tu 19 ?_;refine Go.Proofs.YtjkckhfddgeboaaGreatDoor.tu 20 ?_;refine Go.Proofs.YtjkckhfddgeboaaGreatDoor.tu 21 ?_;refine Go.Proofs.YtjkckhfddgeboaaGreatDoor.tu 22 ?_;refine Go.Proofs.YtjkckhfddgeboaaGreatDoor.tu 23 ?_;refine tr 24 (.bool true) ?_;refine wpAnyH_done (by kernel_rfl) ?_ _;clear hHeld;have HE:Hid (jQ=false∧Below w.heap.size w d0):=⟨Q8.out yu.out,qR.out _ N2⟩;go_wp2;go_ret;exact ⟨qd HE.out.1.symm,HE.out.2⟩
      | false=>
       by_cases hD:t.last=rz
       ·have hDb:(t.last != rz)=false:=by simp [hD]
        have gV:Hid (∀ j,j<k+1→wU e.v j=true):=fun j hj=>by
         by_cases q:j=k
         ·rw [q,Qs.out,Te.out,hab.out,KR.out,decide_eq_true hD,HPR.out];rfl
         ·exact hall.out j (by omega)
        clear hD;refine wp_region_held_drew (S:=fun u=>(u.cell? ⟨wr.heap.size,0,none⟩=some (.int .i64 t.tx)∧u.cell? ⟨wr.heap.size,1,none⟩=some (.int .i64 t.last)∧u.cell? ⟨wr.heap.size,2,none⟩=some (.bool false)∧u.cell? ⟨w.heap.size,142,none⟩=some (.int .i64 e.next)∧u.rangeAt w.heap.size 138 e.log.cells)) (by kernel_rfl) (HS.out _ D0) (fun hHeld=>?_);generalize V.drew=d0 at*
        refine tr 0 (.pointer (some ⟨wr.heap.size,0,none⟩)) ?_;refine tk 1 (v:=.int .i64 t.tx) rfl (Or.inl ⟨by rfl,?_⟩) hHeld ?_
        ·intro w' hSw;have hx:=hSw.1;go_simp<;>rfl
        try simp only [zz]
        refine tr 2 (.int .i64 ah) ?_;refine tr 3 (.bool false) ?_;refine tr 4 (.bool false) ?_;refine tr 5 (.pointer (some ⟨wr.heap.size,0,none⟩)) ?_;refine tk 6 (v:=.int .i64 t.tx) rfl (Or.inl ⟨by rfl,?_⟩) hHeld ?_
        ·intro w' hSw;have hx:=hSw.1;go_simp<;>rfl
        try simp only [zz]
        refine tr 7 (.pointer (some ⟨w.heap.size,142,none⟩)) ?_;refine tk 8 (v:=.int .i64 e.next) rfl (Or.inl ⟨by rfl,?_⟩) hHeld ?_
        ·intro w' hSw;have hx:=hSw.2.2.2.1;go_simp<;>rfl
        try simp only [zz]
        refine tr 9 (.bool false) ?_;refine tr 10 (.bool false) ?_;refine tr 11 (.bool false) ?_;refine tr 12 (.pointer (some ⟨wr.heap.size,2,none⟩)) ?_;refine tk 13 (v:=.bool false) rfl (Or.inl ⟨by rfl,?_⟩) hHeld ?_
        ·intro w' hSw;have hx:=hSw.2.2.1;go_simp<;>rfl
        try simp only [zz]
        refine tr 14 (.bool false) ?_;refine tr 15 (.bool false) ?_;refine tr 16 (.pointer (some ⟨wr.heap.size,1,none⟩)) ?_;refine tk 17 (v:=.int .i64 t.last) rfl (Or.inl ⟨by rfl,?_⟩) hHeld ?_
        ·intro w' hSw;have hx:=hSw.2.1;go_simp<;>rfl
        try simp only [zz]
        refine tr 18 (.pointer (some ⟨w.heap.size,138,none⟩)) ?_;refine Go.Proofs.YtjkckhfddgeboaaGreatDoor.ts 19 rfl (yieldsIf_load_mid (by rfl) _ _ rfl _ _ rfl (e.log.cells) _ (fun _ h=>h.2.2.2.2) Tryz.underlying38 rfl (xQ _)) ?_;refine tr 20 (.pointer (some ⟨wr.heap.size,0,none⟩)) ?_;refine tk 21 (v:=.int .i64 t.tx) rfl (Or.inl ⟨by rfl,?_⟩) hHeld ?_
        ·intro w' hSw;have hx:=hSw.1;go_simp<;>rfl
        try simp only [zz]
        refine wpAnyH_ready (rs:=[22]) (by kernel_rfl) (by simp) ?_;refine AllReadyH.cons rfl (fun K hK=>?_) AllReadyH.nil;go_simp;refine (CL _ D0).mono ?_;rintro r d1 ⟨rfl,hb1⟩;have D1:Below V.heap.size V d1:=D0.trans (hb1.mono D0.size);have N3:Below W.heap.size W d1:=nV.trans (D1.mono nV.size);rw [Oy.out];refine hK.out _ _ (HS.out _ D1) (fun hHeld=>?_);clear hK K hb1;try simp only [zz]
        refine tr 23 (.bool false) ?_;refine tr 24 (.bool false) ?_;refine wpAnyH_done (by kernel_rfl) ?_ _;clear hHeld;have y0:=(HS.out _ D1).1;go_wp2_with fail;go_roundw
        case rel=>exact ⟨k+1,by omega,by go_num,by rw [HAN.out],gV,by rw [Hid,HAN.out];exact HGE.out,N3⟩
        case measure=>simp [intOf];omega
       ·have hDb:(t.last != rz)=true:=by simpa using hD
        have yu:Hid (wU e.v k=false):=by rw [Hid,Qs.out,Te.out,hab.out,KR.out,decide_eq_false hD];rfl
        clear hD;refine wp_region_held_drew (S:=fun u=>(u.cell? ⟨wr.heap.size,0,none⟩=some (.int .i64 t.tx)∧u.cell? ⟨wr.heap.size,1,none⟩=some (.int .i64 t.last)∧u.cell? ⟨wr.heap.size,2,none⟩=some (.bool false)∧u.cell? ⟨w.heap.size,142,none⟩=some (.int .i64 e.next)∧u.rangeAt w.heap.size 138 e.log.cells)) (by kernel_rfl) (HS.out _ D0) (fun hHeld=>?_);generalize V.drew=d0 at*
        refine tr 0 (.pointer (some ⟨wr.heap.size,0,none⟩)) ?_;refine tk 1 (v:=.int .i64 t.tx) rfl (Or.inl ⟨by rfl,?_⟩) hHeld ?_
        ·intro w' hSw;have hx:=hSw.1;go_simp<;>rfl
        try simp only [zz]
        refine tr 2 (.int .i64 ah) ?_;refine tr 3 (.bool false) ?_;refine tr 4 (.bool false) ?_;refine tr 5 (.pointer (some ⟨wr.heap.size,0,none⟩)) ?_;refine tk 6 (v:=.int .i64 t.tx) rfl (Or.inl ⟨by rfl,?_⟩) hHeld ?_
        ·intro w' hSw;have hx:=hSw.1;go_simp<;>rfl
        try simp only [zz]
        refine tr 7 (.pointer (some ⟨w.heap.size,142,none⟩)) ?_;refine tk 8 (v:=.int .i64 e.next) rfl (Or.inl ⟨by rfl,?_⟩) hHeld ?_
        ·intro w' hSw;have hx:=hSw.2.2.2.1;go_simp<;>rfl
        try simp only [zz]
        refine tr 9 (.bool false) ?_;refine tr 10 (.bool false) ?_;refine tr 11 (.bool false) ?_;refine tr 12 (.pointer (some ⟨wr.heap.size,2,none⟩)) ?_;refine tk 13 (v:=.bool false) rfl (Or.inl ⟨by rfl,?_⟩) hHeld ?_
        ·intro w' hSw;have hx:=hSw.2.2.1;go_simp<;>rfl
        try simp only [zz]
        refine tr 14 (.bool false) ?_;refine tr 15 (.bool false) ?_;refine tr 16 (.pointer (some ⟨wr.heap.size,1,none⟩)) ?_;refine tk 17 (v:=.int .i64 t.last) rfl (Or.inl ⟨by rfl,?_⟩) hHeld ?_
        ·intro w' hSw;have hx:=hSw.2.1;go_simp<;>rfl
        try simp only [zz]
        refine tr 18 (.pointer (some ⟨w.heap.size,138,none⟩)) ?_;refine Go.Proofs.YtjkckhfddgeboaaGreatDoor.ts 19 rfl (yieldsIf_load_mid (by rfl) _ _ rfl _ _ rfl (e.log.cells) _ (fun _ h=>h.2.2.2.2) Tryz.underlying38 rfl (xQ _)) ?_;refine tr 20 (.pointer (some ⟨wr.heap.size,0,none⟩)) ?_;refine tk 21 (v:=.int .i64 t.tx) rfl (Or.inl ⟨by rfl,?_⟩) hHeld ?_
        ·intro w' hSw;have hx:=hSw.1;go_simp<;>rfl
        try simp only [zz]
        refine wpAnyH_ready (rs:=[22]) (by kernel_rfl) (by simp) ?_;refine AllReadyH.cons rfl (fun K hK=>?_) AllReadyH.nil;go_simp;refine (CL _ D0).mono ?_;rintro r d1 ⟨rfl,hb1⟩;have D1:Below V.heap.size V d1:=D0.trans (hb1.mono D0.size);have N3:Below W.heap.size W d1:=nV.trans (D1.mono nV.size);rw [Oy.out];refine hK.out _ _ (HS.out _ D1) (fun hHeld=>?_);clear hK K hb1;try simp only [zz]
        refine tr 23 (.bool true) ?_;refine tr 24 (.bool true) ?_;refine wpAnyH_done (by kernel_rfl) ?_ _;clear hHeld;have HE:Hid (jQ=false∧Below w.heap.size w d1):=⟨Q8.out yu.out,qR.out _ N3⟩;go_wp2;go_ret;exact ⟨qd HE.out.1.symm,HE.out.2⟩
   ·have e1:k=e.txs.length:=by omega
    have HE:Hid (jQ=true∧Below w.heap.size w wr):=⟨HY6.out (by rw [e1] at hall;exact hall.out),qR.out _ hbr⟩;have hge:¬ (k:Int)<(e.txs.length:Int):=by omega
    clear hall e1;go_wp2;go_ret;exact ⟨qd HE.out.1.symm,HE.out.2⟩
 ·have lY:(6:Int)<(e.txs.length:Int):=by omega
  have HE:Hid (jQ=false∧Below w.heap.size w W):=⟨Cu.out h6,qR.out _ N⟩;clear h6;go_wp2;go_ret;exact ⟨qd HE.out.1.symm,HE.out.2⟩
end Go.Proofs.YtjkckhfddgeboaaGreatDoor
namespace Go.Proofs.YtjkckhfddgeboaaGreatDoor
open Go.RowKit
def partAt (e:ji) (i:Nat):Bool:=inB (e.holds.getD i qY).oid 1 31 && decide (0≤wT e.txs (e.holds.getD i qY).tx)
theorem Eh {e:ji} {k:Nat} (hk:k<e.holds.length) (h:partAt e k=false):xI e=false:=by
 refine uW k hk ?_;unfold partAt at h;unfold zi;rw [← Bool.and_assoc,h,Bool.false_and]
theorem iK {e:ji} (h:∀ k,k<e.holds.length→partAt e k=true):xI e=decide ((q9 e.holds e.holds.length).length=e.holds.length):=by
 have hh:∀ k,k<e.holds.length→zi e k=Y8 e.holds k:=fun k hk=>by
  have:=h k hk;unfold partAt at this;unfold zi;rw [← Bool.and_assoc,this,Bool.true_and]
 by_cases q:(q9 e.holds e.holds.length).length=e.holds.length
 ·rw [decide_eq_true q];refine vo fun k hk=>?_
  rw [hh k hk];exact vo fun j hj=>decide_eq_true ((gz _ _).1 q k hk j hj)
 ·rw [decide_eq_false q];by_cases r:xI e=true
  ·exact absurd ((gz _ _).2 fun i hi j hj=>by
    have h1:=gu r i hi;rw [hh i hi] at h1;exact of_decide_eq_true (gu h1 j hj)) q
  ·simpa using r
theorem DF (e:qa) (se:e.shape) (w:World) (re:e.reads w) (hl:e.short 1048576):
  Calls Tryz.prog 68 #[.agg e.cells.toArray] w fun r w'=>r=.returned (.bool (xI e.v))∧Below w.heap.size w w':=by
 have jP:Hid (∀ k,k<e.holds.length→partAt e.v k=false→xI e.v=false):=fun k hk h=>Eh hk h
 have Qw:Hid ((∀ k,k<e.holds.length→partAt e.v k=true)→xI e.v=decide ((q9 e.holds e.holds.length).length=e.holds.length)):=fun h=>iK h
 have HPA:Hid (∀ k,partAt e.v k=(inB (e.holds.getD k qY).oid 1 31 && decide (0≤wT e.txs (e.holds.getD k qY).tx))):=fun k=>rfl
 obtain ⟨RB,Kk⟩:∃ RB,xI e.v=RB:=⟨_,rfl⟩;rw [Kk] at jP Qw ⊢;clear Kk;have hlt:=hl.txs;have hlh:=hl.holds;obtain ⟨W,hW,b0,hbW,qp⟩:=qx w e.cells 42;have HB:Hid (∀ u,Below W.heap.size W u→Box u w.heap.size e.cells 42):=fun u hu=>b0.below hu b0.lt
 have HR:Hid (∀ u,Below W.heap.size W u→e.reads u):=fun u hu=>(re.below hbW).below hu
 have qR:Hid (∀ u,Below W.heap.size W u→Below w.heap.size w u):=fun u hu=>hbW.trans (hu.mono hbW.size)
 have hw0:w.heap.size<W.heap.size:=by omega
 have N:Below W.heap.size W W:=Below.refl _ _;clear b0 qp;obtain ⟨_,_,_,_,p4,_,_⟩:=qH se (HB.out W N);clear hl re;go_enter Tryz.func68,Tryz.ntmps68;go_upto_region 1 with fail;rw [hW.out];clear hW;go_wp2_with fail;clear p4;go_loopw [8] (fun i wr=>∃ k:Nat,k≤e.holds.length∧i=.int .i64 (k:Int)∧Hid (∀ j,j<k→partAt e.v j=true)∧Below W.heap.size W wr) (fun i _=>e.holds.length-(intOf i).toNat)
 case atStart=>exact ⟨0,Nat.zero_le _,rfl,fun j hj=>by omega,N⟩
 case round=>
  obtain ⟨k,hk,rfl,hall,hbr⟩:=hrel;clear N;have uX:=hbr.size;by_cases hlt2:k<e.holds.length
  ·obtain ⟨b,off,ha,hc⟩:=(HR.out _ hbr).holds (by intro e0;rw [e0] at hlt2;simp at hlt2);obtain ⟨c0,c1⟩:=hc k hlt2;have Oz:Hid (_=_):=HPA.out k;have Q8:Hid (_→_):=jP.out k hlt2;rw [ha];clear hc ha;generalize e.holds.getD k qY=t at*
   obtain ⟨V,hV,bV,wB,Xu⟩:=qx wr [.int .i64 t.tx,.int .i64 t.oid] 185;have nV:Below W.heap.size W V:=hbr.trans (wB.mono hbr.size);have x1:=bV.cell 1 _ rfl;have x0:=bV.cell 0 _ rfl;obtain ⟨_,_,_,p3,_,_,_⟩:=qH se (HB.out _ nV);have C2:=dK e.aT e.cT e.txs t.tx V (HR.out _ nV).txs (by omega);have hkl:(k:Int)<(e.holds.length:Int):=by omega
   have hk0:(0:Int)≤(k:Int):=by omega
   clear wB Xu bV;go_upto_region 4 with fail;rw [hV.out];clear hV c0 c1;go_wp2_with fail;refine (Yd _ _).mono ?_;rintro r w1 ⟨rfl,rfl⟩;obtain ⟨bA,hA⟩:∃ bA,Hid (inB t.oid 1 31=bA):=⟨_,rfl⟩;rw [hA.out];cases bA with
   | false=>
    have HE:Hid (RB=false∧Below w.heap.size w w1):=⟨Q8.out (by rw [Oz.out,hA.out];rfl),qR.out _ nV⟩;clear C2;go_wp2;go_ret;exact ⟨qd HE.out.1.symm,HE.out.2⟩
   | true=>
    go_wp2_with fail;refine C2.mono ?_;clear C2 p3 x0 x1;rintro r w2 ⟨rfl,hb2⟩;have n2:Below W.heap.size W w2:=nV.trans (hb2.mono nV.size);clear hb2 nV;obtain ⟨bB,hB⟩:∃ bB,Hid (decide (0≤wT e.txs t.tx)=bB):=⟨_,rfl⟩;rw [hB.out];cases bB with
    | false=>
     have HE:Hid (RB=false∧Below w.heap.size w w2):=⟨Q8.out (by rw [Oz.out,hA.out,hB.out];rfl),qR.out _ n2⟩;go_wp2;go_ret;exact ⟨qd HE.out.1.symm,HE.out.2⟩
    | true=>
     have HK:Hid (∀ j,j<k+1→partAt e.v j=true):=fun j hj=>by
      by_cases q:j=k
      ·rw [q,Oz.out,hA.out,hB.out];rfl
      ·exact hall.out j (by omega)
     go_wp2_with fail;go_roundw
     case rel=>exact ⟨k+1,by omega,by go_num,HK,n2⟩
     case measure=>simp [intOf];omega
  ·have e1:k=e.holds.length:=by omega
   have HRB:Hid (RB=_):=Qw.out (by rw [e1] at hall;exact hall.out);have hge:¬ (k:Int)<(e.holds.length:Int):=by omega
   clear hall e1;go_upto_region 7 with fail;have HS:Hid (∀ u,Below wr.heap.size wr u→u.cell? ⟨w.heap.size,141,none⟩=some (.slice e.aH e.holds.length e.cH)):=fun u hu=>by
    obtain ⟨_,_,_,_,q4,_,_⟩:=qH se (HB.out u (hbr.trans (hu.mono hbr.size)));exact q4
   have D0:Below wr.heap.size wr wr.drew:=(Below.refl _ _).drew;have N2:Below W.heap.size W wr.drew:=hbr.trans (D0.mono hbr.size);have hle:(q9 e.holds e.holds.length).length≤e.holds.length:=ZN _ _;obtain ⟨bA,hA⟩:∃ bA,Hid ((((q9 e.holds e.holds.length).length:Int) == (e.holds.length:Int))=bA):=⟨_,rfl⟩;have Aa:Hid (RB=bA):=HRB.out.trans (by rw [← hA.out];exact Bool.eq_iff_iff.2 (by rw [decide_eq_true_iff,beq_iff_eq];omega));have XA:Hid (∀ u,Below W.heap.size W u→Calls Tryz.prog 165 #[.slice e.aH e.holds.length e.cH] u fun r w'=>r=.returned (.map (some u.heap.size))∧MapAt w' u.heap.size (q9 e.holds e.holds.length)∧Below u.heap.size u w'):=fun u hu=>Vz e.aH e.cH e.holds u (HR.out _ hu).holds (by omega)
   clear HRB hge Qw jP HPA;generalize hcl:q9 e.holds e.holds.length=cl at*
   clear hcl;refine wp_region_held_drew (S:=fun u=>u.cell? ⟨w.heap.size,141,none⟩=some (.slice e.aH e.holds.length e.cH)) (by kernel_rfl) (HS.out _ D0) (fun hHeld=>?_);generalize wr.drew=d0 at*
   refine tr 0 (.pointer (some ⟨w.heap.size,141,none⟩)) ?_;refine tk 1 (v:=.slice e.aH e.holds.length e.cH) rfl (Or.inl ⟨by rfl,?_⟩) hHeld ?_
   ·intro w' hSw;have hx:=hSw;go_simp<;>rfl
   try simp only [zz]
   refine tr 4 (.pointer (some ⟨w.heap.size,141,none⟩)) ?_;refine tk 5 (v:=.slice e.aH e.holds.length e.cH) rfl (Or.inl ⟨by rfl,?_⟩) hHeld ?_
   ·intro w' hSw;have hx:=hSw;go_simp<;>rfl
   try simp only [zz]
   refine tr 6 (.int .i64 (e.holds.length:Int)) ?_;refine wpAnyH_ready (rs:=[2]) (by kernel_rfl) (by simp) ?_;refine AllReadyH.cons rfl (fun K hK=>?_) AllReadyH.nil;go_simp;refine (XA.out _ N2).mono ?_;rintro r d1 ⟨rfl,hm1,hb1⟩;have D1:Below wr.heap.size wr d1:=D0.trans (hb1.mono D0.size);have N3:Below W.heap.size W d1:=hbr.trans (D1.mono hbr.size);refine hK.out _ _ (HS.out _ D1) (fun hHeld=>?_);clear hK K hb1;try simp only [zz]
   refine wpAnyH_ready (rs:=[3]) (by kernel_rfl) (by simp) ?_;refine AllReadyH.cons rfl (fun K hK=>?_) AllReadyH.nil;have hlen:=Tq hm1;go_simp;refine hK.out _ _ (HS.out _ D1) (fun hHeld=>?_);clear hK K ;try simp only [zz]
   refine tk 7 (v:=.bool bA) rfl (Or.inl ⟨by rfl,?_⟩) hHeld ?_
   ·intro w' hSw;have hx:=hA.out;go_simp<;>rfl
   try simp only [zz]
   refine tr 8 (.bool bA) ?_;refine wpAnyH_done (by kernel_rfl) ?_ _;clear hHeld;have HE:Hid (RB=bA∧Below w.heap.size w d1):=⟨Aa.out,qR.out _ N3⟩;go_wp2;go_ret;exact ⟨qd HE.out.1.symm,HE.out.2⟩
theorem Wv (e:qa) (se:e.shape) (w:World) (hg:kK w) (re:e.reads w) (hl:e.short 1048576):
  Calls Tryz.prog 15 #[.agg e.cells.toArray] w fun r w'=>r=.returned (.bool (jA e.v))∧Below w.heap.size w w':=by
 have yA:Hid (jA e.v=(kC e.log.v && (jg e.qB.v && (inB e.next 1 1001 && (zy e.v && (yL e.v && (yP e.v && (xZ e.v && (!e.down || KX e.v))))))))):=rfl;have KT:Hid (zy e.v=(wV e.v && (xI e.v && decide (e.txs.length≤6)))):=rfl;have jP:Hid (jg e.qB.v=true→∀ k,k<e.seats.length→∃ n:Nat,(e.seats.getD k qc).no=n∧n<8):=fun h k hk=>by
  obtain ⟨n,h1,h2⟩:=rC (e:=e.v) h k (by simpa [qa.v] using hk);exact ⟨n,by rw [← h1];show _=(e.v.seats.getD k qD).no;rw [show e.v.seats.getD k qD=(e.seats.getD k qc).v from jZ e.seats k];rfl,h2⟩
 have CB:=fun u=>sH e se u
 have CD:=fun u (hu:kK u) (hr:e.reads u)=>sJ e se u hu hr hl
 have CS:=fun u (hr:e.reads u) h=>PN e se u hr hl h
 have CN:=fun u (hr:e.reads u)=>Ct e se u hr hl
 have CT:=fun u (hr:e.reads u) h=>Tn e se u hr hl h
 have CH:=fun u (hr:e.reads u)=>DF e se u hr hl
 have Ku:Hid (e.qB.short 1099511627776):=qi.qZ hl.pool;have RA:Hid (e.log.short 1099511627776):=qz.qZ hl.log;obtain ⟨jQ,VJ⟩:∃ b,jA e.v=b:=⟨_,rfl⟩;rw [VJ] at yA ⊢;clear VJ;have HI:=kI se;obtain ⟨W,hW,b0,hbW,qp⟩:=qx w e.cells 42;have HB:Hid (∀ u,Below W.heap.size W u→Box u w.heap.size e.cells 42):=fun u hu=>b0.below hu b0.lt
 have HR:Hid (∀ u,Below W.heap.size W u→e.reads u):=fun u hu=>(re.below hbW).below hu
 have qR:Hid (∀ u,Below W.heap.size W u→Below w.heap.size w u):=fun u hu=>hbW.trans (hu.mono hbW.size)
 have hw0:w.heap.size<W.heap.size:=by omega
 have N:Below W.heap.size W W:=Below.refl _ _;clear b0 qp;have HG:Hid (∀ u,Below W.heap.size W u→kK u):=fun u hu=>hg.keep (qR.out u hu)
 have U0:Hid (∀ u,Below W.heap.size W u→u.rangeAt w.heap.size 0 e.cells):=fun u hu=>Box.range [] e.cells [] (by simpa using HB.out u hu)
 clear re hl hg;have p1:=(qH se (HB.out W N)).2.1;have C1:=J2 e.qB W (HG.out W N) (HR.out W N).pool Ku.out;go_enter Tryz.func15,Tryz.ntmps15;go_upto_region 1 with fail;rw [hW.out];clear hW;go_wp2_with (first | (guard_target=wpList _ _ _ (Oper.mk (some 4) _ _ _ _ _::_) _ _;refine wpList_load_mid rfl 35 (.tmp 3) rfl w.heap.size 136 rfl (e.qB.cells) _ p1 Tryz.underlying35 rfl (kY _) ?_) | fail);refine C1.mono ?_;clear C1 p1;rintro r w1 ⟨rfl,hb⟩;replace N:=N.trans (hb.mono N.size);clear hb;obtain ⟨vP,hP⟩:∃ b,Hid (jg e.qB.v=b):=⟨_,rfl⟩;rw [hP.out] at yA ⊢;cases vP with
 | false=>
  have HE:Hid (jQ=false∧Below w.heap.size w w1):=⟨by rw [yA.out];simp,qR.out _ N⟩;go_wp2;go_ret;exact ⟨qd HE.out.1.symm,HE.out.2⟩
 | true=>
  have p2:=(qH se (HB.out _ N)).2.2.1;have C2:=GX e.log w1 (HG.out _ N) (HR.out _ N).log RA.out;go_wp2_with (first | (guard_target=wpList _ _ _ (Oper.mk (some 9) _ _ _ _ _::_) _ _;refine qK (by rfl) 38 (.tmp 8) rfl w.heap.size 138 rfl (e.log.cells) _ p2 Tryz.underlying38 rfl (xQ _) ?_) | fail);refine C2.mono ?_;clear C2 p2;rintro r w2 ⟨rfl,hb⟩;replace N:=N.trans (hb.mono N.size);clear hb;obtain ⟨vL,hL⟩:∃ b,Hid (kC e.log.v=b):=⟨_,rfl⟩;rw [hL.out] at yA ⊢;cases vL with
  | false=>
   have HE:Hid (jQ=false∧Below w.heap.size w w2):=⟨by rw [yA.out];simp,qR.out _ N⟩;go_wp2;go_ret;exact ⟨qd HE.out.1.symm,HE.out.2⟩
  | true=>
   have p6:=(qH se (HB.out _ N)).2.2.2.2.2.2;have pe:=U0.out _ N;obtain ⟨vD,hD⟩:∃ b,Hid (e.down=b):=⟨_,rfl⟩;rw [hD.out] at yA p6;have HL:Hid (kC e.log.v=true):=hL.out;have HP:Hid (jg e.qB.v=true):=hP.out;clear hL hP;cases vD with
   | false=>
    have J7:Hid (jQ=(inB e.next 1 1001 && (zy e.v && (yL e.v && (yP e.v && xZ e.v))))):=by rw [Hid,yA.out];simp
    clear yA CB;have C3:=CD w2 (HG.out _ N) (HR.out _ N);go_upto_region 3 with fail;clear p6;go_wp2_with (first | (guard_target=wpList _ _ _ (Oper.mk (some 22) _ _ _ _ _::_) _ _;refine wpList_load_mid rfl 42 (.tmp 1) rfl w.heap.size 0 rfl (e.cells) _ pe Tryz.underlying42 rfl HI ?_) | fail);refine C3.mono ?_;clear C3 pe;rintro r x0 ⟨rfl,hb⟩;replace N:=N.trans (hb.mono N.size);clear hb;obtain ⟨v1,hv1⟩:∃ b,Hid (yP e.v=b):=⟨_,rfl⟩;rw [hv1.out];cases v1 with
    | false=>
     have HE:Hid (jQ=false∧Below w.heap.size w x0):=⟨by
      rw [J7.out,KT.out];have q:=hv1.out;generalize inB e.next 1 1001=a1 at*
      generalize yP e.v=a2 at*
      generalize xZ e.v=a3 at*
      generalize yL e.v=a4 at*
      generalize decide (e.txs.length≤6)=a5 at*
      generalize wV e.v=a6 at*
      generalize xI e.v=a7 at*
      revert q;cases a1<;>cases a2<;>cases a3<;>cases a4<;>cases a5<;>cases a6<;>cases a7<;>decide,qR.out _ N⟩
     go_wp2;go_ret;exact ⟨qd HE.out.1.symm,HE.out.2⟩
    | true=>
     have pe:=U0.out _ N;have C3:=CS _ (HR.out _ N) (jP.out HP.out);go_wp2_with (first | (guard_target=wpList _ _ _ (Oper.mk (some 25) _ _ _ _ _::_) _ _;refine qK (by rfl) 42 (.tmp 1) rfl w.heap.size 0 rfl (e.cells) _ pe Tryz.underlying42 rfl HI ?_) | fail);refine C3.mono ?_;clear C3 pe;rintro r x1 ⟨rfl,hb⟩;replace N:=N.trans (hb.mono N.size);clear hb;obtain ⟨v2,hv2⟩:∃ b,Hid (xZ e.v=b):=⟨_,rfl⟩;rw [hv2.out];cases v2 with
     | false=>
      have HE:Hid (jQ=false∧Below w.heap.size w x1):=⟨by
       rw [J7.out,KT.out];have q:=hv2.out;generalize inB e.next 1 1001=a1 at*
       generalize yP e.v=a2 at*
       generalize xZ e.v=a3 at*
       generalize yL e.v=a4 at*
       generalize decide (e.txs.length≤6)=a5 at*
       generalize wV e.v=a6 at*
       generalize xI e.v=a7 at*
       revert q;cases a1<;>cases a2<;>cases a3<;>cases a4<;>cases a5<;>cases a6<;>cases a7<;>decide,qR.out _ N⟩
      go_wp2;go_ret;exact ⟨qd HE.out.1.symm,HE.out.2⟩
     | true=>
      have pe:=U0.out _ N;have C3:=CN _ (HR.out _ N);go_wp2_with (first | (guard_target=wpList _ _ _ (Oper.mk (some 29) _ _ _ _ _::_) _ _;refine qK (by rfl) 42 (.tmp 1) rfl w.heap.size 0 rfl (e.cells) _ pe Tryz.underlying42 rfl HI ?_) | fail);refine C3.mono ?_;clear C3 pe;rintro r x2 ⟨rfl,hb⟩;replace N:=N.trans (hb.mono N.size);clear hb;obtain ⟨v3,hv3⟩:∃ b,Hid ((yL e.v && inB e.next 1 1001)=b):=⟨_,rfl⟩;rw [hv3.out];cases v3 with
      | false=>
       have HE:Hid (jQ=false∧Below w.heap.size w x2):=⟨by
        rw [J7.out,KT.out];have q:=hv3.out;generalize inB e.next 1 1001=a1 at*
        generalize yP e.v=a2 at*
        generalize xZ e.v=a3 at*
        generalize yL e.v=a4 at*
        generalize decide (e.txs.length≤6)=a5 at*
        generalize wV e.v=a6 at*
        generalize xI e.v=a7 at*
        revert q;cases a1<;>cases a2<;>cases a3<;>cases a4<;>cases a5<;>cases a6<;>cases a7<;>decide,qR.out _ N⟩
       go_wp2;go_ret;exact ⟨qd HE.out.1.symm,HE.out.2⟩
      | true=>
       have pe:=U0.out _ N;have C3:=CT _ (HR.out _ N) HL.out;go_wp2_with (first | (guard_target=wpList _ _ _ (Oper.mk (some 33) _ _ _ _ _::_) _ _;refine qK (by rfl) 42 (.tmp 1) rfl w.heap.size 0 rfl (e.cells) _ pe Tryz.underlying42 rfl HI ?_) | fail);refine C3.mono ?_;clear C3 pe;rintro r x3 ⟨rfl,hb⟩;replace N:=N.trans (hb.mono N.size);clear hb;obtain ⟨v4,hv4⟩:∃ b,Hid ((decide (e.txs.length≤6) && wV e.v)=b):=⟨_,rfl⟩;rw [hv4.out];cases v4 with
       | false=>
        have HE:Hid (jQ=false∧Below w.heap.size w x3):=⟨by
         rw [J7.out,KT.out];have q:=hv4.out;generalize inB e.next 1 1001=a1 at*
         generalize yP e.v=a2 at*
         generalize xZ e.v=a3 at*
         generalize yL e.v=a4 at*
         generalize decide (e.txs.length≤6)=a5 at*
         generalize wV e.v=a6 at*
         generalize xI e.v=a7 at*
         revert q;cases a1<;>cases a2<;>cases a3<;>cases a4<;>cases a5<;>cases a6<;>cases a7<;>decide,qR.out _ N⟩
        go_wp2;go_ret;exact ⟨qd HE.out.1.symm,HE.out.2⟩
       | true=>
        have pe:=U0.out _ N;have C3:=CH _ (HR.out _ N);go_wp2_with (first | (guard_target=wpList _ _ _ (Oper.mk (some 37) _ _ _ _ _::_) _ _;refine qK (by rfl) 42 (.tmp 1) rfl w.heap.size 0 rfl (e.cells) _ pe Tryz.underlying42 rfl HI ?_) | fail);refine C3.mono ?_;clear C3 pe;rintro r x4 ⟨rfl,hb⟩;replace N:=N.trans (hb.mono N.size);clear hb;obtain ⟨v5,hv5⟩:∃ b,Hid (xI e.v=b):=⟨_,rfl⟩;rw [hv5.out];cases v5 with
        | false=>
         have HE:Hid (jQ=false∧Below w.heap.size w x4):=⟨by
          rw [J7.out,KT.out];have q:=hv5.out;generalize inB e.next 1 1001=a1 at*
          generalize yP e.v=a2 at*
          generalize xZ e.v=a3 at*
          generalize yL e.v=a4 at*
          generalize decide (e.txs.length≤6)=a5 at*
          generalize wV e.v=a6 at*
          generalize xI e.v=a7 at*
          revert q;cases a1<;>cases a2<;>cases a3<;>cases a4<;>cases a5<;>cases a6<;>cases a7<;>decide,qR.out _ N⟩
         go_wp2;go_ret;exact ⟨qd HE.out.1.symm,HE.out.2⟩
        | true=>
         have HE:Hid (jQ=true∧Below w.heap.size w x4):=⟨by
          have q1:=hv1.out;have q2:=hv2.out;have q3:=hv3.out;have q4:=hv4.out;have q5:=hv5.out;rw [Bool.and_eq_true] at q3 q4;rw [J7.out,KT.out,q1,q2,q3.1,q3.2,q4.1,q4.2,q5];rfl,qR.out _ N⟩
         go_wp2;go_ret;exact ⟨qd HE.out.1.symm,HE.out.2⟩
   | true=>
    have C0:=CB w2;go_wp2_with (first | (guard_target=wpList _ _ _ (Oper.mk (some 17) _ _ _ _ _::_) _ _;refine qK (by rfl) 42 (.tmp 1) rfl w.heap.size 0 rfl (e.cells) _ pe Tryz.underlying42 rfl HI ?_) | fail);refine C0.mono ?_;clear C0 CB p6 pe;rintro r w3 ⟨rfl,hb⟩;replace N:=N.trans (hb.mono N.size);clear hb;obtain ⟨vB,hB⟩:∃ b,Hid (KX e.v=b):=⟨_,rfl⟩;rw [hB.out] at yA ⊢;cases vB with
    | false=>
     have HE:Hid (jQ=false∧Below w.heap.size w w3):=⟨by rw [yA.out];simp,qR.out _ N⟩;go_wp2;go_ret;exact ⟨qd HE.out.1.symm,HE.out.2⟩
    | true=>
     have J7:Hid (jQ=(inB e.next 1 1001 && (zy e.v && (yL e.v && (yP e.v && xZ e.v))))):=by rw [Hid,yA.out];simp
     clear yA;have pe:=U0.out _ N;have C3:=CD w3 (HG.out _ N) (HR.out _ N);go_upto_region 3 with fail;go_wp2_with (first | (guard_target=wpList _ _ _ (Oper.mk (some 22) _ _ _ _ _::_) _ _;refine wpList_load_mid rfl 42 (.tmp 1) rfl w.heap.size 0 rfl (e.cells) _ pe Tryz.underlying42 rfl HI ?_) | fail);refine C3.mono ?_;clear C3 pe;rintro r x0 ⟨rfl,hb⟩;replace N:=N.trans (hb.mono N.size);clear hb;obtain ⟨v1,hv1⟩:∃ b,Hid (yP e.v=b):=⟨_,rfl⟩;rw [hv1.out];cases v1 with
     | false=>
      have HE:Hid (jQ=false∧Below w.heap.size w x0):=⟨by
       rw [J7.out,KT.out];have q:=hv1.out;generalize inB e.next 1 1001=a1 at*
       generalize yP e.v=a2 at*
       generalize xZ e.v=a3 at*
       generalize yL e.v=a4 at*
       generalize decide (e.txs.length≤6)=a5 at*
       generalize wV e.v=a6 at*
       generalize xI e.v=a7 at*
       revert q;cases a1<;>cases a2<;>cases a3<;>cases a4<;>cases a5<;>cases a6<;>cases a7<;>decide,qR.out _ N⟩
      go_wp2;go_ret;exact ⟨qd HE.out.1.symm,HE.out.2⟩
     | true=>
      have pe:=U0.out _ N;have C3:=CS _ (HR.out _ N) (jP.out HP.out);go_wp2_with (first | (guard_target=wpList _ _ _ (Oper.mk (some 25) _ _ _ _ _::_) _ _;refine qK (by rfl) 42 (.tmp 1) rfl w.heap.size 0 rfl (e.cells) _ pe Tryz.underlying42 rfl HI ?_) | fail);refine C3.mono ?_;clear C3 pe;rintro r x1 ⟨rfl,hb⟩;replace N:=N.trans (hb.mono N.size);clear hb;obtain ⟨v2,hv2⟩:∃ b,Hid (xZ e.v=b):=⟨_,rfl⟩;rw [hv2.out];cases v2 with
      | false=>
       have HE:Hid (jQ=false∧Below w.heap.size w x1):=⟨by
        rw [J7.out,KT.out];have q:=hv2.out;generalize inB e.next 1 1001=a1 at*
        generalize yP e.v=a2 at*
        generalize xZ e.v=a3 at*
        generalize yL e.v=a4 at*
        generalize decide (e.txs.length≤6)=a5 at*
        generalize wV e.v=a6 at*
        generalize xI e.v=a7 at*
        revert q;cases a1<;>cases a2<;>cases a3<;>cases a4<;>cases a5<;>cases a6<;>cases a7<;>decide,qR.out _ N⟩
       go_wp2;go_ret;exact ⟨qd HE.out.1.symm,HE.out.2⟩
      | true=>
       have pe:=U0.out _ N;have C3:=CN _ (HR.out _ N);go_wp2_with (first | (guard_target=wpList _ _ _ (Oper.mk (some 29) _ _ _ _ _::_) _ _;refine qK (by rfl) 42 (.tmp 1) rfl w.heap.size 0 rfl (e.cells) _ pe Tryz.underlying42 rfl HI ?_) | fail);refine C3.mono ?_;clear C3 pe;rintro r x2 ⟨rfl,hb⟩;replace N:=N.trans (hb.mono N.size);clear hb;obtain ⟨v3,hv3⟩:∃ b,Hid ((yL e.v && inB e.next 1 1001)=b):=⟨_,rfl⟩;rw [hv3.out];cases v3 with
       | false=>
        have HE:Hid (jQ=false∧Below w.heap.size w x2):=⟨by
         rw [J7.out,KT.out];have q:=hv3.out;generalize inB e.next 1 1001=a1 at*
         generalize yP e.v=a2 at*
         generalize xZ e.v=a3 at*
         generalize yL e.v=a4 at*
         generalize decide (e.txs.length≤6)=a5 at*
         generalize wV e.v=a6 at*
         generalize xI e.v=a7 at*
         revert q;cases a1<;>cases a2<;>cases a3<;>cases a4<;>cases a5<;>cases a6<;>cases a7<;>decide,qR.out _ N⟩
        go_wp2;go_ret;exact ⟨qd HE.out.1.symm,HE.out.2⟩
       | true=>
        have pe:=U0.out _ N;have C3:=CT _ (HR.out _ N) HL.out;go_wp2_with (first | (guard_target=wpList _ _ _ (Oper.mk (some 33) _ _ _ _ _::_) _ _;refine qK (by rfl) 42 (.tmp 1) rfl w.heap.size 0 rfl (e.cells) _ pe Tryz.underlying42 rfl HI ?_) | fail);refine C3.mono ?_;clear C3 pe;rintro r x3 ⟨rfl,hb⟩;replace N:=N.trans (hb.mono N.size);clear hb;obtain ⟨v4,hv4⟩:∃ b,Hid ((decide (e.txs.length≤6) && wV e.v)=b):=⟨_,rfl⟩;rw [hv4.out];cases v4 with
        | false=>
         have HE:Hid (jQ=false∧Below w.heap.size w x3):=⟨by
          rw [J7.out,KT.out];have q:=hv4.out;generalize inB e.next 1 1001=a1 at*
          generalize yP e.v=a2 at*
          generalize xZ e.v=a3 at*
          generalize yL e.v=a4 at*
          generalize decide (e.txs.length≤6)=a5 at*
          generalize wV e.v=a6 at*
          generalize xI e.v=a7 at*
          revert q;cases a1<;>cases a2<;>cases a3<;>cases a4<;>cases a5<;>cases a6<;>cases a7<;>decide,qR.out _ N⟩
         go_wp2;go_ret;exact ⟨qd HE.out.1.symm,HE.out.2⟩
        | true=>
         have pe:=U0.out _ N;have C3:=CH _ (HR.out _ N);go_wp2_with (first | (guard_target=wpList _ _ _ (Oper.mk (some 37) _ _ _ _ _::_) _ _;refine qK (by rfl) 42 (.tmp 1) rfl w.heap.size 0 rfl (e.cells) _ pe Tryz.underlying42 rfl HI ?_) | fail);refine C3.mono ?_;clear C3 pe;rintro r x4 ⟨rfl,hb⟩;replace N:=N.trans (hb.mono N.size);clear hb;obtain ⟨v5,hv5⟩:∃ b,Hid (xI e.v=b):=⟨_,rfl⟩;rw [hv5.out];cases v5 with
         | false=>
          have HE:Hid (jQ=false∧Below w.heap.size w x4):=⟨by
           rw [J7.out,KT.out];have q:=hv5.out;generalize inB e.next 1 1001=a1 at*
           generalize yP e.v=a2 at*
           generalize xZ e.v=a3 at*
           generalize yL e.v=a4 at*
           generalize decide (e.txs.length≤6)=a5 at*
           generalize wV e.v=a6 at*
           generalize xI e.v=a7 at*
           revert q;cases a1<;>cases a2<;>cases a3<;>cases a4<;>cases a5<;>cases a6<;>cases a7<;>decide,qR.out _ N⟩
          go_wp2;go_ret;exact ⟨qd HE.out.1.symm,HE.out.2⟩
         | true=>
          have HE:Hid (jQ=true∧Below w.heap.size w x4):=⟨by
           have q1:=hv1.out;have q2:=hv2.out;have q3:=hv3.out;have q4:=hv4.out;have q5:=hv5.out;rw [Bool.and_eq_true] at q3 q4;rw [J7.out,KT.out,q1,q2,q3.1,q3.2,q4.1,q4.2,q5];rfl,qR.out _ N⟩
          go_wp2;go_ret;exact ⟨qd HE.out.1.symm,HE.out.2⟩
end Go.Proofs.YtjkckhfddgeboaaGreatDoor