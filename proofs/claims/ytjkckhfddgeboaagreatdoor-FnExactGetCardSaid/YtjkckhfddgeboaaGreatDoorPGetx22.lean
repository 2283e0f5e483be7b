/- Several texts in one, in their order. -/
import Derived.Test.YtjkckhfddgeboaaGreatDoorPGetx17
import Derived.Test.YtjkckhfddgeboaaGreatDoorPGetx21
import Derived.Test.YtjkckhfddgeboaaGreatDoorPGetx11
import Derived.Test.YtjkckhfddgeboaaGreatDoorPGetx9
import Derived.Test.YtjkckhfddgeboaaGreatDoorPGetx5
import Derived.Test.YtjkckhfddgeboaaGreatDoorPGetx15
import Derived.Test.YtjkckhfddgeboaaGreatDoorPGetx14
import Derived.Test.YtjkckhfddgeboaaGreatDoorPGetx4
import Derived.Test.YtjkckhfddgeboaaGreatDoorPGetx19
import Derived.Test.YtjkckhfddgeboaaGreatDoorPGetx1
set_option maxHeartbeats 8000000
set_option maxRecDepth 100000
namespace Go.Proofs.YtjkckhfddgeboaaGreatDoor
open Go.RowKit
theorem Cv (e:qa) (se:e.shape) (w:World) (re:e.reads w) (hl:e.short 1048576):
  Calls Tryz.prog 106 #[.agg e.cells.toArray] w fun r w'=>r=.returned (.int .i64 (jS e.v true))∧Below w.heap.size w w':=by
 have HV:Hid (jS e.v true=if jA e.v && (!e.down && true) then (if 3800<e.log.recs.length then 4 else 0) else 1):=by
  rw [Hid];unfold jS;rw [show e.v.log.recs.length=e.log.recs.length by simp [qa.v,qz.v]];rfl
 generalize jS e.v true=RV at*
 have CE:=fun u (hr:e.reads u)=>WB e se u hr hl
 have hrl:e.log.recs.length≤1048576:=hl.log.len;have HI:=kI se;obtain ⟨W,hW,b0,hbW,qp⟩:=qx w e.cells 42;have HB:Hid (∀ u,Below W.heap.size W u→Box u w.heap.size e.cells 42):=fun u hu=>b0.below hu b0.lt
 have HR:Hid (∀ u,Below W.heap.size W u→e.reads u):=fun u hu=>(re.below hbW).below hu
 have qR:Hid (∀ u,Below W.heap.size W u→Below w.heap.size w u):=fun u hu=>hbW.trans (hu.mono hbW.size)
 have hw0:w.heap.size<W.heap.size:=by omega
 have N:Below W.heap.size W W:=Below.refl _ _;clear b0 qp;have pe:W.rangeAt w.heap.size 0 e.cells:=Box.range [] e.cells [] (by simpa using HB.out W N);clear re hl;have C1:=CE W (HR.out W N);clear CE;go_enter Tryz.func106,Tryz.ntmps106;go_wp2_with (first | (guard_target=wpList _ _ _ (Oper.mk (some 4) _ _ _ _ _::_) _ _;refine wpList_load_mid rfl 42 (.tmp 1) rfl w.heap.size 0 rfl (e.cells) _ (by rw [hW.out];exact pe) Tryz.underlying42 rfl HI ?_) | fail);rw [hW.out];clear hW pe;refine C1.mono ?_;clear C1;rintro r w1 ⟨rfl,hb⟩;replace N:=N.trans (hb.mono N.size);clear hb;have p2:=(qH se (HB.out _ N)).2.2.1;have l0:w1.cell? ⟨w.heap.size,138,none⟩=some (.slice e.log.a e.log.recs.length e.log.c):=p2 0 _ rfl;have p6:=(qH se (HB.out _ N)).2.2.2.2.2.2;have HE:Hid (Below w.heap.size w w1):=qR.out _ N;obtain ⟨vO,hO⟩:∃ b,Hid (jA e.v=b):=⟨_,rfl⟩;obtain ⟨vD,hD⟩:∃ b,Hid (e.down=b):=⟨_,rfl⟩;rw [hO.out,hD.out] at HV;rw [hD.out] at p6;rw [hO.out];clear p2 hO hD;cases vO with
 | false=>
  have HF:Hid (RV=1):=HV.out.trans rfl;go_wp2;go_ret;exact ⟨ja HF.out.symm,HE.out⟩
 | true=>
  cases vD with
  | true=>
   have HF:Hid (RV=1):=HV.out.trans rfl;go_wp2;go_ret;exact ⟨ja HF.out.symm,HE.out⟩
  | false=>
   by_cases hx:3800<e.log.recs.length
   ·have hxi:(3800:Int)<(e.log.recs.length:Int):=by omega
    have HF:Hid (RV=4):=HV.out.trans (if_pos hx);clear hx;go_wp2;go_ret;exact ⟨ja HF.out.symm,HE.out⟩
   ·have hxi:¬ (3800:Int)<(e.log.recs.length:Int):=by omega
    have HF:Hid (RV=0):=HV.out.trans (if_neg hx);clear hx;go_wp2;go_ret;exact ⟨ja HF.out.symm,HE.out⟩
end Go.Proofs.YtjkckhfddgeboaaGreatDoor
namespace Go.Proofs.YtjkckhfddgeboaaGreatDoor
open Go.RowKit
def Out (k a b:Nat):Prop:=k<a∨b≤k
theorem Out.zero (k:Nat):Out k 0 0:=.inr (Nat.zero_le _)
structure CopI (e:qa) (lo:Nat) (w:World) (c2 c5 c6 c9 c10 c13:Bool) (X2 X5 X6 X9 zO zP:Value) (q:qi) (l:qz) (p0 p1 l0 l1 A6 jT:Nat) (aT:Option Addr) (cT:Nat) (aH:Option Addr) (cH:Nat):Prop where
 val:(c5=true→c2=true)∧(c9=true→c5=true∧c6=true)∧(c13=true→c9=true∧c10=true)
 low:lo≤w.heap.size
 top:p1≤w.heap.size∧l1≤w.heap.size
 no:(c2=false→p0=0∧p1=0)∧(c5=false→l0=0∧l1=0)
 pool:c2=true→X2=.agg q.cells.toArray∧Hid (q.v=e.qB.v)∧q.own w p0 p1∧lo≤p0∧p0≤p1
 log:c5=true→X5=.agg l.cells.toArray∧Hid (l.v=e.log.v)∧l.own w l0 l1∧p1≤l0∧lo≤l0∧l0≤l1
 six:c6=true→X6=.slice (some ⟨A6,0,none⟩) 0 0∧(c9=false→OwnL w A6 (A6+1) (some ⟨A6,0,none⟩) 0 [])∧lo≤A6∧A6<w.heap.size∧Out A6 p0 p1∧Out A6 l0 l1
 ten:c10=true→zO=.slice (some ⟨jT,0,none⟩) 0 0∧(c13=false→OwnH w jT (jT+1) (some ⟨jT,0,none⟩) 0 [])∧lo≤jT∧jT<w.heap.size∧Out jT p0 p1∧Out jT l0 l1
 both:c6=true→c10=true→A6≠jT
 txs:c9=true→X9=.slice aT e.txs.length cT∧OwnL w lo w.heap.size aT cT e.txs∧∀ k,(Value.slice aT e.txs.length cT).ownBlock=some k→Out k p0 p1∧Out k l0 l1∧(c10=true→k≠jT)
 holds:c13=true→zP=.slice aH e.holds.length cH∧OwnH w lo w.heap.size aH cH e.holds∧∀ k,(Value.slice aH e.holds.length cH).ownBlock=some k→Out k p0 p1∧Out k l0 l1∧∀ j,(Value.slice aT e.txs.length cT).ownBlock=some j→j≠k
theorem CopI.start (e:qa) (lo:Nat) (w:World) (X2 X5 X6 X9 zO zP:Value) (h:lo≤w.heap.size):CopI e lo w false false false false false false X2 X5 X6 X9 zO zP e.qB e.log 0 0 0 0 0 0 none 0 none 0:=
 ⟨⟨nofun,nofun,nofun⟩,h,⟨Nat.zero_le _,Nat.zero_le _⟩,⟨fun _=>⟨rfl,rfl⟩,fun _=>⟨rfl,rfl⟩⟩,nofun,nofun,nofun,nofun,nofun,nofun,nofun⟩
section
variable {e:qa} {lo:Nat} {w w':World} {c2 c5 c6 c9 c10 c13:Bool} {X2 X5 X6 X9 zO zP:Value} {q:qi} {l:qz} {p0 p1 l0 l1 A6 jT:Nat} {aT:Option Addr} {cT:Nat} {aH:Option Addr} {cH:Nat}
theorem CopI.below (h:CopI e lo w c2 c5 c6 c9 c10 c13 X2 X5 X6 X9 zO zP q l p0 p1 l0 l1 A6 jT aT cT aH cH) (hb:Below w.heap.size w w'):CopI e lo w' c2 c5 c6 c9 c10 c13 X2 X5 X6 X9 zO zP q l p0 p1 l0 l1 A6 jT aT cT aH cH:=by
 have hs:=hb.size;refine ⟨h.val,by have:=h.low;omega,by have:=h.top;omega,h.no,fun c=>?_,fun c=>?_,fun c=>?_,fun c=>?_,h.both,fun c=>?_,fun c=>?_⟩
 ·obtain ⟨a,b,d,f⟩:=h.pool c;exact ⟨a,b,OwnSts.below d hb,f⟩
 ·obtain ⟨a,b,d,f⟩:=h.log c;exact ⟨a,b,qV.below d hb,f⟩
 ·obtain ⟨a,b,d,f,g⟩:=h.six c;exact ⟨a,fun x=>(b x).below hb,d,by omega,g⟩
 ·obtain ⟨a,b,d,f,g⟩:=h.ten c;exact ⟨a,fun x=>(b x).below hb,d,by omega,g⟩
 ·obtain ⟨a,b,d⟩:=h.txs c;exact ⟨a,(b.below hb).widen (Nat.le_refl _) hs (Nat.le_refl _),d⟩
 ·obtain ⟨a,b,d⟩:=h.holds c;exact ⟨a,(b.below hb).widen (Nat.le_refl _) hs (Nat.le_refl _),d⟩
theorem CopI.step2 {X:Value} {q':qi} (h:CopI e lo w false c5 c6 c9 c10 c13 X2 X5 X6 X9 zO zP q l p0 p1 l0 l1 A6 jT aT cT aH cH) (hX:X=.agg q'.cells.toArray) (hv:Hid (q'.v=e.qB.v)) (ho:q'.own w' w.heap.size w'.heap.size) (hb:Below w.heap.size w w'):
  CopI e lo w' true c5 c6 c9 c10 c13 X X5 X6 X9 zO zP q' l w.heap.size w'.heap.size l0 l1 A6 jT aT cT aH cH:=by
 have hs:=hb.size;have h5:c5=false:=by cases hc:c5 with | false=>rfl | true=>exact absurd (h.val.1 hc) (by simp)
 have h9:c9=false:=by cases hc:c9 with | false=>rfl | true=>have:=(h.val.2.1 hc).1;rw [h5] at this;cases this
 have uP:c13=false:=by cases hc:c13 with | false=>rfl | true=>have:=(h.val.2.2 hc).1;rw [h9] at this;cases this
 subst h5 h9 uP;have g:=h.below hb;refine ⟨⟨nofun,nofun,nofun⟩,g.low,⟨Nat.le_refl _,g.top.2⟩,⟨nofun,g.no.2⟩,fun _=>⟨hX,hv,ho,h.low,hs⟩,nofun,fun c=>?_,fun c=>?_,g.both,nofun,nofun⟩
 ·obtain ⟨a,b,d,f,_,k⟩:=g.six c;have:=(h.six c).2.2.2.1;exact ⟨a,b,d,f,.inl (by omega),k⟩
 ·obtain ⟨a,b,d,f,_,k⟩:=g.ten c;have:=(h.ten c).2.2.2.1;exact ⟨a,b,d,f,.inl (by omega),k⟩
theorem CopI.Cw {X:Value} {l':qz} (h:CopI e lo w c2 false c6 c9 c10 c13 X2 X5 X6 X9 zO zP q l p0 p1 l0 l1 A6 jT aT cT aH cH) (hc2:c2=true) (hX:X=.agg l'.cells.toArray) (hv:Hid (l'.v=e.log.v)) (ho:l'.own w' w.heap.size w'.heap.size) (hb:Below w.heap.size w w'):
  CopI e lo w' c2 true c6 c9 c10 c13 X2 X X6 X9 zO zP q l' p0 p1 w.heap.size w'.heap.size A6 jT aT cT aH cH:=by
 have hs:=hb.size;have h9:c9=false:=by cases hc:c9 with | false=>rfl | true=>have:=(h.val.2.1 hc).1;cases this
 have uP:c13=false:=by cases hc:c13 with | false=>rfl | true=>have:=(h.val.2.2 hc).1;rw [h9] at this;cases this
 subst h9 uP;have g:=h.below hb;refine ⟨⟨fun _=>hc2,nofun,nofun⟩,g.low,⟨g.top.1,Nat.le_refl _⟩,⟨g.no.1,nofun⟩,g.pool,fun _=>⟨hX,hv,ho,h.top.1,h.low,hs⟩,fun c=>?_,fun c=>?_,g.both,nofun,nofun⟩
 ·obtain ⟨a,b,d,f,k,_⟩:=g.six c;have:=(h.six c).2.2.2.1;exact ⟨a,b,d,f,k,.inl (by omega)⟩
 ·obtain ⟨a,b,d,f,k,_⟩:=g.ten c;have:=(h.ten c).2.2.2.1;exact ⟨a,b,d,f,k,.inl (by omega)⟩
theorem CopI.Cx {X:Value} (h:CopI e lo w c2 c5 false c9 c10 c13 X2 X5 X6 X9 zO zP q l p0 p1 l0 l1 A6 jT aT cT aH cH) (hX:X=.slice (some ⟨w.heap.size,0,none⟩) 0 0) (hw:w.alloc (.cells #[] 118)=w'):
  CopI e lo w' c2 c5 true c9 c10 c13 X2 X5 X X9 zO zP q l p0 p1 l0 l1 w.heap.size jT aT cT aH cH:=by
 subst hw;have hb:Below w.heap.size w (w.alloc (.cells #[] 118)):=(Below.refl _ _).alloc (Nat.le_refl _) _;have h9:c9=false:=by cases hc:c9 with | false=>rfl | true=>have:=(h.val.2.1 hc).2;cases this
 have uP:c13=false:=by cases hc:c13 with | false=>rfl | true=>have:=(h.val.2.2 hc).1;rw [h9] at this;cases this
 subst h9 uP;have g:=h.below hb;refine ⟨⟨h.val.1,nofun,nofun⟩,g.low,g.top,g.no,g.pool,g.log,fun _=>⟨hX,fun _=>Si w,h.low,by simp,.inr h.top.1,.inr h.top.2⟩,g.ten,fun _ c=>?_,nofun,nofun⟩;have:=(h.ten c).2.2.2.1;omega
theorem CopI.Pp {X:Value} (h:CopI e lo w c2 c5 c6 c9 false c13 X2 X5 X6 X9 zO zP q l p0 p1 l0 l1 A6 jT aT cT aH cH) (hX:X=.slice (some ⟨w.heap.size,0,none⟩) 0 0) (hw:w.alloc (.cells #[] 185)=w'):
  CopI e lo w' c2 c5 c6 c9 true c13 X2 X5 X6 X9 X zP q l p0 p1 l0 l1 A6 w.heap.size aT cT aH cH:=by
 subst hw;have hb:Below w.heap.size w (w.alloc (.cells #[] 185)):=(Below.refl _ _).alloc (Nat.le_refl _) _;have uP:c13=false:=by cases hc:c13 with | false=>rfl | true=>have:=(h.val.2.2 hc).2;cases this
 subst uP;have g:=h.below hb;refine ⟨⟨h.val.1,h.val.2.1,nofun⟩,g.low,g.top,g.no,g.pool,g.log,g.six,fun _=>⟨hX,fun _=>Sj w,h.low,by simp,.inr h.top.1,.inr h.top.2⟩,fun c _=>?_,fun c=>?_,nofun⟩
 ·have:=(h.six c).2.2.2.1;omega
 ·obtain ⟨a,b,d⟩:=g.txs c;refine ⟨a,b,fun k hk=>⟨(d k hk).1,(d k hk).2.1,fun _=>?_⟩⟩;have:=((h.txs c).2.1.lt k hk).2;omega
theorem CopI.Cy {X:Value} {a':Option Addr} {c':Nat} (h:CopI e lo w c2 c5 c6 false c10 c13 X2 X5 X6 X9 zO zP q l p0 p1 l0 l1 A6 jT aT cT aH cH) (hc5:c5=true) (hc6:c6=true) (hX:X=.slice a' e.txs.length c') (ho:OwnL w' A6 w'.heap.size a' c' e.txs) (hg:w.grownBy w' (some A6))
  (hk:∀ k,(Value.slice a' e.txs.length c').ownBlock=some k→some A6=some k∨k=w.heap.size):
  CopI e lo w' c2 c5 c6 true c10 c13 X2 X5 X6 X zO zP q l p0 p1 l0 l1 A6 jT a' c' aH cH:=by
 have uP:c13=false:=by cases hc:c13 with | false=>rfl | true=>have:=(h.val.2.2 hc).1;cases this
 subst uP;have t:Touch [A6] w w':=Touch.jw hg (fun k hk=>by cases hk;exact List.mem_singleton.2 rfl);have hs:=t.size;obtain ⟨x1,x2,x3,x4,x5,x6⟩:=h.six hc6;have hlo:=h.low;have htop:=h.top;refine ⟨⟨h.val.1,fun _=>⟨hc5,hc6⟩,nofun⟩,by omega,by omega,h.no,fun c=>?_,fun c=>?_,fun c=>⟨x1,nofun,x3,by omega,x5,x6⟩,fun c=>?_,h.both,fun _=>⟨hX,ho.widen x3 (Nat.le_refl _) (Nat.le_refl _),fun k hk'=>?_⟩,nofun⟩
 ·obtain ⟨a,b,d,f⟩:=h.pool c;exact ⟨a,b,OwnSts.touch d t (fun k hk hm=>by have:=OwnSts.ql d k hk;rw [List.mem_singleton.1 hm] at this;rcases x5 with y | y<;>omega),f⟩
 ·obtain ⟨a,b,d,f⟩:=h.log c;exact ⟨a,b,qV.touch d t (fun k hk hm=>by have:=qV.ql d k hk;rw [List.mem_singleton.1 hm] at this;rcases x6 with y | y<;>omega),f⟩
 ·obtain ⟨a,b,d,f,g⟩:=h.ten c;have hne:=h.both hc6 c;exact ⟨a,fun x=>(b x).touch t (fun k hk hm=>by cases hk;exact hne (List.mem_singleton.1 hm).symm),d,by omega,g⟩
 ·rcases hk k hk' with y | y
  ·cases y;exact ⟨x5,x6,fun c=>h.both hc6 c⟩
  ·subst y;exact ⟨.inr htop.1,.inr htop.2,fun c=>by have:=(h.ten c).2.2.2.1;omega⟩
theorem CopI.Pq {X:Value} {a':Option Addr} {c':Nat} (h:CopI e lo w c2 c5 c6 c9 c10 false X2 X5 X6 X9 zO zP q l p0 p1 l0 l1 A6 jT aT cT aH cH) (OA:c9=true) (WC:c10=true) (hX:X=.slice a' e.holds.length c') (ho:OwnH w' jT w'.heap.size a' c' e.holds) (hg:w.grownBy w' (some jT))
  (hk:∀ k,(Value.slice a' e.holds.length c').ownBlock=some k→some jT=some k∨k=w.heap.size):
  CopI e lo w' c2 c5 c6 c9 c10 true X2 X5 X6 X9 zO X q l p0 p1 l0 l1 A6 jT aT cT a' c':=by
 have t:Touch [jT] w w':=Touch.jw hg (fun k hk=>by cases hk;exact List.mem_singleton.2 rfl);have hs:=t.size;obtain ⟨x1,x2,x3,x4,x5,x6⟩:=h.ten WC;have hlo:=h.low;have htop:=h.top;refine ⟨⟨h.val.1,h.val.2.1,fun _=>⟨OA,WC⟩⟩,by omega,by omega,h.no,fun c=>?_,fun c=>?_,fun c=>?_,fun c=>⟨x1,nofun,x3,by omega,x5,x6⟩,h.both,fun c=>?_,fun _=>⟨hX,ho.widen x3 (Nat.le_refl _) (Nat.le_refl _),fun k hk'=>?_⟩⟩
 ·obtain ⟨a,b,d,f⟩:=h.pool c;exact ⟨a,b,OwnSts.touch d t (fun k hk hm=>by have:=OwnSts.ql d k hk;rw [List.mem_singleton.1 hm] at this;rcases x5 with y | y<;>omega),f⟩
 ·obtain ⟨a,b,d,f⟩:=h.log c;exact ⟨a,b,qV.touch d t (fun k hk hm=>by have:=qV.ql d k hk;rw [List.mem_singleton.1 hm] at this;rcases x6 with y | y<;>omega),f⟩
 ·obtain ⟨a,b,d,f,g⟩:=h.six c;exact ⟨a,fun x=>(by rw [OA] at x;cases x),d,by omega,g⟩
 ·obtain ⟨a,b,d⟩:=h.txs c;exact ⟨a,(b.touch t (fun k hk hm=>(d k hk).2.2 WC (List.mem_singleton.1 hm))).widen (Nat.le_refl _) hs (Nat.le_refl _),d⟩
 ·obtain ⟨_,b,d⟩:=h.txs OA;rcases hk k hk' with y | y
  ·cases y;exact ⟨x5,x6,fun j hj=>(d j hj).2.2 WC⟩
  ·subst y;exact ⟨.inr htop.1,.inr htop.2,fun j hj=>by have:=(b.lt j hj).2;omega⟩
end
end Go.Proofs.YtjkckhfddgeboaaGreatDoor
namespace Go.Proofs.YtjkckhfddgeboaaGreatDoor
open Go.RowKit
structure CopB (Z:qa) (nT nH:Nat) (lo:Nat) (w:World) (c3 c6 c9 c10 c13:Bool) (X3:Value) (BO p0 p1 l0 l1 A6 jT:Nat) (aT:Option Addr) (cT:Nat) (aH:Option Addr) (cH:Nat):Prop where
 box:c3=true→X3=.pointer (some ⟨BO,0,none⟩)∧Box w BO Z.cells TE∧lo≤BO∧Out BO p0 p1∧Out BO l0 l1
 six:c3=true→c6=true→BO≠A6
 ten:c3=true→c10=true→BO≠jT
 txs:c3=true→c9=true→∀ k,(Value.slice aT nT cT).ownBlock=some k→k≠BO
 holds:c3=true→c13=true→∀ k,(Value.slice aH nH cH).ownBlock=some k→k≠BO
section
variable {Z e:qa} {nT nH lo:Nat} {w w':World} {c2 c3 c5 c6 c9 c10 c13:Bool} {X2 X3 X5 X6 X9 zO zP:Value} {q:qi} {l:qz} {BO p0 p1 l0 l1 A6 jT:Nat} {aT:Option Addr} {cT:Nat} {aH:Option Addr} {cH:Nat}
theorem CopB.start (X3:Value) (w:World):CopB Z nT nH lo w false c6 c9 c10 c13 X3 0 p0 p1 l0 l1 A6 jT aT cT aH cH:=⟨nofun,nofun,nofun,nofun,nofun⟩
theorem CopB.below (h:CopB Z nT nH lo w c3 c6 c9 c10 c13 X3 BO p0 p1 l0 l1 A6 jT aT cT aH cH) (hb:Below w.heap.size w w'):CopB Z nT nH lo w' c3 c6 c9 c10 c13 X3 BO p0 p1 l0 l1 A6 jT aT cT aH cH:=
 ⟨fun c=>by obtain ⟨a,b,d⟩:=h.box c;exact ⟨a,b.below hb b.lt,d⟩,h.six,h.ten,h.txs,h.holds⟩
theorem CopB.step2 (h:CopB Z nT nH lo w c3 c6 c9 c10 c13 X3 BO p0 p1 l0 l1 A6 jT aT cT aH cH) (hb:Below w.heap.size w w'):CopB Z nT nH lo w' c3 c6 c9 c10 c13 X3 BO w.heap.size w'.heap.size l0 l1 A6 jT aT cT aH cH:=
 ⟨fun c=>by obtain ⟨a,b,d,f,g⟩:=h.box c;exact ⟨a,b.below hb b.lt,d,.inl b.lt,g⟩,h.six,h.ten,h.txs,h.holds⟩
theorem CopB.Cw (h:CopB Z nT nH lo w c3 c6 c9 c10 c13 X3 BO p0 p1 l0 l1 A6 jT aT cT aH cH) (hb:Below w.heap.size w w'):CopB Z nT nH lo w' c3 c6 c9 c10 c13 X3 BO p0 p1 w.heap.size w'.heap.size A6 jT aT cT aH cH:=
 ⟨fun c=>by obtain ⟨a,b,d,f,g⟩:=h.box c;exact ⟨a,b.below hb b.lt,d,f,.inl b.lt⟩,h.six,h.ten,h.txs,h.holds⟩
theorem CopB.Cx (h:CopB Z nT nH lo w c3 c6 c9 c10 c13 X3 BO p0 p1 l0 l1 A6 jT aT cT aH cH) (hb:Below w.heap.size w w'):CopB Z nT nH lo w' c3 true c9 c10 c13 X3 BO p0 p1 l0 l1 w.heap.size jT aT cT aH cH:=
 ⟨(h.below hb).box,fun c _=>by have:=(h.box c).2.1.lt;omega,h.ten,h.txs,h.holds⟩
theorem CopB.Pp (h:CopB Z nT nH lo w c3 c6 c9 c10 c13 X3 BO p0 p1 l0 l1 A6 jT aT cT aH cH) (hb:Below w.heap.size w w'):CopB Z nT nH lo w' c3 c6 c9 true c13 X3 BO p0 p1 l0 l1 A6 w.heap.size aT cT aH cH:=
 ⟨(h.below hb).box,h.six,fun c _=>by have:=(h.box c).2.1.lt;omega,h.txs,h.holds⟩
theorem CopB.Cy {a':Option Addr} {c':Nat} (h:CopB Z nT nH lo w c3 c6 c9 c10 c13 X3 BO p0 p1 l0 l1 A6 jT aT cT aH cH) (hc6:c6=true) (hg:w.grownBy w' (some A6)) (hk:∀ k,(Value.slice a' nT c').ownBlock=some k→some A6=some k∨k=w.heap.size):
  CopB Z nT nH lo w' c3 c6 true c10 c13 X3 BO p0 p1 l0 l1 A6 jT a' c' aH cH:=
 ⟨fun c=>by obtain ⟨a,b,d⟩:=h.box c;exact ⟨a,b.block (hg.block BO b.lt (fun x=>h.six c hc6 (Option.some.inj x))),d⟩,h.six,h.ten,fun c _ k hk'=>by
  rcases hk k hk' with y | y
  ·cases y;exact Ne.symm (h.six c hc6)
  ·have:=(h.box c).2.1.lt;omega,h.holds⟩
theorem CopB.Pq {a':Option Addr} {c':Nat} (h:CopB Z nT nH lo w c3 c6 c9 c10 c13 X3 BO p0 p1 l0 l1 A6 jT aT cT aH cH) (WC:c10=true) (hg:w.grownBy w' (some jT)) (hk:∀ k,(Value.slice a' nH c').ownBlock=some k→some jT=some k∨k=w.heap.size):
  CopB Z nT nH lo w' c3 c6 c9 c10 true X3 BO p0 p1 l0 l1 A6 jT aT cT a' c':=
 ⟨fun c=>by obtain ⟨a,b,d⟩:=h.box c;exact ⟨a,b.block (hg.block BO b.lt (fun x=>h.ten c WC (Option.some.inj x))),d⟩,h.six,h.ten,h.txs,fun c _ k hk'=>by
  rcases hk k hk' with y | y
  ·cases y;exact Ne.symm (h.ten c WC)
  ·have:=(h.box c).2.1.lt;omega⟩
theorem CopB.laid {X:Value} (i:CopI e lo w c2 c5 c6 c9 c10 c13 X2 X5 X6 X9 zO zP q l p0 p1 l0 l1 A6 jT aT cT aH cH) (hX:X=.pointer (some ⟨w.heap.size,0,none⟩)) (hb:Box w' w.heap.size Z.cells TE):
  CopB Z e.txs.length e.holds.length lo w' true c6 c9 c10 c13 X w.heap.size p0 p1 l0 l1 A6 jT aT cT aH cH:=
 ⟨fun _=>⟨hX,hb,i.low,.inr i.top.1,.inr i.top.2⟩,fun _ c=>by have:=(i.six c).2.2.2.1;omega,fun _ c=>by have:=(i.ten c).2.2.2.1;omega,
  fun _ c k hk=>by have:=((i.txs c).2.1.lt k hk).2;omega,fun _ c k hk=>by have:=((i.holds c).2.1.lt k hk).2;omega⟩
end
theorem CopI.whole {e:qa} {lo:Nat} {w:World} {X2 X5 X6 X9 zO zP:Value} {q:qi} {l:qz} {p0 p1 l0 l1 A6 jT:Nat} {aT:Option Addr} {cT:Nat} {aH:Option Addr} {cH:Nat}
  (i:CopI e lo w true true true true true true X2 X5 X6 X9 zO zP q l p0 p1 l0 l1 A6 jT aT cT aH cH):
  X2=.agg q.cells.toArray∧X5=.agg l.cells.toArray∧X9=.slice aT e.txs.length cT∧zP=.slice aH e.holds.length cH∧Hid (q.v=e.qB.v)∧Hid (l.v=e.log.v)∧
  OwnSts w lo w.heap.size q.a q.c q.seats∧qV w lo w.heap.size l.a l.c l.recs∧OwnL w lo w.heap.size aT cT e.txs∧OwnH w lo w.heap.size aH cH e.holds∧
  (qo q.a q.c q.seats++(kr l.a l.c l.recs++(rowOf aT e.txs.length cT++rowOf aH e.holds.length cH))).Nodup:=by
 obtain ⟨a1,a2,a3,a4,a5⟩:=i.pool rfl;obtain ⟨b1,b2,b3,b4,b5,b6⟩:=i.log rfl;obtain ⟨t1,t2,t3⟩:=i.txs rfl;obtain ⟨h1,h2,h3⟩:=i.holds rfl;have tp:=i.top;refine ⟨a1,b1,t1,h1,a2,b2,OwnSts.widen a3 a4 tp.1 (Nat.le_refl _),qV.widen b3 b5 tp.2 (Nat.le_refl _),t2,h2,?_⟩;have B2:=OwnSts.ql a3;have B3:=qV.ql b3;have nr:∀ o:Option Nat,o.toList.Nodup:=fun o=>by cases o<;>simp
 simp only [List.nodup_append,List.mem_append];refine ⟨OwnSts.apart a3,⟨qV.apart b3,⟨nr _,nr _,fun x hx y hy=>(h3 y (Option.mem_toList.1 hy)).2.2 x (Option.mem_toList.1 hx)⟩,fun x hx y hy=>?_⟩,fun x hx y hy=>?_⟩
 ·have:=B3 x hx;rcases hy with hy | hy
  ·rcases (t3 y (Option.mem_toList.1 hy)).2.1 with o | o<;>omega
  ·rcases (h3 y (Option.mem_toList.1 hy)).2.1 with o | o<;>omega
 ·have:=B2 x hx;rcases hy with hy | hy | hy
  ·have:=B3 y hy;omega
  ·rcases (t3 y (Option.mem_toList.1 hy)).1 with o | o<;>omega
  ·rcases (h3 y (Option.mem_toList.1 hy)).1 with o | o<;>omega
def ZI (e:qa) (q:qi) (l:qz) (aT:Option Addr) (cT:Nat) (aH:Option Addr) (cH:Nat):qa:=⟨zeroE.disk,q.seats,q.a,q.c,q.hand,l,e.txs,aT,cT,e.holds,aH,cH,e.next,e.down⟩
theorem Cz (e:qa) (q:qi) (l:qz) (aT:Option Addr) (cT:Nat) (aH:Option Addr) (cH:Nat):(ZI e q l aT cT aH cH).shape:=⟨yM.eight,yM.four⟩
theorem DJ (w:World) (e:qa) (q:qi) (l:qz) (aT:Option Addr) (cT:Nat) (aH:Option Addr) (cH:Nat):
  (Instr.build 42 #[(1,.agg q.cells.toArray),(2,.agg l.cells.toArray),(3,.slice aT e.txs.length cT),(4,.slice aH e.holds.length cH),(5,.int .i64 e.next),(6,.bool e.down)]).run Tryz.prog w=.ok (.agg (ZI e q l aT cT aH cH).cells.toArray) w:=run_build w _ _ _ (by kernel_rfl)
theorem Tt (w:World) (lo hi:Nat) (h:hi≤w.heap.size):qG w lo hi (zeroE.disk.flatMap (·.ss)):=by
 refine ⟨fun s hs=>?_,List.nodup_nil⟩;obtain ⟨p,hp,hs⟩:=List.mem_flatMap.1 hs;have h1:p=qM:=by
  simp only [zeroE,List.mem_cons,List.not_mem_nil,or_false] at hp;rcases hp with h | h | h | h | h | h | h | h<;>exact h
 rw [h1] at hs;have h2:s=qh:=by simpa [qM] using hs
 rw [h2];exact Xt _ _ _ h
theorem CopI.eng {Z e:qa} {lo:Nat} {w:World} {X2 X5 X6 X9 zO zP X3:Value} {q:qi} {l:qz} {BO p0 p1 l0 l1 A6 jT:Nat} {aT:Option Addr} {cT:Nat} {aH:Option Addr} {cH:Nat}
  (i:CopI e lo w true true true true true true X2 X5 X6 X9 zO zP q l p0 p1 l0 l1 A6 jT aT cT aH cH) (b:CopB Z e.txs.length e.holds.length lo w true true true true true X3 BO p0 p1 l0 l1 A6 jT aT cT aH cH):
  (ZI e q l aT cT aH cH).own w lo w.heap.size∧BO∉(ZI e q l aT cT aH cH).blocks:=by
 obtain ⟨_,_,_,_,_,_,o1,o2,o3,o4,nd⟩:=i.whole;obtain ⟨_,_,_,f1,f2⟩:=b.box rfl;refine ⟨⟨Tt w _ _ (Nat.le_refl _),o1,o2,o3,o4,nd⟩,fun hm=>?_⟩;have hm':BO∈qo q.a q.c q.seats++(kr l.a l.c l.recs++(rowOf aT e.txs.length cT++rowOf aH e.holds.length cH)):=hm;simp only [List.mem_append] at hm';rcases hm' with h | h | h | h
 ·have:=OwnSts.ql (i.pool rfl).2.2.1 BO h;rcases f1 with y | y<;>omega
 ·have:=qV.ql (i.log rfl).2.2.1 BO h;rcases f2 with y | y<;>omega
 ·exact b.txs rfl rfl BO (Option.mem_toList.1 h) rfl
 ·exact b.holds rfl rfl BO (Option.mem_toList.1 h) rfl
end Go.Proofs.YtjkckhfddgeboaaGreatDoor
namespace Go.Proofs.YtjkckhfddgeboaaGreatDoor
open Go.RowKit
theorem Ut {w:World} {ops:Array Oper} {o:Oper} {act:Act} {K:Act→World→Prop} {Q:Exit→Act→World→Prop} {E:Prop} (hgd:o.guard=none) (s x:Operand)
  (ho:o.op=.call { callee:=.builtin .append,args:=#[s,x],argTypes:=#[40,40] })
  (lo hi:Nat) (a:Option Addr) (c:Nat) (xs:List qJ) (hs:act.eval s=.slice a xs.length c) (hown:OwnH w lo hi a c xs)
  (sa:Option Addr) (sc:Nat) (zs:List qJ) (hx:act.eval x=.slice sa zs.length sc) (hr:yt w sa zs) (hc:sa=none→sc=0)
  (hb:xs.length+zs.length≤1099511627776) (hlo:lo≤w.heap.size)
  (h:∀ a' c' ys w',Hid (ys=xs++zs)→OwnH w' lo w'.heap.size a' c' ys→w.grownBy w' (Value.slice a xs.length c).ownBlock→
   (∀ k,(Value.slice a' ys.length c').ownBlock=some k→(Value.slice a xs.length c).ownBlock=some k∨k=w.heap.size)→K (act.put o.dst (.slice a' ys.length c')) w'):
  if Region.wanted o (yielded ops act.tmps)=true then Oper.wp Tryz.prog o act w K Q else E:=by
 have hw:Region.wanted o (yielded ops act.tmps)=true:=by simp [Region.wanted,hgd]
 rw [if_pos hw];obtain ⟨a',c',ys,w',hrun,h1,h2,h3,h4⟩:=We (w:=w) o.type lo hi a c xs hown sa sc zs hr hc hb hlo;unfold Oper.wp execOp;simp only [ho,resolve,invoke,builtin,Sem.run_bind,Sem.run_pure,Result.andThen_ok,List.map_toArray,List.map_cons,List.map_nil,hs,hx,hrun];exact h a' c' ys w' h1 h2 h3 h4
theorem CF {w:World} {ops:Array Oper} {act:Act} {K:Act→World→Prop} {Q:Exit→Act→World→Prop} {E:Prop} {dst:Option Nat} {ty:TypeId} {pos:String} {KN:Array Edge} (T:TypeId) (cs:List Value)
  (hz:(Tryz.prog.info? T).map (·.zero)=some (some (.agg cs.toArray)))
  (h:K (act.put dst (.pointer (some ⟨w.heap.size,0,none⟩))) (w.alloc (.cells cs.toArray T))):
  if Region.wanted { dst:=dst,op:=.alloc T,type:=ty,pos:=pos,after:=KN,guard:=none } (yielded ops act.tmps)=true then Oper.wp Tryz.prog { dst:=dst,op:=.alloc T,type:=ty,pos:=pos,after:=KN,guard:=none } act w K Q else E:=by
 rw [if_pos (by simp [Region.wanted])];cases hi:Tryz.prog.info? T with
 | none=>rw [hi] at hz;cases hz
 | some inf=>
  rw [hi] at hz;have hz':inf.zero=some (.agg cs.toArray):=by simpa using hz
  unfold Oper.wp execOp;have e1:(zeroValue T).run Tryz.prog w=.ok (.agg cs.toArray) w:=by simp [zeroValue,typeInfo,hi,hz']
  have e2:(Instr.alloc T true (.tuple #[])).run Tryz.prog w=.ok (.pointer (some ⟨w.heap.size,0,none⟩)) (w.alloc (.cells cs.toArray T)):=by
   unfold Instr.alloc;simp only [Sem.run_bind,e1,Result.andThen_ok];simp [newVar,go_sem]
  simp only [Sem.run_bind,e2,Result.andThen_ok,Sem.run_pure];exact h
theorem Uj {B:Nat} {w w':World} (h:Within B (B+1) w w'):Touch [B] w w':=⟨h.os,h.tape,h.output,h.size,fun k hk hn=>h.block k hk (fun hh=>hn (List.mem_singleton.2 (by omega)))⟩
theorem iL {w:World} {lo D hi:Nat} {t:qa} {ts:List qw} (h:t.own w lo D) (hd:qG w D hi (qI ts)) (h1:lo≤D) (h2:D≤hi) (h3:hi≤w.heap.size):({ t with disk:=ts }:qa).own w lo hi:=by
 refine ⟨hd.widen h1 (Nat.le_refl _) h3,h.pool.widen (Nat.le_refl _) h2 h3,h.log.widen (Nat.le_refl _) h2 h3,h.txs.widen (Nat.le_refl _) h2 h3,h.holds.widen (Nat.le_refl _) h2 h3,?_⟩;have hb:=h.ql;have ap:=h.apart;simp only [qa.blocks,List.nodup_append] at ap;simp only [qa.blocks,List.nodup_append];refine ⟨hd.apart,ap.2.1,fun x hx y hy=>?_⟩;have h4:=hd.ql x hx;have h5:=hb y (List.mem_append.2 (.inr hy));omega
theorem CG {w:World} {o:Oper} {act:Act} {K:Act→World→Prop} {Q:Exit→Act→World→Prop} (T:TypeId) {v:Value} (parts:Array (Nat × Operand)) {ps:Array (Nat × Value)} (hr:(Instr.build T ps).run Tryz.prog w=.ok v w)
  (ho:o.op=.build T parts) (hp:parts.map (fun p=>(p.1,act.eval p.2))=ps) (h:K (act.put o.dst v) w):Oper.wp Tryz.prog o act w K Q:=by
 subst hp;unfold Oper.wp execOp;simp only [ho,Sem.run_bind,hr,Result.andThen_ok,Sem.run_pure];exact h
theorem CJ (e:qa) (se:e.shape) (w:World) (re:e.reads w) (hl:e.short 1048576) (hc:e.KA):
  Calls Tryz.prog 55 #[.agg e.cells.toArray] w fun r w'=>∃ t:qa,r=.returned (.agg t.cells.toArray)∧t.shape∧Hid (t.v=e.v)∧t.own w' w.heap.size w'.heap.size∧Below w.heap.size w w':=by
 obtain ⟨Z,hZ⟩:∃ Z,Hid (zeroE=Z):=⟨_,rfl⟩;have sZ:Z.shape:=by rw [← hZ.out];exact yM
 have HZ:=Tryz.JV;rw [hZ.out] at HZ;obtain ⟨W,hW,b0,bR,hbW,qp⟩:=jf w e.cells Z.cells 42 42;have HB:Hid (∀ u,Below W.heap.size W u→Box u w.heap.size e.cells 42):=fun u hu=>b0.below hu b0.lt
 have Yc:Hid (∀ u,Below W.heap.size W u→Box u (w.heap.size+1) Z.cells 42):=fun u hu=>bR.below hu bR.lt
 have HR:Hid (∀ u,Below W.heap.size W u→e.reads u):=fun u hu=>(re.below hbW).below hu
 have qR:Hid (∀ u,Below W.heap.size W u→Below w.heap.size w u):=fun u hu=>hbW.trans (hu.mono hbW.size)
 have hw0:w.heap.size+1<W.heap.size:=by omega
 have N:Below W.heap.size W W:=Below.refl _ _;clear b0 bR qp;have HS:Hid (∀ u,Below W.heap.size W u→(u.rangeAt w.heap.size 136 e.qB.cells∧u.rangeAt w.heap.size 138 e.log.cells∧u.cell? ⟨w.heap.size,140,none⟩=some (.slice e.aT e.txs.length e.cT)∧u.cell? ⟨w.heap.size,141,none⟩=some (.slice e.aH e.holds.length e.cH)∧u.cell? ⟨w.heap.size,142,none⟩=some (.int .i64 e.next)∧u.cell? ⟨w.heap.size,143,none⟩=some (.bool e.down))):=fun u hu=>(qH se (HB.out u hu)).2
 go_enter Tryz.func55,Tryz.ntmps55;go_upto_region 1 with (first | (guard_target=wpList _ _ _ (Oper.mk _ (Op.alloc _) _ _ _ _::_) _ _;refine z8 42 Z.cells HZ ?_) | fail);rw [hW.out,show (w.alloc (Obj.cells e.cells.toArray 42)).heap.size=w.heap.size+1 from by simp];clear hW;have D0:Below W.heap.size W W.drew:=N.drew;refine wp_region_held_drew (S:=fun u=>(u.rangeAt w.heap.size 136 e.qB.cells∧u.rangeAt w.heap.size 138 e.log.cells∧u.cell? ⟨w.heap.size,140,none⟩=some (.slice e.aT e.txs.length e.cT)∧u.cell? ⟨w.heap.size,141,none⟩=some (.slice e.aH e.holds.length e.cH)∧u.cell? ⟨w.heap.size,142,none⟩=some (.int .i64 e.next)∧u.cell? ⟨w.heap.size,143,none⟩=some (.bool e.down))) (by kernel_rfl) (HS.out _ D0) (fun hHeld=>?_);generalize W.drew=d0 at*
 refine tr 0 (.pointer (some ⟨w.heap.size,136,none⟩)) ?_;refine Go.Proofs.YtjkckhfddgeboaaGreatDoor.ts 1 rfl (yieldsIf_load_mid (by rfl) _ _ rfl _ _ rfl (e.qB.cells) _ (fun _ h=>h.1) Tryz.underlying35 rfl (kY _)) ?_;refine tr 3 (.pointer (some ⟨w.heap.size,138,none⟩)) ?_;refine Go.Proofs.YtjkckhfddgeboaaGreatDoor.ts 4 rfl (yieldsIf_load_mid (by rfl) _ _ rfl _ _ rfl (e.log.cells) _ (fun _ h=>h.2.1) Tryz.underlying38 rfl (xQ _)) ?_;refine tr 7 (.pointer (some ⟨w.heap.size,140,none⟩)) ?_;refine tk 8 (v:=.slice e.aT e.txs.length e.cT) rfl (Or.inl ⟨by rfl,?_⟩) hHeld ?_
 ·intro w' hSw;have hx:=hSw.2.2.1;go_simp<;>rfl
 try simp only [zz]
 refine tr 11 (.pointer (some ⟨w.heap.size,141,none⟩)) ?_;refine tk 12 (v:=.slice e.aH e.holds.length e.cH) rfl (Or.inl ⟨by rfl,?_⟩) hHeld ?_
 ·intro w' hSw;have hx:=hSw.2.2.2.1;go_simp<;>rfl
 try simp only [zz]
 refine tr 14 (.pointer (some ⟨w.heap.size,142,none⟩)) ?_;refine tk 15 (v:=.int .i64 e.next) rfl (Or.inl ⟨by rfl,?_⟩) hHeld ?_
 ·intro w' hSw;have hx:=hSw.2.2.2.2.1;go_simp<;>rfl
 try simp only [zz]
 refine tr 16 (.pointer (some ⟨w.heap.size,143,none⟩)) ?_;refine tk 17 (v:=.bool e.down) rfl (Or.inl ⟨by rfl,?_⟩) hHeld ?_
 ·intro w' hSw;have hx:=hSw.2.2.2.2.2;go_simp<;>rfl
 try simp only [zz]
 clear hHeld;refine gG (I:=fun l a u=>∃ (c2 c5 c6 c9 c10 c13 c3 c18:Bool) (X2 X5 X6 X9 zO zP X3 Qv:Value) (q:qi) (l':qz) (p0 p1 l0 l1 A6 jT:Nat) (aT:Option Addr) (cT:Nat) (aH:Option Addr) (cH:Nat) (BO:Nat),
  l=#[true,true,c2,true,true,c5,c6,true,true,c9,c10,true,true,c13,true,true,true,true,c18,c3,false]∧a=⟨([.agg e.cells.toArray,.pointer (some ⟨w.heap.size,0,none⟩),.pointer (some ⟨w.heap.size+1,0,none⟩),X3,undef,.pointer (some ⟨w.heap.size,136,none⟩),.agg (e.qB.cells).toArray,X2,.pointer (some ⟨w.heap.size,138,none⟩),.agg (e.log.cells).toArray,X5,X6,.pointer (some ⟨w.heap.size,140,none⟩),.slice e.aT e.txs.length e.cT,X9,zO,.pointer (some ⟨w.heap.size,141,none⟩),.slice e.aH e.holds.length e.cH,zP,.pointer (some ⟨w.heap.size,142,none⟩),.int .i64 e.next,.pointer (some ⟨w.heap.size,143,none⟩),.bool e.down,Qv,undef,undef,undef,undef,undef,undef,undef,undef,undef,undef,undef,undef,undef]:List Value).toArray,[]⟩∧CopI e W.heap.size u c2 c5 c6 c9 c10 c13 X2 X5 X6 X9 zO zP q l' p0 p1 l0 l1 A6 jT aT cT aH cH∧CopB Z e.txs.length e.holds.length W.heap.size u c3 c6 c9 c10 c13 X3 BO p0 p1 l0 l1 A6 jT aT cT aH cH∧(c18=true→(c2 && (c5 && (c6 && (c9 && (c10 && c13)))))=true∧Qv=.agg (ZI e q l' aT cT aH cH).cells.toArray)∧Below W.heap.size W u)
  (stop:=fun l=>l.getD 18 false && l.getD 19 false) ?_ ?_ _ _ _ _ (by kernel_rfl) ?_
 rotate_right
 ·exact ⟨false,false,false,false,false,false,false,false,undef,undef,undef,undef,undef,undef,undef,undef,e.qB,e.log,0,0,0,0,0,0,none,0,none,0,0,by kernel_rfl,rfl,CopI.start e _ _ _ _ _ _ _ _ D0.size,CopB.start _ _,nofun,D0⟩
 ·rintro l a u ⟨c2,c5,c6,c9,c10,c13,c3,c18,X2,X5,X6,X9,zO,zP,X3,Qv,q,l',p0,p1,l0,l1,A6,jT,aT,cT,aH,cH,BO,rfl,rfl,hI,hB,h18,hN⟩ hst;refine MR (fun j=>(j == 2 && !c2) || ((j == 5 && (!c5 && c2)) || ((j == 6 && !c6) || ((j == 9 && (!c9 && (c5 && c6))) || ((j == 10 && !c10) || ((j == 13 && (!c13 && (c9 && c10))) || ((j == 19 && !c3) || (j == 18 && (!c18 && (c2 && (c5 && (c6 && (c9 && (c10 && c13)))))))))))))) ?_ ?_
  ·have hval:=And.intro hI.val (fun h=>(h18 h).1);clear hI hB hN h18;revert hst hval;cases c2<;>cases c5<;>cases c6<;>cases c9<;>cases c10<;>cases c13<;>cases c3<;>cases c18<;>first | exact (fun h _=>absurd h (by decide)) | exact (fun _ h=>absurd h (by decide)) | exact (fun _ _=>by (show _=true;kernel_rfl))
  ·clear hst;intro j hj;simp only [Bool.or_eq_true,Bool.and_eq_true,beq_iff_eq,Bool.not_eq_true'] at hj;rcases hj with (⟨rfl,rfl⟩ | ⟨rfl,rfl,h2⟩ | ⟨rfl,rfl⟩ | ⟨rfl,rfl,h5,h6⟩ | ⟨rfl,rfl⟩ | ⟨rfl,rfl,h9,h10⟩ | ⟨rfl,rfl⟩ | ⟨rfl,rfl,a2,a5,a6,a9,a10,om⟩)
   ·refine yD rfl (fun K hK=>?_);go_simp;refine (Cm e.qB u (HR.out _ hN).pool hl.pool).mono ?_;rintro r u' ⟨t,rfl,hv,ho,hb⟩;have hN':Below W.heap.size W u':=hN.trans (hb.mono hN.size);exact hK.out _ _ ⟨HS.out _ hN',true,c5,c6,c9,c10,c13,c3,c18,_,X5,X6,X9,zO,zP,X3,Qv,t,l',_,_,l0,l1,A6,jT,aT,cT,aH,cH,BO,by kernel_rfl,rfl,hI.step2 rfl hv ho hb,hB.step2 hb,fun h=>absurd (h18 h).1 (by simp),hN'⟩
   ·refine yD rfl (fun K hK=>?_);go_simp;refine (rJ e.log u (HR.out _ hN).log hl.log hc.recs).mono ?_;rintro r u' ⟨t,rfl,hv,ho,hb⟩;have hN':Below W.heap.size W u':=hN.trans (hb.mono hN.size);exact hK.out _ _ ⟨HS.out _ hN',c2,true,c6,c9,c10,c13,c3,c18,X2,_,X6,X9,zO,zP,X3,Qv,q,t,p0,p1,_,_,A6,jT,aT,cT,aH,cH,BO,by kernel_rfl,rfl,hI.Cw h2 rfl hv ho hb,hB.Cw hb,fun h=>absurd (h18 h).1 (by simp),hN'⟩
   ·refine yD rfl (fun K hK=>?_);have hb:Below u.heap.size u (u.alloc (.cells #[] 118)):=(Below.refl _ _).alloc (Nat.le_refl _) _;have hN':Below W.heap.size W (u.alloc (.cells #[] 118)):=hN.trans (hb.mono hN.size);go_simp;exact hK.out _ _ ⟨HS.out _ hN',c2,c5,true,c9,c10,c13,c3,c18,X2,X5,_,X9,zO,zP,X3,Qv,q,l',p0,p1,l0,l1,_,jT,aT,cT,aH,cH,BO,by kernel_rfl,rfl,hI.Cx rfl rfl,hB.Cx hb,fun h=>absurd (h18 h).1 (by simp),hN'⟩
   ·refine yD rfl (fun K hK=>?_);obtain ⟨x1,x2,x3,x4,_,_⟩:=hI.six h6;refine Us rfl (.tmp 11) (.tmp 13) rfl A6 (A6+1) (some ⟨A6,0,none⟩) 0 [] (by rw [x1];rfl) (x2 rfl) e.aT e.cT e.txs rfl (HR.out _ hN).txs hc.txs (by have:=hl.txs;simp only [List.length_nil];omega) (by omega) ?_;intro a' c' ys u' hys ho hg hk;have Vr:ys=e.txs:=hys.out;subst Vr;have hN':Below W.heap.size W u':=hN.grown hg hN.size (fun k hk=>by cases hk;exact x3);exact hK.out _ _ ⟨HS.out _ hN',c2,c5,c6,true,c10,c13,c3,c18,X2,X5,X6,_,zO,zP,X3,Qv,q,l',p0,p1,l0,l1,A6,jT,a',c',aH,cH,BO,by kernel_rfl,rfl,hI.Cy h5 h6 rfl ho hg hk,hB.Cy h6 hg hk,fun h=>absurd (h18 h).1 (by simp),hN'⟩
   ·refine yD rfl (fun K hK=>?_);have hb:Below u.heap.size u (u.alloc (.cells #[] 185)):=(Below.refl _ _).alloc (Nat.le_refl _) _;have hN':Below W.heap.size W (u.alloc (.cells #[] 185)):=hN.trans (hb.mono hN.size);go_simp;exact hK.out _ _ ⟨HS.out _ hN',c2,c5,c6,c9,true,c13,c3,c18,X2,X5,X6,X9,_,zP,X3,Qv,q,l',p0,p1,l0,l1,A6,_,aT,cT,aH,cH,BO,by kernel_rfl,rfl,hI.Pp rfl rfl,hB.Pp hb,fun h=>absurd (h18 h).1 (by simp),hN'⟩
   ·refine yD rfl (fun K hK=>?_);obtain ⟨x1,x2,x3,x4,_,_⟩:=hI.ten h10;refine Ut rfl (.tmp 15) (.tmp 17) rfl jT (jT+1) (some ⟨jT,0,none⟩) 0 [] (by rw [x1];rfl) (x2 rfl) e.aH e.cH e.holds rfl (HR.out _ hN).holds hc.holds (by have:=hl.holds;simp only [List.length_nil];omega) (by omega) ?_;intro a' c' ys u' hys ho hg hk;have Vr:ys=e.holds:=hys.out;subst Vr;have hN':Below W.heap.size W u':=hN.grown hg hN.size (fun k hk=>by cases hk;exact x3);exact hK.out _ _ ⟨HS.out _ hN',c2,c5,c6,c9,c10,true,c3,c18,X2,X5,X6,X9,zO,_,X3,Qv,q,l',p0,p1,l0,l1,A6,jT,aT,cT,a',c',BO,by kernel_rfl,rfl,hI.Pq h9 h10 rfl ho hg hk,hB.Pq h10 hg hk,fun h=>absurd (h18 h).1 (by simp),hN'⟩
   ·refine yD rfl (fun K hK=>?_);obtain ⟨u',hu',bu,hb,_⟩:=qx u Z.cells 42;have hN':Below W.heap.size W u':=hN.trans (hb.mono hN.size);refine CF 42 Z.cells HZ ?_;rw [hu'.out];exact hK.out _ _ ⟨HS.out _ hN',c2,c5,c6,c9,c10,c13,true,c18,X2,X5,X6,X9,zO,zP,_,Qv,q,l',p0,p1,l0,l1,A6,jT,aT,cT,aH,cH,_,by kernel_rfl,rfl,hI.below hb,CopB.laid hI rfl bu,h18,hN'⟩
   ·refine yD rfl (fun K hK=>?_);subst a2 a5 a6 a9 a10 om;obtain ⟨rfl,rfl,rfl,rfl,_⟩:=hI.whole;rw [if_pos (by rfl)];refine CG 42 #[(1,.tmp 7),(2,.tmp 10),(3,.tmp 14),(4,.tmp 18),(5,.tmp 20),(6,.tmp 22)] (DJ u e q l' aT cT aH cH) rfl (by simp only [List.map_toArray,List.map_cons,List.map_nil];rfl) ?_;exact hK.out _ _ ⟨HS.out _ hN,true,true,true,true,true,true,c3,true,_,_,X6,_,zO,_,X3,_,q,l',p0,p1,l0,l1,A6,jT,aT,cT,aH,cH,BO,by kernel_rfl,rfl,hI,hB,fun _=>⟨rfl,rfl⟩,hN⟩
 rintro l a u ⟨c2,c5,c6,c9,c10,c13,c3,c18,X2,X5,X6,X9,zO,zP,X3,Qv,q,l',p0,p1,l0,l1,A6,jT,aT,cT,aH,cH,BO,rfl,rfl,hI,hB,h18,hN⟩ hst;obtain ⟨rfl,rfl⟩:c18=true∧c3=true:=by simpa using hst
 clear hst;obtain ⟨hcs,rfl⟩:=h18 rfl;obtain ⟨rfl,rfl,rfl,rfl,rfl,rfl⟩:c2=true∧c5=true∧c6=true∧c9=true∧c10=true∧c13=true:=by simpa using hcs
 clear h18 hcs;obtain ⟨rfl,rfl,rfl,rfl,hv2,hv5,_⟩:=hI.whole;have hsh:=Cz e q l' aT cT aH cH;have HWH:Hid (∀ (t:qa),t.disk.map xH=e.disk.map xH→(t.seats,t.aS,t.cS,t.hand,t.log,t.txs,t.aT,t.cT,t.holds,t.aH,t.cH,t.next,t.down)=(q.seats,q.a,q.c,q.hand,l',e.txs,aT,cT,e.holds,aH,cH,e.next,e.down)→t.v=e.v):=fun t h1 h2=>by
  have v2:=hv2.out;have v5:=hv5.out;simp only [Prod.mk.injEq] at h2;obtain ⟨g1,g2,g3,g4,g5,g6,g7,g8,g9,g10,g11,g12,g13⟩:=h2;simp only [qi.v,qa.qB,jN.mk.injEq] at v2;simp only [qa.v,g1,g4,g5,g6,g9,g12,g13,v2.1,v2.2,v5];congr 1
 obtain ⟨rfl,bu,hBl,_,_⟩:=hB.box rfl;obtain ⟨ho,hBO⟩:=hI.eng hB;clear hI hB hv2 hv5;obtain ⟨u1,hu1,hw1,hs1,HT1,b1⟩:=Qj hsh sZ bu;have z1:=hw1.size;have z2:=Nat.le_of_eq hs1;have o1:(ZI e q l' aT cT aH cH).own u1 W.heap.size u1.heap.size:=(ho.touch (Uj hw1) (fun k hk hm=>hBO (by rw [← List.mem_singleton.1 hm];exact hk))).widen (Nat.le_refl _) (by omega) (Nat.le_refl _);have hN1:Below W.heap.size W u1:=hN.trans (hw1.below hBl (by have:=hN.size;omega));have hlB:BO<u1.heap.size:=b1.lt;show wpAnyH _ _ _ _ _ 1 _ _ _;refine wpAnyH_ready (rs:=[20]) (by kernel_rfl) (by simp) ?_;refine AllReadyH.cons rfl (fun K hK=>?_) AllReadyH.nil;rw [if_pos (by rfl)];refine wp_store_mid 42 (.tmp 3) (.tmp 23) rfl BO 0 (ZI e q l' aT cT aH cH).cells.toArray rfl rfl HT1.out (by rw [List.size_toArray];exact kI hsh) (all_oneCell_toArray (JW _)) ?_;rw [hu1.out];refine hK.out _ _ (HS.out _ hN1) (fun hHeld=>?_);clear hK K hHeld;try simp only [zz]
 refine wpAnyH_done (by kernel_rfl) ?_ _;clear bu ho hN hw1 hs1 HT1 hu1 z1 z2 HS;have HT0:Hid (∀ ts:List qw,ts.map xH=e.disk.map xH→({ (ZI e q l' aT cT aH cH) with disk:=ts }:qa).v=e.v):=fun ts h=>HWH.out _ h rfl
 clear HWH;generalize ZI e q l' aT cT aH cH=t0 at*
 have dY:Hid (t0.disk.length=8∧e.disk.length=8):=⟨hsh.eight,se.eight⟩;have Uv:Hid (∀ p∈e.disk,Fit p.ss):=fun p hp s hs=>by have:=hl.disk p hp s hs;omega
 have b1':Box u1 BO (qj ([]++t0.disk.drop 0)++t0.tail) 42:=b1;clear b1;go_wp2_with fail;go_loopw [4] (fun i wr=>∃ (k:Nat) (ts:List qw),k≤8∧i=.int .i64 (k:Int)∧Hid (ts.length=k∧(∀ p∈ts,p.ss.length=4)∧ts.map xH=(e.disk.take k).map xH)∧qG wr u1.heap.size wr.heap.size (qI ts)∧Box wr BO (qj (ts++t0.disk.drop k)++t0.tail) 42∧t0.own wr W.heap.size u1.heap.size∧Below W.heap.size W wr∧u1.heap.size≤wr.heap.size) (fun i _=>8-(intOf i).toNat)
 case atStart=>exact ⟨0,[],Nat.zero_le _,rfl,⟨rfl,fun p hp=>by (simp at hp),rfl⟩,qG.nil _ _ _,b1',o1,hN1,Nat.le_refl _⟩
 case round=>
  obtain ⟨k,ts,hk,rfl,hts,hown,c1,ot,hnx,uX⟩:=hrel;clear b1' o1 hN1;by_cases hlt:k<8
  ·have hkl:k<e.disk.length:=by rw [dY.out.2];exact hlt
   have hkt:k<t0.disk.length:=by rw [dY.out.1];exact hlt
   have zT:=se.yQ.at hlt;have HZ4:=hsh.yQ.at hlt;have F1:=Uv.out _ (j4 (k:=k) hkl);have R1:=(HR.out _ hnx).disk _ (j4 (k:=k) hkl);have Qs:Hid ((e.disk.take (k+1)).map xH=(e.disk.take k).map xH++[xH (e.disk.getD k qM)]):=by rw [Hid,List.take_succ_eq_append_getElem hkl,zm hkl,List.map_append];rfl
   have HDR:t0.disk.drop k=t0.disk.getD k qM::t0.disk.drop (k+1):=by rw [← zm hkt];exact List.drop_eq_getElem_cons hkt
   have rP:wr.rangeAt w.heap.size (k*17) (e.disk.getD k qM).cells:=by have:=qa.YT se (HB.out _ hnx) k hkl;rwa [zm hkl] at this
   rw [HDR] at c1;clear HDR;generalize e.disk.getD k qM=p at*
   generalize t0.disk.getD k qM=zp at*
   have JK:=jM p zT;have C1:=K6 p zT wr R1 F1;have hi0:(0:Int)≤(k:Int):=by omega
   have dW:(k:Int)<8:=by omega
   clear R1;go_wp2_with (first | (guard_target=wpList _ _ _ (Oper.mk (some 32) _ _ _ _ _::_) _ _;refine wpList_load_mid rfl 31 (.tmp 31) rfl w.heap.size (k*17) rfl (p.cells) _ rP Tryz.underlying31 rfl JK ?_) | fail);refine C1.mono ?_;clear C1 rP;rintro r w1 ⟨us,rfl,hv,ho1,hb1⟩;have dZ:us.length=4:=by have:=congrArg List.length hv.out;simp only [List.length_map] at this;omega
   have s1:=hb1.size;obtain ⟨q,hq⟩:∃ q:qw,Hid ((⟨p.lsn,us⟩:qw)=q):=⟨_,rfl⟩;have hq4:q.ss.length=4:=by rw [← hq.out];exact dZ
   have oq:qG w1 wr.heap.size w1.heap.size q.ss:=by rw [← hq.out];exact ho1
   have KO:Hid (xH q=xH p):=by rw [Hid,← hq.out];simp only [xH];rw [hv.out]
   rw [hq.out];clear hq hv ho1 dZ;replace c1:=c1.below hb1 c1.lt;have hown1:=hown.below hb1;replace hnx:=hnx.trans (hb1.mono hnx.size);replace ot:=ot.below hb1;rw [vM,wS,List.append_assoc,List.append_assoc] at c1;obtain ⟨W2,hW2,d3,hw2,hs2⟩:=jb (qj ts) zp.cells q.cells (qj (t0.disk.drop (k+1))++t0.tail) c1 (by rw [jo q hq4,jo zp HZ4]);have hl3:(qj ts).length=k*17:=by rw [jL _ hts.out.2.1,hts.out.1]
   rw [hl3] at hW2;have XX:Hid (w1.there BO (k*17) q.cells.toArray.size):=c1.there _ _ (by rw [List.size_toArray,jo q hq4,List.length_append,List.length_append,hl3,jo zp HZ4];omega);have s2:=hw2.size;have FN:Box W2 BO (qj ((ts++[q])++t0.disk.drop (k+1))++t0.tail) 42:=by
    rw [List.append_assoc,vM,List.singleton_append,wS,List.append_assoc,List.append_assoc];exact d3
   have HOW:Hid (qG W2 u1.heap.size W2.heap.size (qI (ts++[q]))∧t0.own W2 W.heap.size u1.heap.size):=by
    refine ⟨?_,ot.touch (Uj hw2) (fun k hk hm=>hBO (by rw [← List.mem_singleton.1 hm];exact hk))⟩;rw [Jn,QC];have o:=(hown1.sO oq (by omega) (by omega) (Nat.le_refl _))
    simpa [qI] using (o.within hw2 (.inr (by omega))).widen (Nat.le_refl _) s2 (Nat.le_refl _)
   have Ga:Hid ((ts++[q]).length=k+1∧(∀ p∈ts++[q],p.ss.length=4)∧(ts++[q]).map xH=(e.disk.take (k+1)).map xH):=by
    refine ⟨by rw [List.length_append,hts.out.1];rfl,fun x hx=>?_,?_⟩
    ·rcases List.mem_append.1 hx with h | h
     ·exact hts.out.2.1 x h
     ·rw [List.mem_singleton.1 h];exact hq4
    ·rw [Qs.out,List.map_append,hts.out.2.2,← KO.out];rfl
   have HN:Hid (Below W.heap.size W W2∧u1.heap.size≤W2.heap.size):=⟨hnx.trans (hw2.below hBl (by have:=hnx.size;omega)),by omega⟩;have Xl:Hid ((Tryz.prog.info? 31).map (·.size)=some q.cells.toArray.size):=jM q hq4;have Gb:=all_oneCell_toArray (Qx q);have HW2:Hid (w1.setCells BO (k*17) q.cells.toArray.toList=W2):=hW2.out;clear c1 d3 hown hown1 oq hw2 hs2 hW2 hnx hts Qs KO hl3 hb1 ot;go_wp2_with (first | (guard_target=wpList _ _ _ (Oper.mk none (Op.store _ (Operand.tmp 35) _) _ _ _ _::_) _ _;refine wpList_store_mid rfl 31 (.tmp 35) (.tmp 33) rfl BO (k*17) (q.cells).toArray rfl rfl XX.out Xl.out Gb ?_) | fail);rw [HW2.out];go_roundw
   case rel=>exact ⟨k+1,ts++[q],by omega,by go_num,Ga,HOW.out.1,FN,HOW.out.2,HN.out.1,HN.out.2⟩
   case measure=>simp [intOf];omega
  ·obtain rfl:k=8:=by omega
   have hkk:¬ ((8:Nat):Int)<8:=by omega
   obtain ⟨T,hT⟩:∃ T:qa,Hid (({ t0 with disk:=ts }:qa)=T):=⟨_,rfl⟩;have sT:T.shape:=by rw [← hT.out];exact ⟨hts.out.1,hts.out.2.1⟩
   have bT:Box wr BO T.cells 42:=by
    have e0:t0.disk.drop 8=[]:=List.drop_eq_nil_of_le (by rw [dY.out.1];exact Nat.le_refl _);rw [e0,List.append_nil] at c1;rw [← hT.out];exact c1
   have HV:Hid (T.v=e.v):=by rw [Hid,← hT.out];exact HT0.out ts (by rw [hts.out.2.2,← dY.out.2,List.take_length])
   have oT:T.own wr W.heap.size wr.heap.size:=by
    rw [← hT.out];exact iL ot hown (by omega) uX (Nat.le_refl _)
   have bR:=Yc.out _ hnx;obtain ⟨WF,qF,hwF,qN,kz,bF⟩:=Qj sT sZ bR;have MC:Hid (_=_):=Xn sT bF;have rT:wr.rangeAt BO 0 T.cells:=Box.range [] T.cells [] (by simpa using bT);have Af:Hid (T.own WF w.heap.size WF.heap.size∧Below w.heap.size w WF):=⟨(oT.within hwF (.inr (by omega))).widen (by omega) (by omega) (Nat.le_refl _),(qR.out _ hnx).trans (hwF.below (by omega) (by have:=hnx.size;omega))⟩;have HI:=kI sT;have HO:=all_oneCell_toArray (JW T);clear hwF qN bF oT bT bR c1 hown ot hts hT;go_wp2_with (first | (guard_target=wpList _ _ _ (Oper.mk (some 36) _ _ _ _ _::_) _ _;refine wpList_load_mid rfl 42 (.tmp 3) rfl BO 0 rfl (T.cells) _ rT Tryz.underlying42 rfl HI ?_) | (guard_target=wpList _ _ _ (Oper.mk none (Op.store _ (Operand.tmp 2) _) _ _ _ _::_) _ _;refine wpList_store_mid rfl 42 (.tmp 2) (.tmp 36) rfl (w.heap.size+1) 0 (T.cells).toArray rfl rfl kz.out (by rw [List.size_toArray];exact HI) HO ?_) | fail);rw [qF.out];exact bodyPost_ret (v:=.agg T.cells.toArray) (jk Tryz.results55 rfl MC.out) rfl ⟨T,rfl,sT,HV,Af.out.1,Af.out.2⟩
end Go.Proofs.YtjkckhfddgeboaaGreatDoor
namespace Go.Proofs.YtjkckhfddgeboaaGreatDoor
open Go.RowKit
theorem Ps (e:ji) (a:Bool):jS e a=0∨jS e a=1∨jS e a=4:=by
 unfold jS;split
 ·split
  ·exact .inr (.inr rfl)
  ·exact .inl rfl
 ·exact .inr (.inl rfl)
theorem CK {e:ji} {a:Bool} (h:jS e true=1):jS e a=1:=by
 unfold jS at h ⊢;cases a with
 | true=>exact h
 | false=>simp
theorem VE (e:ji):jS e false=1:=by unfold jS;simp
theorem MX (e:qa) (oid:Int) (se:e.shape) (w:World) (re:e.reads w) (hl:e.short 1048576) (hc:e.KA):
  Calls Tryz.prog 37 #[.agg e.cells.toArray,.int .i64 oid] w fun r w'=>bY (xA e.v oid) w r w':=by
 obtain ⟨Z,hZ⟩:∃ Z,Hid (zeroE=Z):=⟨_,rfl⟩;have sZ:Z.shape:=by rw [← hZ.out];exact yM
 have HZ:=Tryz.JV;rw [hZ.out] at HZ;obtain ⟨W,hW0,b0,bR,bS,hbW,qp⟩:=yn w e.cells Z.cells qh.cells 42 42 28;have hW:Hid (((w.alloc (.cells e.cells.toArray 42)).alloc (.cells Z.cells.toArray 42)).alloc (.cells #[.bool false,.int .i64 0,.slice none 0 0,.slice none 0 0] 28)=W):=hW0.out;have ML:Box W (w.heap.size+2) qh.cells 28:=bS;have HB:Hid (∀ u,Below W.heap.size W u→Box u w.heap.size e.cells 42):=fun u hu=>b0.below hu b0.lt
 have Yc:Hid (∀ u,Below W.heap.size W u→Box u (w.heap.size+1) Z.cells 42∧Box u (w.heap.size+2) qh.cells 28):=fun u hu=>⟨bR.below hu bR.lt,ML.below hu ML.lt⟩
 have HR:Hid (∀ u,Below W.heap.size W u→e.reads u):=fun u hu=>(re.below hbW).below hu
 have qR:Hid (∀ u,Below W.heap.size W u→Below w.heap.size w u):=fun u hu=>hbW.trans (hu.mono hbW.size)
 have hw0:w.heap.size+2<W.heap.size:=by omega
 have N0:Below W.heap.size W W:=Below.refl _ _;have cz:=kI se;have EB:Hid (Below w.heap.size w W):=hbW;have FIN:Hid (∀ (D:qa) (y:qf) (b:Nat) (u:World),D.shape→Below W.heap.size W u→D.own u W.heap.size u.heap.size→y.own u b u.heap.size→W.heap.size≤b→∃ W1 WF,Hid (u.setCells (w.heap.size+1) 0 D.cells.toArray.toList=W1)∧Hid (u.there (w.heap.size+1) 0 D.cells.toArray.size)∧Hid (W1.setCells (w.heap.size+2) 0 y.cells.toArray.toList=WF)∧Hid (W1.there (w.heap.size+2) 0 y.cells.toArray.size)∧Hid ((loadVar 42 ⟨w.heap.size+1,0,none⟩).run Tryz.prog WF=.ok (.agg D.cells.toArray) WF)∧Hid ((loadVar 28 ⟨w.heap.size+2,0,none⟩).run Tryz.prog WF=.ok (.agg y.cells.toArray) WF)∧Within (w.heap.size+1) (w.heap.size+3) u WF∧Within (w.heap.size+1) (w.heap.size+3) u W1∧Hid (D.own WF w.heap.size WF.heap.size∧y.own WF w.heap.size WF.heap.size∧Below w.heap.size w WF)):=fun D y b u sD hu od oy hb=>cu sZ sD EB.out hw0 hu (Yc.out u hu).1 (Yc.out u hu).2 od oy hb
 have QG:Hid (∀ u b,b≤(u:World).heap.size→qf.own u b u.heap.size qh):=fun u b _=>Xt u b u.heap.size (Nat.le_refl _)
 have r0:W.rangeAt w.heap.size 0 e.cells:=Box.range [] e.cells [] (by simpa using HB.out _ N0);have C:=CJ e se W (HR.out _ N0) hl hc;clear b0 bR bS ML qp hW0;go_enter Tryz.func37,Tryz.ntmps37;go_upto_region 1 with (first | (guard_target=wpList _ _ _ (Oper.mk _ (Op.alloc 42) _ _ _ _::_) _ _;refine z8 42 Z.cells HZ ?_) | fail);rw [hW.out];clear hW;go_wp2_with (first | (guard_target=wpList _ _ _ (Oper.mk (some 10) _ _ _ _ _::_) _ _;refine wpList_load_mid rfl 42 (.tmp 2) rfl w.heap.size 0 rfl (e.cells) _ (r0) Tryz.underlying42 rfl cz ?_) | fail);refine C.mono ?_;clear C r0;rintro r d1 ⟨t,rfl,st,hv,ot,hb⟩;have N1:Below W.heap.size W d1:=N0.trans (hb.mono N0.size);have z1:=N1.size;obtain ⟨Zd,Ag,bZ,uY,Xh⟩:=qx d1 Z.cells 42;obtain ⟨d2,hd2,hw2,hs2,HT2,b5⟩:=Qj st sZ bZ;have hb2:Below d1.heap.size d1 d2:=uY.trans (hw2.below (Nat.le_refl _) (by omega));have N2:Below W.heap.size W d2:=N1.trans (hb2.mono N1.size);have z2:=b5.lt;have RX:=ot.below hb2;have Ko:=kI st;have MM:=all_oneCell_toArray (JW t);have r2:d2.rangeAt w.heap.size 0 e.cells:=Box.range [] e.cells [] (by simpa using HB.out _ N2);have C:=Cv e se d2 (HR.out _ N2) hl;clear bZ uY Xh hw2 hs2 hb ot;go_wp2_with (first | (guard_target=wpList _ _ _ (Oper.mk _ (Op.alloc 42) _ _ _ _::_) _ _;refine z8 42 Z.cells HZ ?_) | (guard_target=wpList _ _ _ (Oper.mk none (Op.store _ (Operand.tmp 7) _) _ _ _ _::_) _ _;refine wpList_store_mid rfl 42 (.tmp 7) (.tmp 11) rfl d1.heap.size 0 (t.cells).toArray rfl rfl (by rw [Ag.out];exact HT2.out) (by rw [List.size_toArray];exact Ko) MM ?_) | (guard_target=wpList _ _ _ (Oper.mk (some 12) _ _ _ _ _::_) _ _;refine wpList_load_mid rfl 42 (.tmp 2) rfl w.heap.size 0 rfl (e.cells) _ (by rw [Ag.out,hd2.out];exact r2) Tryz.underlying42 rfl cz ?_) | fail);rw [Ag.out,hd2.out];clear Ag hd2 HT2 r2;refine C.mono ?_;clear C;rintro r d3 ⟨rfl,hb⟩;have N3:Below W.heap.size W d3:=N2.trans (hb.mono N2.size);have z3:=hb.size;replace b5:=b5.below hb b5.lt;have XJ:=RX.below hb;clear hb RX;have r3:d3.rangeAt d1.heap.size 0 t.cells:=Box.range [] t.cells [] (by simpa using b5);have CI:=jd oid 1 31 d3;rcases Ps e.v true with hz | hz | hz;rotate_left
 ·have HV:Hid (xA e.v oid=(e.v,qh.v,1)):=by rw [Hid,xA,CK hz,if_pos (by decide)]
  rw [hz];clear hz CI;obtain ⟨W1,WF,hW1,HT1,qF,kz,KR,Y2,_,_,HE⟩:=FIN.out t qh W.heap.size d3 st N3 (XJ.widen (Nat.le_refl _) (by omega) (Nat.le_refl _)) (QG.out _ _ N3.size) (Nat.le_refl _);clear XJ;go_wp2_with (first | (guard_target=wpList _ _ _ (Oper.mk _ (Op.build _ _) _ _ _ _::_) _ _;refine QF ?_) | (guard_target=wpList _ _ _ (Oper.mk (some 21) _ _ _ _ _::_) _ _;refine wpList_load_mid rfl 42 (.tmp 7) rfl d1.heap.size 0 rfl (t.cells) _ (r3) Tryz.underlying42 rfl Ko ?_) | (guard_target=wpList _ _ _ (Oper.mk none (Op.store _ (Operand.tmp 4) _) _ _ _ _::_) _ _;refine wpList_store_mid rfl 42 (.tmp 4) (.tmp 21) rfl (w.heap.size+1) 0 (t.cells).toArray rfl rfl HT1.out (by rw [List.size_toArray];exact Ko) MM ?_) | (guard_target=wpList _ _ _ (Oper.mk none (Op.store _ (Operand.tmp 5) _) _ _ _ _::_) _ _;refine wpList_store_mid rfl 28 (.tmp 5) (.tmp 22) rfl (w.heap.size+2) 0 (qh.cells).toArray rfl rfl (by rw [hW1.out];exact kz.out) (by rw [List.size_toArray];exact (xX qh)) (zM qh) ?_) | fail);rw [hW1.out,qF.out];exact bodyPost_ret (v:=.tuple #[.agg t.cells.toArray,.agg qh.cells.toArray,.int .i64 1]) (ui Tryz.results37 rfl rfl KR.out Y2.out rfl) rfl ⟨t,qh,by rw [HV.out],st,by rw [HV.out];exact hv,by rw [HV.out];exact rfl,HE.out.1,HE.out.2.1,fun k hk=>absurd hk (by simp [qf.blocks,qh,Value.ownBlock]),HE.out.2.2⟩
 ·rw [hz];cases hi:inB oid 1 31 with
  | false=>
   have HV:Hid (xA e.v oid=(e.v,qh.v,1)):=by rw [Hid,xA,hi,VE,if_pos (by decide)]
   rw [hi] at CI;clear hz hi;go_wp2_with fail;refine CI.mono ?_;rintro r dd ⟨rfl,rfl⟩;obtain ⟨W1,WF,hW1,HT1,qF,kz,KR,Y2,_,_,HE⟩:=FIN.out t qh W.heap.size dd st N3 (XJ.widen (Nat.le_refl _) (by omega) (Nat.le_refl _)) (QG.out _ _ N3.size) (Nat.le_refl _);clear XJ;go_wp2_with (first | (guard_target=wpList _ _ _ (Oper.mk _ (Op.build _ _) _ _ _ _::_) _ _;refine QF ?_) | (guard_target=wpList _ _ _ (Oper.mk (some 21) _ _ _ _ _::_) _ _;refine wpList_load_mid rfl 42 (.tmp 7) rfl d1.heap.size 0 rfl (t.cells) _ (r3) Tryz.underlying42 rfl Ko ?_) | (guard_target=wpList _ _ _ (Oper.mk none (Op.store _ (Operand.tmp 4) _) _ _ _ _::_) _ _;refine wpList_store_mid rfl 42 (.tmp 4) (.tmp 21) rfl (w.heap.size+1) 0 (t.cells).toArray rfl rfl HT1.out (by rw [List.size_toArray];exact Ko) MM ?_) | (guard_target=wpList _ _ _ (Oper.mk none (Op.store _ (Operand.tmp 5) _) _ _ _ _::_) _ _;refine wpList_store_mid rfl 28 (.tmp 5) (.tmp 22) rfl (w.heap.size+2) 0 (qh.cells).toArray rfl rfl (by rw [hW1.out];exact kz.out) (by rw [List.size_toArray];exact (xX qh)) (zM qh) ?_) | fail);rw [hW1.out,qF.out];exact bodyPost_ret (v:=.tuple #[.agg t.cells.toArray,.agg qh.cells.toArray,.int .i64 1]) (ui Tryz.results37 rfl rfl KR.out Y2.out rfl) rfl ⟨t,qh,by rw [HV.out],st,by rw [HV.out];exact hv,by rw [HV.out];exact rfl,HE.out.1,HE.out.2.1,fun k hk=>absurd hk (by simp [qf.blocks,qh,Value.ownBlock]),HE.out.2.2⟩
  | true=>
   have HV:Hid (xA e.v oid=(e.v,qh.v,4)):=by rw [Hid,xA,hi,hz,if_pos (by decide)]
   rw [hi] at CI;clear hz hi;go_wp2_with fail;refine CI.mono ?_;rintro r dd ⟨rfl,rfl⟩;obtain ⟨W1,WF,hW1,HT1,qF,kz,KR,Y2,_,_,HE⟩:=FIN.out t qh W.heap.size dd st N3 (XJ.widen (Nat.le_refl _) (by omega) (Nat.le_refl _)) (QG.out _ _ N3.size) (Nat.le_refl _);clear XJ;go_wp2_with (first | (guard_target=wpList _ _ _ (Oper.mk _ (Op.build _ _) _ _ _ _::_) _ _;refine QF ?_) | (guard_target=wpList _ _ _ (Oper.mk (some 25) _ _ _ _ _::_) _ _;refine wpList_load_mid rfl 42 (.tmp 7) rfl d1.heap.size 0 rfl (t.cells) _ (r3) Tryz.underlying42 rfl Ko ?_) | (guard_target=wpList _ _ _ (Oper.mk none (Op.store _ (Operand.tmp 4) _) _ _ _ _::_) _ _;refine wpList_store_mid rfl 42 (.tmp 4) (.tmp 25) rfl (w.heap.size+1) 0 (t.cells).toArray rfl rfl HT1.out (by rw [List.size_toArray];exact Ko) MM ?_) | (guard_target=wpList _ _ _ (Oper.mk none (Op.store _ (Operand.tmp 5) _) _ _ _ _::_) _ _;refine wpList_store_mid rfl 28 (.tmp 5) (.tmp 26) rfl (w.heap.size+2) 0 (qh.cells).toArray rfl rfl (by rw [hW1.out];exact kz.out) (by rw [List.size_toArray];exact (xX qh)) (zM qh) ?_) | fail);rw [hW1.out,qF.out];exact bodyPost_ret (v:=.tuple #[.agg t.cells.toArray,.agg qh.cells.toArray,.int .i64 4]) (ui Tryz.results37 rfl rfl KR.out Y2.out rfl) rfl ⟨t,qh,by rw [HV.out],st,by rw [HV.out];exact hv,by rw [HV.out];exact rfl,HE.out.1,HE.out.2.1,fun k hk=>absurd hk (by simp [qf.blocks,qh,Value.ownBlock]),HE.out.2.2⟩
 cases hi:inB oid 1 31 with
 | false=>
  have HV:Hid (xA e.v oid=(e.v,qh.v,1)):=by rw [Hid,xA,hi,VE,if_pos (by decide)]
  rw [hi] at CI;rw [hz];clear hz hi;go_wp2_with fail;refine CI.mono ?_;rintro r dd ⟨rfl,rfl⟩;obtain ⟨W1,WF,hW1,HT1,qF,kz,KR,Y2,_,_,HE⟩:=FIN.out t qh W.heap.size dd st N3 (XJ.widen (Nat.le_refl _) (by omega) (Nat.le_refl _)) (QG.out _ _ N3.size) (Nat.le_refl _);clear XJ;go_wp2_with (first | (guard_target=wpList _ _ _ (Oper.mk _ (Op.build _ _) _ _ _ _::_) _ _;refine QF ?_) | (guard_target=wpList _ _ _ (Oper.mk (some 21) _ _ _ _ _::_) _ _;refine wpList_load_mid rfl 42 (.tmp 7) rfl d1.heap.size 0 rfl (t.cells) _ (r3) Tryz.underlying42 rfl Ko ?_) | (guard_target=wpList _ _ _ (Oper.mk none (Op.store _ (Operand.tmp 4) _) _ _ _ _::_) _ _;refine wpList_store_mid rfl 42 (.tmp 4) (.tmp 21) rfl (w.heap.size+1) 0 (t.cells).toArray rfl rfl HT1.out (by rw [List.size_toArray];exact Ko) MM ?_) | (guard_target=wpList _ _ _ (Oper.mk none (Op.store _ (Operand.tmp 5) _) _ _ _ _::_) _ _;refine wpList_store_mid rfl 28 (.tmp 5) (.tmp 22) rfl (w.heap.size+2) 0 (qh.cells).toArray rfl rfl (by rw [hW1.out];exact kz.out) (by rw [List.size_toArray];exact (xX qh)) (zM qh) ?_) | fail);rw [hW1.out,qF.out];exact bodyPost_ret (v:=.tuple #[.agg t.cells.toArray,.agg qh.cells.toArray,.int .i64 1]) (ui Tryz.results37 rfl rfl KR.out Y2.out rfl) rfl ⟨t,qh,by rw [HV.out],st,by rw [HV.out];exact hv,by rw [HV.out];exact rfl,HE.out.1,HE.out.2.1,fun k hk=>absurd hk (by simp [qf.blocks,qh,Value.ownBlock]),HE.out.2.2⟩
 | true=>
 have HV:Hid (xA e.v oid=(jv e.v (oid.toNat / 4),Jo (jv e.v (oid.toNat / 4)) oid.toNat,0)):=by rw [Hid,xA,hi,hz,if_neg (fun q=>q rfl)]
 have yA:Hid (jA e.v=true):=Zt hz;obtain ⟨m,rfl,EC⟩:∃ m:Nat,oid=m∧m<32:=by
  have h2:1≤oid∧oid≤31:=by simpa [inB] using hi
  exact ⟨oid.toNat,by omega,by omega⟩
 rw [Int.toNat_natCast] at HV;rw [hi] at CI;rw [hz];clear hz hi;have HVT:Hid (t.v=e.v):=hv;have Vy:jA t.v=true:=by rw [hv.out];exact yA.out
 have hpt:=Zr st Vy (qa.yC hv.out hl);have XW:Hid (jF t.v (m / 4)=(jv t.v (m / 4),qy (jv t.v (m / 4)).seats (m / 4:Nat))):=Zq Vy (show t.v.disk.length=8 by show (t.disk.map _).length=8;rw [List.length_map];exact st.eight) (by omega);have KU:Hid (∃ k:Nat,(jF t.v (m / 4)).2=k∧k<(jF t.v (m / 4)).1.seats.length∧((jF t.v (m / 4)).1.seats.getD k qD).no=(m / 4:Nat)):=gp t.v hpt (m / 4);have HFO:Hid ((jF t.v (m / 4)).1.QD):=ai t.v hpt (m / 4) (by omega);have a3:wH d3 d1.heap.size t:=⟨b5,st,XJ.widen (Nat.zero_le _) (by omega) (Nat.le_refl _),fun hk=>by have:=(XJ.ql _ hk).2;omega⟩;have C:Calls Tryz.prog 131 #[.pointer (some ⟨d1.heap.size,0,none⟩),.int .i64 ((m:Int) / 4)] d3 fun r w'=>∃ (e':qa) (k:Int),r=.returned (.int .i64 k)∧Hid (jF t.v (m / 4)=(e'.v,k))∧Hid (e'.log.recs=t.log.recs)∧yH d1.heap.size t d3 e' w':=by
  rw [show (m:Int) / 4=((m / 4:Nat):Int) from by omega];exact Df d1.heap.size t (m / 4) d3 a3 hpt (by omega)
 have qfT:(m:Int)≤31:=by omega
 have hm0:(0:Int)≤(m:Int):=by omega
 clear Vy hpt r3;go_wp2_with fail;refine CI.mono ?_;rintro r dd ⟨rfl,rfl⟩;clear CI;go_wp2_with fail;refine C.mono ?_;clear C a3 b5;rintro r d4 ⟨D,k1,rfl,hf,_,s4⟩;obtain ⟨k,hk0,hkl,_⟩:=KU.out;have hok:=HFO.out;rw [hf.out] at hk0 hkl hok;simp only at hk0 hkl hok;subst hk0;have hk:k<D.seats.length:=by simpa [qa.v] using hkl
 have z4:=s4.size;have hbl:=XJ.ql;have sD:=s4.at'.shape;have oD:D.own d4 W.heap.size d4.heap.size:=qa.own.raise s4.at'.own (fun k hk=>(s4.fresh k hk).elim (fun q=>by have:=(hbl k q).1;omega) (fun q=>by omega));have N4:Below W.heap.size W d4:=N3.trans ⟨s4.touch.os,s4.touch.tape,s4.touch.output,s4.touch.size,fun k hk=>s4.touch.block k (by have:=N3.size;omega) (fun hq=>by
  rcases List.mem_cons.1 hq with q | q
  ·omega
  ·have:=(hbl k q).1;omega)⟩
 have OB:Hid (D.v=jv e.v (m / 4)∧qy D.v.seats (m / 4:Nat)=(k:Int)):=by
  have h1:=XW.out;rw [hf.out,HVT.out] at h1;have h2:=(Prod.mk.inj h1).1;have h3:=(Prod.mk.inj h1).2;exact ⟨h2,by rw [h2,← h3]⟩
 obtain ⟨X,hX⟩:∃ X,Hid (d1.heap.size=X):=⟨_,rfl⟩;obtain ⟨g,hg⟩:∃ g,Hid (D.aS=some ⟨g,0,none⟩):=by
  rcases s4.at'.own.pool.row.2 with ⟨_,h0⟩ | ⟨g,cap',cur,hv,_⟩
  ·omega
  ·simp only [Value.slice.injEq] at hv;exact ⟨g,hv.1⟩
 obtain ⟨j,hj⟩:∃ j:Nat,Hid (m % 4=j):=⟨_,rfl⟩;have Gd:j<4:=by have:=hj.out;omega
 have ll:Hid ((m:Int) % 4=(j:Int)):=by have:=hj.out;rw [Hid];omega
 have HET:Hid (Int.tmod (m:Int) 4=(j:Int)):=by rw [Hid,Int.tmod_eq_emod_of_nonneg (by omega)];exact ll.out
 have hmem:=xE D.seats k hk;have hfz:Fit [(D.seats.getD k qc).slot j]:=fun y hy=>by
  rw [List.mem_singleton.1 hy];exact hok.fitS (D.seats.getD k qc).v (List.mem_map_of_mem hmem) _ (List.mem_map_of_mem (MN _ j Gd))
 obtain ⟨z,hz⟩:∃ z,Hid ((D.seats.getD k qc).slot j=z):=⟨_,rfl⟩;have Y0:Hid (z.v=Jo (jv e.v (m / 4)) m):=by
  rw [Hid,Jo,← OB.out.1,OB.out.2,Int.toNat_natCast,show D.v.seats=D.seats.map qb.v from rfl,jZ,hj.out,← EJ _ _ Gd,hz.out]
 rw [hz.out] at hfz;rw [hX.out] at s4 ⊢;have jR:Hid (∀ u,wH u X D→u.rangeAt X 0 D.cells∧u.cell? ⟨X,136,none⟩=some (.slice (some ⟨g,0,none⟩) D.seats.length D.cS)∧u.rangeAt g (k*20+2+j*4) z.cells):=fun u hu=>by
  refine ⟨Box.range [] D.cells [] (by simpa using hu.box),by rw [← hg.out];exact qa.vV hu.shape hu.box 0 _ rfl,?_⟩;have ho:=hu.own.pool;rw [hg.out] at ho;have h1:=tN (yf ho.row rfl k hk).1 j Gd;rw [hz.out] at h1;exact h1
 have CS:Hid (∀ u,wH u X D→Calls Tryz.prog 132 #[.agg z.cells.toArray] u fun r w'=>∃ x:qf,r=.returned (.agg x.cells.toArray)∧Hid (x.v=z.v)∧x.own w' u.heap.size w'.heap.size∧Below u.heap.size u w'):=fun u hu=>by
  have ho:=((hu.own.pool.each _ hmem).each _ (MN (D.seats.getD k qc) j Gd));rw [hz.out] at ho;exact Qn z u (OwnO.reads ho) (hfz z (by simp)).1 (hfz z (by simp)).2
 have hkk:(k:Int)<(D.seats.length:Int):=by omega
 have hki:(0:Int)≤(k:Int):=by omega
 have qfU:(j:Int)<4:=by omega
 have hj0:(0:Int)≤(j:Int):=by omega
 have lq:=kI sD;have EI:=all_oneCell_toArray (JW D);have hXz:X<d4.heap.size:=s4.at'.box.lt;have HX1:Hid (W.heap.size≤X∧X<d4.heap.size):=⟨by rw [← hX.out];exact z1,hXz⟩;have HLB:Hid (∀ i∈D.blocks,i<d4.heap.size):=fun i hi=>s4.at'.lt i hi
 have B0:Below d4.heap.size d4 d4.drew:=(Below.refl _ _).drew;clear XJ hbl hmem hfz hz hok hkl KU HFO XW hX hj;go_upto_region 8 with fail;refine wp_region_held_drew (S:=fun u=>u.rangeAt X 0 D.cells∧u.cell? ⟨X,136,none⟩=some (.slice (some ⟨g,0,none⟩) D.seats.length D.cS)∧u.rangeAt g (k*20+2+j*4) z.cells) (by kernel_rfl) (jR.out _ (s4.at'.below B0)) (fun hHeld=>?_);refine Go.Proofs.YtjkckhfddgeboaaGreatDoor.ts 0 rfl (yieldsIf_load_mid (by rfl) _ _ rfl _ _ rfl (D.cells) _ (fun _ h=>h.1) Tryz.underlying42 rfl lq) ?_;refine tr 1 (.pointer (some ⟨X,136,none⟩)) ?_;refine tr 2 (.pointer (some ⟨X,136,none⟩)) ?_;refine tk 3 (v:=.slice (some ⟨g,0,none⟩) D.seats.length D.cS) rfl (Or.inl ⟨by rfl,?_⟩) hHeld ?_
 ·intro w' hSw;have hx:=hSw.2.1;go_simp<;>rfl
 try simp only [zz]
 refine tr 4 (.int .i64 (k:Int)) ?_;refine tr 5 (.int .i64 (m:Int)) ?_;refine tk 6 (v:=.int .i64 (j:Int)) rfl (Or.inl ⟨by rfl,?_⟩) hHeld ?_
 ·intro w' hSw;have ej:=ll.out;have et:=HET.out;go_simp<;>rfl
 try simp only [zz]
 refine tr 7 (.pointer (some ⟨g,k*20,none⟩)) ?_;refine tr 8 (.pointer (some ⟨g,k*20+1,none⟩)) ?_;refine tr 9 (.pointer (some ⟨g,k*20+2,none⟩)) ?_;refine tr 10 (.pointer (some ⟨g,k*20+2+j*4,none⟩)) ?_;refine Go.Proofs.YtjkckhfddgeboaaGreatDoor.ts 11 rfl (yieldsIf_load_mid (by rfl) _ _ rfl _ _ rfl (z.cells) _ (fun _ h=>h.2.2) Tryz.underlying28 rfl (xX z)) ?_;refine wpAnyH_ready (rs:=[12]) (by kernel_rfl) (by simp) ?_;refine AllReadyH.cons rfl (fun K hK=>?_) AllReadyH.nil;go_simp;refine (CS.out _ (s4.at'.below B0)).mono ?_;rintro r d5 ⟨x,rfl,hx,ox,hb5⟩;have B5:Below d4.heap.size d4 d5:=B0.trans (hb5.mono B0.size);have a5:=s4.at'.below B5;refine hK.out _ _ (jR.out _ a5) (fun hHeld=>?_);clear hK K hb5;try simp only [zz]
 have z5:=B5.size;have N5:Below W.heap.size W d5:=N4.trans (B5.mono N4.size);obtain ⟨W1,WF,hW1,HT1,qF,kz,KR,Y2,EE,Zu,HE⟩:=FIN.out D x d4.drew.heap.size d5 sD N5 ((oD.below B5).widen (Nat.le_refl _) z5 (Nat.le_refl _)) ox N4.size;have EG:Hid (∀ i∈x.blocks,i∉D.blocks):=fun i hi hiD=>by
  have h1:=(qf.ql ox i hi).1;have h2:=HLB.out i hiD;have h3:d4.drew.heap.size=d4.heap.size:=rfl;omega
 have HWX:Hid (∀ u,Within (w.heap.size+1) (w.heap.size+3) d5 u→wH u X D):=fun u hu=>a5.within hu (by have:=HX1.out.1;omega) (fun i hi=>by have:=(oD.ql i hi).1;omega)
 have FP:Hid (x.v=(xA e.v (m:Int)).2.1):=by rw [Hid,HV.out,hx.out,Y0.out]
 have EH:Hid (D.v=(xA e.v (m:Int)).1):=by rw [Hid,HV.out,OB.out.1]
 have MG:=xX x;have bQ:=zM x;clear oD ox hx;refine wpAnyH_ready (rs:=[13]) (by kernel_rfl) (by simp) ?_;refine AllReadyH.cons rfl (fun K hK=>?_) AllReadyH.nil;rw [if_pos (by rfl)];refine wp_store_mid 42 (.tmp 4) (.tmp 31) rfl (w.heap.size+1) 0 D.cells.toArray rfl rfl HT1.out (by rw [List.size_toArray];exact lq) EI ?_;rw [hW1.out];refine hK.out _ _ (jR.out _ (HWX.out _ Zu)) (fun hHeld=>?_);clear hK K;try simp only [Act.put,zA,zB,zC]
 refine wpAnyH_ready (rs:=[14]) (by kernel_rfl) (by simp) ?_;refine AllReadyH.cons rfl (fun K hK=>?_) AllReadyH.nil;rw [if_pos (by rfl)];refine wp_store_mid 28 (.tmp 5) (.tmp 43) rfl (w.heap.size+2) 0 x.cells.toArray rfl rfl kz.out (by rw [List.size_toArray];exact MG) bQ ?_;rw [qF.out];refine hK.out _ _ (jR.out _ (HWX.out _ EE)) (fun hHeld=>?_);clear hK K;try simp only [Act.put,zA,zB,zC]
 refine tr 15 (.int .i64 0) ?_;refine wpAnyH_done (by kernel_rfl) ?_ _;clear hHeld;go_wp2;exact bodyPost_ret (v:=.tuple #[.agg D.cells.toArray,.agg x.cells.toArray,.int .i64 0]) (ui Tryz.results37 rfl rfl KR.out Y2.out rfl) rfl ⟨D,x,by rw [HV.out],sD,EH,FP,HE.out.1,HE.out.2.1,EG,HE.out.2.2⟩
end Go.Proofs.YtjkckhfddgeboaaGreatDoor