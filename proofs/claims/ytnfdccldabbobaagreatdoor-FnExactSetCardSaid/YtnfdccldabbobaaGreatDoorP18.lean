/- Texts. -/
import Derived.Test.YtnfdccldabbobaaGreatDoorP16
import Derived.Deep.RegionLaw
import Derived.Deep.DrawnRows
set_option maxHeartbeats 8000000
set_option maxRecDepth 100000
namespace Go.Proofs.YtnfdccldabbobaaGreatDoor
open Go.RowKit Go.Proofs.Tryz
section
attribute [local go_sem ↓] Go.wp_at_zero Go.wp_at_succ
theorem nM (r:ql) (w:World) (hr:r.reads w) (hl:r.short 1099511627776) (hc:r.aL=none→r.cL=0):
  Calls prog 161 #[.agg r.cells.toArray] w fun e w'=>∃ t:ql,e=.returned (.agg t.cells.toArray)∧Hid (t.v=r.v)∧t.own w' w.heap.size w'.heap.size∧qa w w':=by
 obtain ⟨W,hW,b0,b1,hbW,qD⟩:=jK w r.cells [.int .i64 0,.int .i64 0,.int .i64 0,.int .i64 0,.int .i64 0,.bool false,.int .i64 0,.slice none 0 0,.slice none 0 0,.bool false,.int .i64 0,.slice none 0 0,.slice none 0 0,.int .i64 0,.slice none 0 0] 124 124;have hs0:w.heap.size+1<W.heap.size:=by omega
 clear qD;have HC1:Hid (∀ u,qa W u→Calls _ _ _ _ _):=fun u hu=>Jf r.bf u (jd.below hr.bf (hbW.trans (hu.mono (by omega)))) hl.bf.1 hl.bf.2
 have HC2:Hid (∀ u,qa W u→Calls _ _ _ _ _):=fun u hu=>Jf r.af u (jd.below hr.af (hbW.trans (hu.mono (by omega)))) hl.af.1 hl.af.2
 have HC:Hid (r.aL=none→r.cL=0):=hc;have LB:Hid (∀ (t1 t2:qj) (aL:Option Addr) (cL:Nat),t1.v=r.bf.v→t2.v=r.af.v→(r.with t1 t2 aL cL).v=r.v):=fun t1 t2 aL cL h1 h2=>LC h1 h2
 have LD:Hid (∀ (t1 t2:qj) (aL:Option Addr) (cL:Nat),(r.with t1 t2 aL cL).cells=[.int .i64 r.lsn,.int .i64 r.tx,.int .i64 r.prev,.int .i64 r.kind,.int .i64 r.oid,.bool t1.v.has,.int .i64 t1.v.o.kind,.slice t1.aI t1.v.o.ints.length t1.cI,.slice t1.aR t1.v.o.refs.length t1.cR,.bool t2.v.has,.int .i64 t2.v.o.kind,.slice t2.aI t2.v.o.ints.length t2.cI,.slice t2.aR t2.v.o.refs.length t2.cR,.int .i64 r.next,.slice aL r.txs.length cL]):=fun _ _ _ _=>rfl
 simp only [ql.cells] at b0 hW ⊢;simp only [qj.cells] at HC1 HC2;clear hc;go_enter func161,ntmps161;go_wp2_with fail;rw [hW.out];clear hW;have x5:=b0.cell 5 _ rfl;have x6:=b0.cell 6 _ rfl;have x7:=b0.cell 7 _ rfl;have x8:=b0.cell 8 _ rfl;have x9:=b0.cell 9 _ rfl;have xO:=b0.cell 10 _ rfl;have yA:=b0.cell 11 _ rfl;have yE:=b0.cell 12 _ rfl;have Qq:Hid (∀ u,qa W u→Box u w.heap.size _ _):=fun u hu=>b0.below hu b0.lt
 have Dm:Hid (∀ u,qa W u→Box u (w.heap.size+1) _ _):=fun u hu=>b1.below hu b1.lt
 clear b0 b1
 go_region_law ((first
  | (go_simp;go_at_call 131;refine (HC1.out _ (qab _ _).drew).mono ?_;clear HC1;rintro e u1 ⟨t1,rfl,hv1,ho1,hb1⟩;have hb1':=(qab W.heap.size W).drew.trans hb1;have z9:=(Qq.out u1 hb1').cell 9 _ rfl;have z10:=(Qq.out u1 hb1').cell 10 _ rfl;have z11:=(Qq.out u1 hb1').cell 11 _ rfl;have z12:=(Qq.out u1 hb1').cell 12 _ rfl)
  | (go_simp;go_at_call 131;refine (HC2.out _ hb1').mono ?_;clear HC2;rintro e u2 ⟨t2,rfl,hv2,ho2,hb2⟩;have hb2':=hb1'.trans (hb2.mono hb1'.size);have y5:=(Qq.out u2 hb2').cell 5 _ rfl;have y6:=(Qq.out u2 hb2').cell 6 _ rfl;have y7:=(Qq.out u2 hb2').cell 7 _ rfl;have y8:=(Qq.out u2 hb2').cell 8 _ rfl;have y9:=(Qq.out u2 hb2').cell 9 _ rfl;have We:=(Qq.out u2 hb2').cell 10 _ rfl;have Vj:=(Qq.out u2 hb2').cell 11 _ rfl;have Vk:=(Qq.out u2 hb2').cell 12 _ rfl;have g5:=(Qq.out u2 hb2').frozen 5;have g6:=(Qq.out u2 hb2').frozen 6;have g7:=(Qq.out u2 hb2').frozen 7;have g8:=(Qq.out u2 hb2').frozen 8;have g9:=(Qq.out u2 hb2').frozen 9;have g10:=(Qq.out u2 hb2').frozen 10;have g11:=(Qq.out u2 hb2').frozen 11;have g12:=(Qq.out u2 hb2').frozen 12)
  | fail))
 all_goals
  have hs1:=hb1'.size;have hs2:=hb2.size;have b02:=Qq.out u2 hb2';have b12:=Dm.out u2 hb2';have hB2:qa w u2:=hbW.trans (hb2'.mono (by omega));have qfj:t1.own u2 W.heap.size u1.heap.size:=OwnO.below ho1 hb2;obtain ⟨Wa,hWa,b0a,LF,hsa⟩:=K9 b02 5 6 7 8 (.bool t1.v.has) (.int .i64 t1.v.o.kind) (.slice t1.aI t1.v.o.ints.length t1.cI) (.slice t1.aR t1.v.o.refs.length t1.cR);obtain ⟨Wb,IU,b0b,hwb,hsb⟩:=K9 b0a 9 10 11 12 (.bool t2.v.has) (.int .i64 t2.v.o.kind) (.slice t2.aI t2.v.o.ints.length t2.cI) (.slice t2.aR t2.v.o.refs.length t2.cR);have qoT:=qcF hsa;have qoU:=qcF hsa.symm;have qoV:=qcF hsb;have qoW:=qcF hsb.symm;simp only [List.set] at b0b;rw [hWa.out,IU.out];have b1b:=(b12.within LF (by omega)).within hwb (by omega);have aj:=OwnO.within (OwnO.within qfj LF (.inr (by omega))) hwb (.inr (by omega));have hoB:=OwnO.within (OwnO.within ho2 LF (.inr (by omega))) hwb (.inr (by omega));have hB4:qa w Wb:=(hB2.trans (LF.below (by omega) (by omega))).trans (hwb.below (by omega) (by omega));clear hWa IU b02 b12 b0a LF hwb hsa hsb ho1 ho2 qfj hb1 hb2 hb1' hb2' x5 x6 x7 x8 x9 xO yA yE z9 z10 z11 z12 y5 y6 y7 y8 y9 We Vj Vk g5 g6 g7 g8 g9 g10 g11 g12 Qq Dm hB2;have yC:=b0b.cell 14 _ rfl;have hA1:([]:List qM).length+r.txs.length≤1099511627776:=by have:=hl.txs;simp only [qdo];omega
  have hrt:kQ Wb r.aL r.txs:=hr.txs.below hB4;have oE:=K7 Wb Wb.heap.size Wb.heap.size qg;go_wp2_with (at_builtin;refine YJ rfl _ _ rfl Wb.heap.size _ none 0 [] rfl oE r.aL r.cL r.txs rfl hrt HC.out hA1 qg ?_);intro aL cL ys w6 hys o6 g6;have Jg:Within Wb.heap.size Wb.heap.size Wb w6:=Within.jO g6 (fun j hj=>by cases hj);have hs6:=Jg.size;have Mf:=b0b.within Jg (by omega);have b16:=b1b.within Jg (by omega);have YG:=OwnO.within aj Jg (.inl (by omega));have YH:=OwnO.within hoB Jg (.inl (by omega));have hB6:qa w w6:=hB4.trans (Jg.below (by omega) (by omega));obtain rfl:ys=r.txs:=hys.out.trans (qfU _);clear hys g6 Jg oE b0b b1b aj hoB yC hrt;have vU:Hid ((t1.blocks++(t2.blocks++(Value.slice aL r.txs.length cL).ownBlock.toList)).Nodup):=XE (c:=Wb.heap.size) YG (OwnO.widen YH qg (show _≤Wb.heap.size by omega) (by omega)) o6 (by omega);have yC:=Mf.cell 14 _ rfl;have f14:=Mf.frozen 14;obtain ⟨W7,J9,Ce,hw7,hs7⟩:=jZ Mf 14 (.slice aL r.txs.length cL);have qlM:=qcF hs7;have qlN:=qcF hs7.symm;clear hs7;simp only [List.set] at Ce;have b17:=b16.within hw7 (by omega);have Cf:Box W7 w.heap.size (r.with t1 t2 aL cL).cells 124:=by rw [LD.out];exact Ce
  have Cg:=OwnO.within YG hw7 (.inr (by omega));have Ch:=OwnO.within YH hw7 (.inr (by omega));have o7:=o6.within hw7 (.inr (by omega));have hB7:qa w W7:=hB6.trans (hw7.below (by omega) (by omega));clear hw7 Mf b16 YG YH o6;go_upto_region 3 with fail;rw [J9.out];clear yC f14 J9;obtain ⟨WF,qK,hwF,q8,jI,xA,bF⟩:=K4 (r.with t1 t2 aL cL) _ rfl b17;have Gb:=qcF q8;have ZU:=qcF q8.symm;clear q8;have wh:(r.with t1 t2 aL cL).own WF w.heap.size WF.heap.size:=⟨OwnO.widen (OwnO.within Cg hwF (.inr (by omega))) (by omega) (by omega) qg,OwnO.widen (OwnO.within Ch hwF (.inr (by omega))) (by omega) (by omega) qg,(o7.within hwF (.inr (by omega))).widen (by omega) (by omega) qg,vU.out⟩;have zN:qa w WF:=hB7.trans (hwF.below (by omega) (by omega));have HF:Hid (_∧_∧_):=⟨LB.out t1 t2 aL cL hv1.out hv2.out,wh,zN⟩;have rT:W7.rangeAt w.heap.size 0 (r.with t1 t2 aL cL).cells:=qN Cf;clear wh zN bF hwF Ce Cf b17 Cg Ch o7 vU LD LB;generalize r.with t1 t2 aL cL=TT at*
  go_wp2_with (first | (guard_target=qp 15;refine qH 124 1 w.heap.size 0 TT.cells rT underlying124 (uE _) ?_) | (guard_target=ja 2;refine jb 124 2 15 (w.heap.size+1) 0 TT.cells.toArray jI.out (uE _) (Jq _) ?_) | fail);rw [qK.out];exact qa3 (v:=.agg TT.cells.toArray) (jQ results161 rfl xA.out) rfl ⟨TT,rfl,HF.out.1,HF.out.2.1,HF.out.2.2⟩
end
section
open Go.ChangeShapes Go.WideShapes Go.ChangeAt Go.RowKit
structure gU (w:World) (l:qI):Prop where
 recs:yl w l.a l.recs
 each:∀ r∈l.recs,Xi w r
 len:l.recs.length≤maxLen
 num:zy l.sure
theorem gU.short {w:World} {l:qI} (h:gU w l):l.short 9223372036854775807:=⟨by have:=h.len;simp only [maxLen] at this;omega,fun r hr=>(h.each r hr).short⟩
section
variable {H:Type} {enc:TypeId × Value→H} {w:World} {base:Nat} {spare:Nat→Bool} {held:Bool}
theorem Tryz.qbE:prog.cellsOf 34=1:=by kernel_rfl
theorem Tryz.qd1:prog.cellsOf 36=2:=by kernel_rfl
theorem LG {fuel:Nat} {cs:List Value} {x:DataW H × List MemPlace} (h:DataW.trod enc prog w base spare held fuel 34 cs=some x):
  ∃ (a:Option Addr) (c:Nat) (rs:List ql),cs=[.slice a rs.length c]∧yl w a rs∧(∀ r∈rs,Xi w r)∧rs.length≤maxLen:=by
 rcases DataW.trod_slice underlying34 h with ⟨rfl,_⟩ | ⟨a,len,cap,elems,rest,n,_,rfl,_,_,hl,hm,hlen,hel,_,_⟩
 ·exact ⟨none,0,[],rfl,yl.nil _ _,fun r hr=>by simp at hr,by simp⟩
 rw [Tryz.Ty] at hel;have each:∀ i,i<len→∃ t:ql,w.cells? base (a.add (i*15)) 15=some t.cells∧Xi w t:=by
  intro i hi;have hy:=hel i hi;rw [qcG (by omega:i<elems.length),Option.bind_eq_some_iff] at hy;obtain ⟨cs',hcs,hy'⟩:=hy;obtain ⟨t,e,ht⟩:=tK hy';exact ⟨t,by rw [hcs,e],ht⟩
 obtain ⟨f,hf⟩:∃ f:Nat→ql,∀ i,i<len→w.cells? base (a.add (i*15)) 15=some (f i).cells∧Xi w (f i):=by
  refine ⟨fun i=>if h:i<len then (each i h).choose else qE,fun i hi=>?_⟩;simp only [dif_pos hi];exact (each i hi).choose_spec
 refine ⟨some a,cap,(List.range len).map f,by simp,?_,?_,by simp;omega⟩
 ·intro hne;have hpos:=qe9.2 hne;simp only [qa4,List.length_range] at hpos ⊢;obtain ⟨b,off,spot⟩:=a;have c0:=(qfR (hf 0 hpos).1).2.2 0 (by decide);have hspot:spot=none:=by simpa [Addr.add] using World.cell?_spot c0
  subst hspot;refine ⟨b,off,rfl,fun k hk=>?_⟩;have e:((List.range len).map f).getD k qE=f k:=by simp [List.getD,hk]
  rw [e];have hc:=(qfR (hf k hk).1).2.2;refine ⟨fun j v hv=>?_,(hf k hk).2.reads⟩;have hj:j<15:=by have:=(qcL.1 hv).1;rwa [ze] at this
  have d:=hc j (by simpa using hj);simp only [zI] at d;rw [d,hv]
 ·intro r hr;obtain ⟨k,hk,rfl⟩:=qdn.1 hr;exact (hf k (qds.1 hk)).2
theorem BI {fuel:Nat} {cs:List Value} {x:DataW H × List MemPlace} (h:DataW.trod enc prog w base spare held fuel 36 cs=some x):
  ∃ l:qI,cs=l.cells∧gU w l:=by
 obtain ⟨xs,n,_,_,hlen,hxl,hf⟩:=qfC underlying36 h;rw [Tryz.qd1] at hlen
 match cs,hlen with
 | [v0,v1],_=>
  have f0:=hf 0 _ rfl;have f1:=hf 1 _ rfl;obtain ⟨y0,hx0⟩:=jV xs 0 (by rw [hxl];decide);rw [hx0] at f0;obtain ⟨y1,hx1⟩:=jV xs 1 (by rw [hxl];decide);rw [hx1] at f1;simp only [qeM,qeF,qeG,Tryz.Ki,Tryz.qbE,List.drop,List.take] at f0 f1;obtain ⟨a,c,rs,e0,h0,h1,h2⟩:=LG f0;obtain ⟨m,e1,w1⟩:=zl f1;simp only [qfh,qgt] at e0 e1;subst e0 e1;exact ⟨⟨rs,m,a,c⟩,rfl,h0,h1,h2,w1⟩
theorem qlO {b0:Nat} {v:Value} {d:DataW H} {ps:List MemPlace} (hval:Value.okWide prog w .any b0 36 v) (h:DataW.Trod enc prog w base spare held 36 v d ps):
  ∃ l:qI,v=.agg l.cells.toArray∧gU w l:=by
 obtain ⟨cs,rfl,hcs⟩:=okWide_struct underlying36 hval;obtain ⟨fuel,hf⟩:=h;have e:(Value.agg cs).cells.toList=cs.toList:=rfl;rw [e] at hf;obtain ⟨r,hc,rest⟩:=BI hf;refine ⟨r,?_,rest⟩;congr 1;apply qgk.1;rw [hc]
end
end
theorem qI.reads.below {w w':World} {l:qI} (h:l.reads w) (hb:qa w w'):l.reads w':=yl.below h hb
theorem qI.own.below {w w':World} {lo hi:Nat} {l:qI} (h:l.own w lo hi) (hb:qa w w'):l.own w' lo hi:=je.below h hb
theorem qI.own.within {w w':World} {lo hi a b:Nat} {l:qI} (h:l.own w lo hi) (hw:Within a b w w') (hd:hi≤a∨b≤lo):l.own w' lo hi:=je.within h hw hd
def qI.blocks (l:qI):List Nat:=jw l.a l.c l.recs
theorem qI.own.touch {w w':World} {lo hi:Nat} {l:qI} {bl:List Nat} (h:l.own w lo hi) (ht:Touch bl w w') (hd:∀ k∈l.blocks,k∉bl):l.own w' lo hi:=je.touch h ht hd
theorem LH (l:qI):∀ v∈l.cells,v.oneCell'=true:=by
 intro v hv;simp only [qI.cells,qcv,qdu,qfL] at hv;rcases hv with rfl | rfl<;>rfl
theorem gU.reads {w:World} {l:qI} (h:gU w l):l.reads w:=h.recs
theorem qd2 (q:qI):q.cells.toArray.all (·.oneCell')=true:=qaf (LH q)
theorem yT (q:qI):(prog.info? 55).map (·.size)=some q.cells.length:=by show _=some 2;kernel_rfl
theorem zM {w:World} {B:Nat} {x0 x1:Value} {t:TypeId} (b:Box w B [x0,x1] t) (v0 v1:Value):
  ∃ W,Hid ((w.setCell ⟨B,0,none⟩ v0).setCell ⟨B,1,none⟩ v1=W)∧Box W B [v0,v1] t∧Within B (B+1) w W∧W.heap.size=w.heap.size:=by
 refine ⟨_,rfl,by simpa using (b.set 0 v0).set 1 v1,(jL w B 0 v0 (by omega)).trans (jL _ B 1 v1 (by omega)),by simp⟩
theorem Ci (a:Option Addr) (cap:Nat) (rs:List ql) (w:World) (hr:yl w a rs) (hl:rs.length≤1048576) (hs:∀ r∈rs,r.short 1099511627776) (hcp:∀ r∈rs,r.aL=none→r.cL=0):
  Calls prog 132 #[.slice a rs.length cap] w fun e w'=>∃ a' c' ts,e=.returned (.slice a' ts.length c')∧Hid (ts.map ql.v=rs.map ql.v)∧je w' w.heap.size w'.heap.size a' c' ts∧qa w w':=by
 obtain ⟨i0,hi,hz0,hz1,hz2⟩:=qft Tryz.gV;have HJ:Hid ((prog.info? 124).map (·.size)=some 15):=by rw [Hid];kernel_rfl
 rcases hr.cases with rfl | ⟨b,off,rfl,hpos,hcell⟩
 ·have HO:Hid (je w w.heap.size w.heap.size none 0 []):=Dn w _ _ qg;go_enter func132,ntmps132;go_wp2;go_ret;exact ⟨none,0,[],rfl,rfl,HO.out,qab _ _⟩
 ·have KZ:b<w.heap.size:=XF (hcell 0 hpos).1;have hne:((rs.length:Int) == 0)=false:=by simp;intro h;rw [h] at hpos;simp at hpos
  go_enter func132,ntmps132;go_wp2_with (at_make;refine qe6 _ rfl _ _ 53 rfl w.heap.size 124 i0 (.agg qE.cells.toArray) 15 underlying53 hi hz0 hz1 _ _ _ _ rs.length rfl rfl rfl rfl (by rw [hz2];omega) (by simp [maxLen];omega) qg ?_);intro w0 hown0 xy;have hb0:qa w w0:=(qab _ _).grown xy qg (fun k h=>by cases h);have ho:w0.ownsRow w.heap.size 124 15 (.slice (some ⟨w.heap.size,0,none⟩) rs.length rs.length) rs.length (ku (List.replicate rs.length qE)):=by
   rw [← YK];exact hown0
  have HO:Hid (je w0 w.heap.size w0.heap.size (some ⟨w.heap.size,0,none⟩) rs.length (List.replicate rs.length qE)):=VR _ ho qg (ho.lt _ rfl).2;clear hown0 xy ho;go_wp2;go_loopw [14] (fun i wr=>∃ (k:Nat) (ts:List ql),k≤rs.length∧i=.int .i64 k∧Hid (Came rs ts k)∧Hid (je wr w.heap.size wr.heap.size (some ⟨w.heap.size,0,none⟩) rs.length (ts++List.replicate (rs.length-k) qE))∧qa w wr)
   (fun i _=>rs.length-(intOf i).toNat)
  case atStart=>exact ⟨0,[],qaw _,rfl,Wt rs,HO,hb0⟩
  case round=>
   obtain ⟨k,ts,hk,rfl,hc,hown,hnx⟩:=hrel;by_cases hlt:k<rs.length
   ·obtain ⟨c0,c1⟩:=hcell k hlt;have HR:Hid (wr.rangeAt b (off+k*15) (rs.getD k qE).cells):=yY c0 hnx KZ;have hrd:(rs.getD k qE).reads wr:=c1.below hnx;have hsh:(rs.getD k qE).short 1099511627776:=hs _ (vX rs k hlt);have hnc:=hcp _ (vX rs k hlt);have HS:Hid (∀ q:ql,q.v=(rs.getD k qE).v→Came rs (ts++[q]) (k+1)):=fun q hq=>hc.out.snoc hlt hq
    have HP:Hid (ts++List.replicate (rs.length-k) qE=ts++qE::List.replicate (rs.length-(k+1)) qE∧(ts++qE::List.replicate (rs.length-(k+1)) qE).length=rs.length∧ts.length=k):=by
     have e:rs.length-k=(rs.length-(k+1))+1:=by omega
     refine ⟨by rw [e,qfl],?_,hc.out.1⟩;have:=hc.out.1;simp;omega
    clear c0 c1 hcell hb0 HO hs hcp;generalize rs.getD k qE=z at*
    obtain ⟨W1,hW1,b1,hb1,hs1⟩:=qB wr [.int .i64 0,.int .i64 0,.int .i64 0,.int .i64 0,.int .i64 0,.bool false,.int .i64 0,.slice none 0 0,.slice none 0 0,.bool false,.int .i64 0,.slice none 0 0,.slice none 0 0,.int .i64 0,.slice none 0 0] 124;obtain ⟨W2,hW2,hw2,hs2,HT2,_,b2⟩:=K4 z _ rfl b1;have B2:qa wr W2:=hb1.trans (hw2.below qg (by omega));have R2:Hid (W2.rangeAt wr.heap.size 0 z.cells):=qN b2;have C:=nM z W2 (hrd.below B2) hsh hnc;have N2:=qf hnx B2;have O2:Hid _:=hown.out.below B2;have Wu:=Jq z;have qlP:=B2.size;have qlQ:=hnx.size;clear hs1 hs2 b1 b2 hb1 hw2 hrd hsh hnc hown hnx B2;go_wp2_with (first | (guard_target=qp 18;refine qH 124 17 b (off+k*15) z.cells HR.out underlying124 HJ.out ?_) | (guard_target=ja 5;refine jb 124 5 18 wr.heap.size 0 z.cells.toArray (by rw [hW1.out];exact HT2.out) HJ.out Wu ?_) | (guard_target=qp 21;refine qH 124 5 wr.heap.size 0 z.cells (by rw [hW1.out,hW2.out];exact R2.out) underlying124 HJ.out ?_) | fail);rw [hW1.out,hW2.out];refine C.mono ?_;clear C HR hW1 hW2 HT2 R2 Wu;rintro e w3 ⟨q,rfl,hq,hqo,hb3⟩;have hs3:=hb3.size;have ho1:=O2.out.below hb3;rw [HP.out.1] at ho1;obtain ⟨W4,wL,ak,Dp,hs4⟩:=ho1.fill q hqo (by omega) (by omega) qg;rw [HP.out.2.2] at wL;have HT:Hid (w3.there w.heap.size (k*15) 15):=(NZ ho1.row rfl k (by rw [HP.out.2.1];exact hlt)).2;have hB4:qa w W4:=(N2.trans (hb3.mono (by omega))).trans ((Dp.within (lo:=w.heap.size) (hi:=w.heap.size+1) (fun j hj=>by obtain rfl:=qac.1 hj;omega)).below qg (by omega));have HH:Hid (je W4 w.heap.size W4.heap.size (some ⟨w.heap.size,0,none⟩) rs.length ((ts++[q])++List.replicate (rs.length-(k+1)) qE)):=by
     have:=ak.widen qg (show max wr.heap.size w3.heap.size≤W4.heap.size by omega) qg;rw [qcJ,qdr];exact this
    have HB:Hid _:=hB4;have HC:=HS.out q hq.out;have Vo:=Jq q;clear ho1 ak Dp hs4 hB4 hqo hb3 N2 O2 hq HS hs3 qlP qlQ;go_wp2_with (first | (guard_target=ja 23;refine jb 124 23 22 w.heap.size (k*15) q.cells.toArray HT.out HJ.out Vo ?_) | fail);rw [wL.out];go_roundw
    case rel=>exact ⟨k+1,ts++[q],by omega,by go_num,HC,HH,HB.out⟩
    case measure=>simp [intOf];omega
   ·have HE:Hid (ts.map ql.v=rs.map ql.v∧je wr w.heap.size wr.heap.size (some ⟨w.heap.size,0,none⟩) rs.length ts∧ts.length=rs.length):=by
     have e:k=rs.length:=by omega
     rw [e] at hown hc;rw [qfV,qgm,qcZ] at hown;exact ⟨hc.out.all,hown.out,hc.out.1⟩
    go_wp2;go_ret;exact ⟨some ⟨w.heap.size,0,none⟩,rs.length,ts,by rw [HE.out.2.2];rfl,HE.out.1,HE.out.2.1,hnx⟩
theorem je.QU {w:World} {lo hi:Nat} {a:Option Addr} {c:Nat} {rs:List ql} (h:je w lo hi a c rs):∀ r∈rs,r.aL=none→r.cL=0:=fun r hr=>(h.each r hr).txs.Y9
theorem Sc (l:qI) (w:World) (hr:l.reads w) (hl:l.short 1048576) (hcp:∀ r∈l.recs,r.aL=none→r.cL=0):
  Calls prog 82 #[.agg l.cells.toArray] w fun e w'=>∃ t:qI,e=.returned (.agg t.cells.toArray)∧Hid (t.v=l.v)∧t.own w' w.heap.size w'.heap.size∧qa w w':=by
 obtain ⟨rs,s,a,c⟩:=l;obtain ⟨hl1,hl2⟩:=qI.jB hl;have hl0:=hl.len;simp only [qI.reads,qI.cells,qI.own] at*
 obtain ⟨W,hW,b0,b1,hbW,qD⟩:=jK w [.slice a rs.length c,.int .i64 s] [.slice none 0 0,.int .i64 0] 55 55;have hs0:w.heap.size+1<W.heap.size:=by omega
 clear qD;have HC:Hid (∀ u,qa W u→Calls _ _ _ _ _):=fun u hu=>Ci a c rs u (hr.below (hbW.trans (hu.mono (by omega)))) hl0 hl2 hcp
 have Qq:Hid (∀ u,qa W u→Box u w.heap.size _ _):=fun u hu=>b0.below hu b0.lt
 have Dm:Hid (∀ u,qa W u→Box u (w.heap.size+1) _ _):=fun u hu=>b1.below hu b1.lt
 have x0:=b0.cell 0 _ rfl;have x1:=b0.cell 1 _ rfl;clear b0 b1 hr hl hl0 hl1 hl2 hcp;go_enter func82,ntmps82;go_wp2_with fail;rw [hW.out];clear hW
 go_region_law ((first
  | (go_simp;go_at_call 132;refine (HC.out _ (qab _ _).drew).mono ?_;clear HC;rintro e u1 ⟨a',c',ts,rfl,hv1,ho1,hb1⟩;have hb1':=(qab W.heap.size W).drew.trans hb1;have z1:=(Qq.out u1 hb1').cell 1 _ rfl;have y0:=(Dm.out u1 hb1').cell 0 _ rfl;have y1:=(Dm.out u1 hb1').cell 1 _ rfl;have g0:=(Dm.out u1 hb1').frozen 0;have g1:=(Dm.out u1 hb1').frozen 1)
  | fail))
 all_goals
  have hs1:=hb1'.size;obtain ⟨WF,qK,bF,hwF,q8⟩:=zM (Dm.out u1 hb1') (.slice a' ts.length c') (.int .i64 s);have q0:=bF.cell 0 _ rfl;have q1:=bF.cell 1 _ rfl;have Wh:je u1 W.heap.size u1.heap.size a' c' ts:=ho1;have wh:=(Wh.within hwF (.inr (by omega))).widen (show w.heap.size≤W.heap.size by omega) (show u1.heap.size≤WF.heap.size by omega) qg;have zN:qa w WF:=(hbW.trans (hb1'.mono (by omega))).trans (hwF.below (by omega) (by omega));rw [qK.out];clear hwF q8 bF ho1 Wh z1 y0 y1 g0 g1;go_wp2;exact qa3 (v:=.agg #[.slice a' ts.length c',.int .i64 s]) (by simp [results,results82,go_sem,q0,q1]) rfl ⟨⟨ts,s,a',c'⟩,rfl,by simp only [Hid,qI.v];rw [hv1.out],wh,zN⟩
theorem N9 {w:World} (ty:TypeId) (lo hi:Nat) (a:Option Addr) (c:Nat) (rs:List ql) (hown:je w lo hi a c rs)
  (b off:Nat) (sc:Nat) (q:ql) (hr:w.rangeAt b off q.cells) (l u:Nat) (hq:q.own w l u) (hl:hi≤l) (hu:u≤w.heap.size)
  (hb:rs.length+1≤68719476736) (hlo:lo≤hi):
  ∃ a' c' w',(Builtin.append_ #[53,53] ty #[.slice a rs.length c,.slice (some ⟨b,off,none⟩) 1 sc]).run prog w=.ok (.slice a' (rs++[q]).length c') w'∧je w' lo w'.heap.size a' c' (rs++[q])∧w.grownBy w' (Value.slice a rs.length c).ownBlock:=by
 obtain ⟨i0,hi0,hz0,hz1,hz2⟩:=qft Tryz.gV;have yJ:=hq.qC;have htop:=hown.top;obtain ⟨v',w',hrun,h1,h2,_,_⟩:=run_append_own_at (P:=prog) w lo 53 ty 124 i0 (.agg qE.cells.toArray) 15 200 underlying53 hi0 hz0 hz1 hz2 rfl (by decide) _ _ _ hown.row ⟨b,off,none⟩ 1 sc q.cells (by rfl) (by
  intro j v hj;rw [zI];exact hr j v hj) (ZL q) (by simp only [maxLen];omega) (by omega) (by omega)
 have e:ku rs++q.cells=ku (rs++[q]):=by rw [QS,uG];simp [ku]
 have e2:rs.length+1=(rs++[q]).length:=by simp
 rw [e,e2] at h1;have sh:∃ a' c',v'=.slice a' (rs++[q]).length c':=by
  rcases h1.2 with ⟨rfl,h0⟩ | ⟨g,cap,cur,rfl,_⟩
  ·simp at h0
  ·exact ⟨_,_,rfl⟩
 obtain ⟨a',c',rfl⟩:=sh;have hsz:=h2.size;have ht:Touch (Value.slice a rs.length c).ownBlock.toList w w':=Touch.jO h2 (fun k hk=>qad.2 hk);have hrow:=h1.lt;have hold:∀ r∈rs,r.own w' lo w'.heap.size:=fun r hr=>((hown.each r hr).touch ht (fun k hk hk'=>(qav.1 hown.apart).2.2 k hk' k (qag.2 ⟨r,hr,hk⟩) rfl)).widen qg (by omega) qg
 have hnew:q.own w' lo w'.heap.size:=(hq.touch ht (fun k hk hk'=>by have:=yJ k hk;have:=hown.blk k (qad.1 hk');omega)).widen (by omega) (by omega) qg;refine ⟨a',c',w',hrun,⟨h1,qcN _,fun k hk=>(hrow k hk).2,fun r hr=>?_,?_⟩,h2⟩
 ·rcases qaa.1 hr with hr | hr
  ·exact hold r hr
  ·obtain rfl:=qac.1 hr;exact hnew
 ·rw [qcy,qav,qav];have hap:=(qav.1 hown.apart).2.1;have hin:∀ x∈rs.flatMap ql.blocks,lo≤x∧x<hi:=fun x hx=>by
   obtain ⟨r,hr,hx⟩:=qag.1 hx;exact (hown.each r hr).qC x hx
  refine ⟨by cases (Value.slice a' (rs++[q]).length c').ownBlock<;>simp,⟨hap,by simpa using hq.apart,fun x hx y hy e=>?_⟩,fun x hx y hy e=>?_⟩
  ·have:=hin x hx;simp only [qaY,qdH,qcZ] at hy;have:=yJ y hy;omega
  ·have hx':=qad.1 hx;subst e;rcases qaa.1 hy with hy | hy
   ·obtain ⟨r,hr,hy⟩:=qag.1 hy;exact XG h1 (hold r hr) x hx' hy
   ·simp only [qaY,qdH,qcZ] at hy;exact XG h1 hnew x hx' hy
theorem Mg {w:World} {ops:Array Oper} {o:Oper} {act:Act} {K:Act→World→Prop} {Q:Exit→Act→World→Prop} {E:Prop} (hgd:o.guard=none) (s x:Operand)
  (ho:o.op=.call { callee:=.builtin .append,args:=#[s,x],argTypes:=#[53,53] })
  (lo hi:Nat) (a:Option Addr) (c:Nat) (rs:List ql) (hs:act.eval s=.slice a rs.length c) (hown:je w lo hi a c rs)
  (b off:Nat) (sc:Nat) (q:ql) (hx:act.eval x=.slice (some ⟨b,off,none⟩) 1 sc) (hr:w.rangeAt b off q.cells) (l u:Nat) (hq:q.own w l u) (hl:hi≤l) (hu:u≤w.heap.size)
  (hb:rs.length+1≤68719476736) (hlo:lo≤hi)
  (h:∀ a' c' w',je w' lo w'.heap.size a' c' (rs++[q])→w.grownBy w' (Value.slice a rs.length c).ownBlock→K (act.put o.dst (.slice a' (rs++[q]).length c')) w'):
  if Region.wanted o (yielded ops act.tmps)=true then Oper.wp prog o act w K Q else E:=by
 have hw:Region.wanted o (yielded ops act.tmps)=true:=by simp [Region.wanted,hgd]
 rw [qan hw];obtain ⟨a',c',w',hrun,h2,h3⟩:=N9 (w:=w) o.type lo hi a c rs hown b off sc q hr l u hq hl hu hb hlo;unfold Oper.wp;simp [execOp,ho,resolve,invoke,builtin,hs,hx,hrun,Result.andThen];have:=h a' c' w' h2 h3;rw [qai,qfD] at this;exact this
section
attribute [local go_sem ↓] Go.wp_at_zero Go.wp_at_succ
theorem Yq (q:ql):List.foldl (fun cs x=>cs.setIfInBounds x.snd x.fst) (#[.int .i64 0,.int .i64 0,.int .i64 0,.int .i64 0,.int .i64 0,.bool false,.int .i64 0,.slice none 0 0,.slice none 0 0,.bool false,.int .i64 0,.slice none 0 0,.slice none 0 0,.int .i64 0,.slice none 0 0]:Array Value) q.cells.zipIdx=q.cells.toArray:=by simp [ql.cells,List.zipIdx]
theorem Xc {P:Prop} (h:P:=by
 clear hK K;try simp only [zz]
 have hll:ts.length+1≤68719476736:=by have:=HL.out;omega
 refine jc 9 (fun K hK=>?_);refine Mg rfl (.tmp 16) (.tmp 23) rfl W.heap.size wr.heap.size a' c' ts rfl o3 u2.heap.size 0 1 q rfl r3 wr.heap.size u2.heap.size VS qg (by omega) hll hsz ?_;intro a9 c9 w9 o9 g9;have HCM:=HS.out q hq.out;obtain ⟨ys,hys⟩:=qV (ts++[q]);rw [hys.out] at o9 HCM ⊢;have QZ:Within W.heap.size wr.heap.size W3 w9:=Within.jO g9 (fun j hj=>⟨(o3.row.lt j hj).1,o3.blk j hj⟩);have Un:=QZ.size;have Cj:qa w w9:=Vp.trans (QZ.below (by omega) (by omega));have Zq:=k23.within QZ (by omega);have Ck:=YL.within QZ (by omega);have k19:=k13.within QZ (by omega);refine qX hK (kJ.out _ Cj Ck) fun qc=>?_
 clear hK K QZ g9 o3 r3 VS k23 YL k13;try simp only [zz]
 refine jg 10 ?_;have m0:=Zq.cell 0 _ rfl;have Kl:=Zq.frozen 0;obtain ⟨WF,qK,kF,hwF,q8⟩:=jZ Zq 0 (.slice a9 ys.length c9);simp only [List.set] at kF;have Gb:=qcF q8;have ZU:=qcF q8.symm;clear q8;have LJ:=Ck.within hwF (by omega);have LK:=k19.within hwF (by omega);have oF:=(o9.within hwF (.inr (by omega))).widen qg ZU qg;have hnF:qa w WF:=Cj.trans (hwF.below (by omega) (by omega));clear hwF Zq Ck k19 o9;refine jc 11 (fun K hK=>?_);go_simp;rw [qK.out];refine qX hK (kJ.out _ hnF LJ) fun qc=>?_
 clear hK K;try simp only [zz]
 refine qau (by kernel_rfl) ?_ _;clear m0 Kl qK;go_wp2_with fail;go_roundw
 case rel=>exact ⟨k+1,ys,a9,c9,by omega,by go_num,HCM,kF,LJ,LK,oF,hnF,by omega⟩
 case measure=>simp [intOf];omega):P:=h
theorem lV (l:qI) (w:World) (hr:l.reads w) (hl:l.short 1048576) (hcp:∀ r∈l.recs,r.aL=none→r.cL=0):
  Calls prog 63 #[.agg l.cells.toArray] w fun e w'=>∃ t:qI,e=.returned (.agg t.cells.toArray)∧Hid (t.v=l.v)∧t.own w' w.heap.size w'.heap.size∧qa w w':=by
 obtain ⟨rs,s,a,c⟩:=l;have hl2:=(qI.jB hl).each;have hl0:=hl.len;simp only [qI.reads,qI.cells,qI.own] at*
 obtain ⟨W,hW,b0,b1,b2,hbW,qD⟩:=yK w [.slice a rs.length c,.int .i64 s] [.slice none 0 0,.int .i64 0] [.slice none 0 0,.int .i64 s] 55 55 55;have hs0:w.heap.size+1+1<W.heap.size:=by omega
 clear qD;have x0:=b0.cell 0 _ rfl;have x1:=b0.cell 1 _ rfl;have HC:Hid (∀ k,k<rs.length→∃ b off,a=some ⟨b,off,none⟩∧w.rangeAt b (off+k*15) (rs.getD k qE).cells∧(rs.getD k qE).reads w∧(rs.getD k qE).short 1099511627776∧((rs.getD k qE).aL=none→(rs.getD k qE).cL=0)):=fun k hk=>by
  obtain ⟨b,off,ha,hc⟩:=hr (by intro e;rw [e] at hk;simp at hk);exact ⟨b,off,ha,(hc k hk).1,(hc k hk).2,hl2 _ (vX rs k hk),hcp _ (vX rs k hk)⟩
 have HI:Hid ((prog.info? 124).map (·.size)=some 15):=by rw [Hid];kernel_rfl
 clear hr hl hl2 hcp;go_enter func63,ntmps63;go_wp2_with fail;rw [hW.out];clear hW x0 x1;go_loopw [4] (fun i wr=>∃ (k:Nat) (ts:List ql) (a':Option Addr) (c':Nat),k≤rs.length∧i=.int .i64 k∧Hid (Came rs ts k)∧Box wr (w.heap.size+1+1) [.slice a' ts.length c',.int .i64 s] 55∧Box wr w.heap.size [.slice a rs.length c,.int .i64 s] 55∧Box wr (w.heap.size+1) [.slice none 0 0,.int .i64 0] 55∧je wr W.heap.size wr.heap.size a' c' ts∧qa w wr∧W.heap.size≤wr.heap.size)
  (fun i _=>rs.length-(intOf i).toNat)
 case atStart=>exact ⟨0,[],none,0,qaw _,rfl,Wt rs,b2,b0,b1,Dn _ _ _ qg,hbW,qcN _⟩
 case round=>
  obtain ⟨k,ts,a',c',hk,rfl,hc,k2,k0,k1,hown,hnx,hsz⟩:=hrel;clear b0 b1 b2 hbW;have x0:=k0.cell 0 _ rfl;by_cases hlt:k<rs.length
  ·obtain ⟨b,off,rfl,hcell,hrd,hsh,hnc⟩:=HC.out k hlt;have KZ:=XF hcell;have hnw:=hnx.size;have HR:Hid (∀ u,qa w u→u.rangeAt b (off+k*15) (rs.getD k qE).cells):=fun u hu=>yY hcell hu KZ
   have HS:Hid (∀ q:ql,q.v=(rs.getD k qE).v→Came rs (ts++[q]) (k+1)):=fun q hq=>hc.out.snoc hlt hq
   have HL:Hid (ts.length=k):=hc.out.1;clear hcell HC;generalize rs.getD k qE=z at*
   have e0:=k2.cell 0 _ rfl;have kJ:Hid (∀ u,qa w u→Box u w.heap.size [.slice (some ⟨b,off,none⟩) rs.length c,.int .i64 s] 55→u.rangeAt b (off+k*15) z.cells∧u.cell? ⟨w.heap.size,0,none⟩=some (.slice (some ⟨b,off,none⟩) rs.length c)):=fun u h1 h2=>⟨HR.out u h1,h2.cell 0 _ rfl⟩
   go_wp2_with fail;refine qaZ (S:=fun w'=>w'.rangeAt b (off+k*15) z.cells∧w'.cell? ⟨w.heap.size,0,none⟩=some (.slice (some ⟨b,off,none⟩) rs.length c)) (by kernel_rfl) ?_ (fun qc=>?_)
   ·exact kJ.out _ hnx.drew (k0.drewN 1)
   refine jg 0 ?_;refine jg 2 ?_;refine jg 3 ?_;refine jg 4 ?_;refine jg 5 ?_;refine xB 6 z.cells (fun _ h=>h.1) underlying124 HI.out ?_;have hnd:qa wr wr.drew:=(qab _ _).drew;have C:=fM z wr.drew (hrd.below hnx.drew) hsh hnc;refine qde (rs:=[1,7]) (by kernel_rfl) (by simp) ?_;refine qcE rfl (fun K hK=>?_) (qcE rfl (fun K hK=>?_) qc9)
   ·go_simp;refine qX hK qc fun qc=>?_
    clear hK K;try simp only [zz]
    refine jc 7 (fun K hK=>?_);go_simp;refine C.mono ?_;clear C;rintro e u2 ⟨q,rfl,hq,hqo,hb2⟩;have hb2':qa wr u2:=hnd.trans hb2;have hn2:qa w u2:=hnx.trans (hb2'.mono hnw);have k22:=k2.below hb2' k2.lt;have QK:=k0.below hb2' k0.lt;have k12:=k1.below hb2' k1.lt;have o2:=hown.below hb2';have J5:q.own u2 wr.heap.size u2.heap.size:=hqo;have hs2:=hb2'.size;refine qX hK (kJ.out _ hn2 QK) fun qc=>?_
    clear hK K;try simp only [zz]
    refine jc 8 (fun K hK=>?_);go_simp;simp only [ze,Yq,qeV,qfF,or_self,qf7];go_simp;obtain ⟨W3,hW3,b3,hb3,hs3⟩:=qB u2 q.cells 124;rw [hW3.out];have Vp:=qf hn2 hb3;have k23:=k22.below hb3 k22.lt;have YL:=QK.below hb3 QK.lt;have k13:=k12.below hb3 k12.lt;have o3:=o2.below hb3;have VS:=J5.below hb3;have r3:W3.rangeAt u2.heap.size 0 q.cells:=qN b3;have dG:=b3.lt;clear hs3 hb3 hW3 b3 QK k12 o2 J5;refine qX hK (kJ.out _ Vp YL) fun qc=>?_
    exact Xc
   ·go_simp;refine C.mono ?_;clear C;rintro e u2 ⟨q,rfl,hq,hqo,hb2⟩;have hb2':qa wr u2:=hnd.trans hb2;have hn2:qa w u2:=hnx.trans (hb2'.mono hnw);have k22:=k2.below hb2' k2.lt;have QK:=k0.below hb2' k0.lt;have k12:=k1.below hb2' k1.lt;have o2:=hown.below hb2';have J5:q.own u2 wr.heap.size u2.heap.size:=hqo;have hs2:=hb2'.size;refine qX hK (kJ.out _ hn2 QK) fun qc=>?_
    clear hK K;try simp only [zz]
    refine qde (rs:=[1,8]) (by kernel_rfl) (by simp) ?_;refine qcE rfl (fun K hK=>?_) (qcE rfl (fun K hK=>?_) qc9)
    ·have d0:=k22.cell 0 _ rfl;go_simp;refine qX hK qc fun qc=>?_
     clear hK K;try simp only [zz]
     refine jc 8 (fun K hK=>?_);go_simp;simp only [ze,Yq,qeV,qfF,or_self,qf7];go_simp;obtain ⟨W3,hW3,b3,hb3,hs3⟩:=qB u2 q.cells 124;rw [hW3.out];have Vp:=qf hn2 hb3;have k23:=k22.below hb3 k22.lt;have YL:=QK.below hb3 QK.lt;have k13:=k12.below hb3 k12.lt;have o3:=o2.below hb3;have VS:=J5.below hb3;have r3:W3.rangeAt u2.heap.size 0 q.cells:=qN b3;have dG:=b3.lt;clear hs3 hb3 hW3 b3 QK k12 o2 J5;refine qX hK (kJ.out _ Vp YL) fun qc=>?_
     exact Xc
    ·go_simp;simp only [ze,Yq,qeV,qfF,or_self,qf7];go_simp;obtain ⟨W3,hW3,b3,hb3,hs3⟩:=qB u2 q.cells 124;rw [hW3.out];have Vp:=qf hn2 hb3;have k23:=k22.below hb3 k22.lt;have YL:=QK.below hb3 QK.lt;have k13:=k12.below hb3 k12.lt;have o3:=o2.below hb3;have VS:=J5.below hb3;have r3:W3.rangeAt u2.heap.size 0 q.cells:=qN b3;have dG:=b3.lt;clear hs3 hb3 hW3 b3 QK k12 o2 J5;refine qX hK (kJ.out _ Vp YL) fun qc=>?_
     clear hK K;try simp only [zz]
     have d0:=k23.cell 0 _ rfl;refine jc 1 (fun K hK=>?_);go_simp;refine qX hK qc fun qc=>?_
     exact Xc
  ·have HE:Hid (ts.map ql.v=rs.map ql.v):=by
    have e:k=rs.length:=by omega
    rw [e] at hc;exact hc.out.all
   have e0:=k2.cell 0 _ rfl;have e1:=k2.cell 1 _ rfl;have m0:=k1.cell 0 _ rfl;have m1:=k1.cell 1 _ rfl;have Kl:=k1.frozen 0;have mJ:=k1.frozen 1;obtain ⟨WF,qK,bF,hwF,q8⟩:=zM k1 (.slice a' ts.length c') (.int .i64 s);have q0:=bF.cell 0 _ rfl;have q1:=bF.cell 1 _ rfl;have wh:=(hown.within hwF (.inr (by omega))).widen (show w.heap.size≤W.heap.size by omega) (show wr.heap.size≤WF.heap.size by omega) qg;have zN:qa w WF:=hnx.trans (hwF.below (by omega) (by have:=hnx.size;omega));clear hwF q8 bF;go_wp2;rw [qK.out];exact qa3 (v:=.agg #[.slice a' ts.length c',.int .i64 s]) (by simp [results,results63,go_sem,q0,q1]) rfl ⟨⟨ts,s,a',c'⟩,rfl,by simp only [Hid,qI.v];rw [HE.out],wh,zN⟩
end
def vM (r:ql) (k:Int):ql:=
 ⟨k,k+1,k+1+1,k+1+1+1,k+1+1+1+1,
  ⟨⟨((k+1+1+1+1+1) % 3 == 0),⟨k+1+1+1+1+1+1,yU (k+1+1+1+1+1+1+1) r.bf.v.o.ints.length,yU (k+1+1+1+1+1+1+1+r.bf.v.o.ints.length) r.bf.v.o.refs.length⟩⟩,r.bf.aI,r.bf.cI,r.bf.aR,r.bf.cR⟩,
  ⟨⟨((k+1+1+1+1+1+1+1+r.bf.v.o.ints.length+r.bf.v.o.refs.length) % 3 == 0),⟨k+1+1+1+1+1+1+1+r.bf.v.o.ints.length+r.bf.v.o.refs.length+1,yU (k+1+1+1+1+1+1+1+r.bf.v.o.ints.length+r.bf.v.o.refs.length+1+1) r.af.v.o.ints.length,yU (k+1+1+1+1+1+1+1+r.bf.v.o.ints.length+r.bf.v.o.refs.length+1+1+r.af.v.o.ints.length) r.af.v.o.refs.length⟩⟩,r.af.aI,r.af.cI,r.af.aR,r.af.cR⟩,
  k+1+1+1+1+1+1+1+r.bf.v.o.ints.length+r.bf.v.o.refs.length+1+1+r.af.v.o.ints.length+r.af.v.o.refs.length,
  marksL (k+1+1+1+1+1+1+1+r.bf.v.o.ints.length+r.bf.v.o.refs.length+1+1+r.af.v.o.ints.length+r.af.v.o.refs.length+1) r.txs.length,r.aL,r.cL⟩
def Qr (r:ql):Nat:=10+r.bf.v.o.ints.length+r.bf.v.o.refs.length+r.af.v.o.ints.length+r.af.v.o.refs.length+3*r.txs.length
def xY:List ql→Int→List ql
 | [],_=>[]
 | r::t,k=>vM r k::xY t (k+Qr r)
def jA:List ql→Nat
 | []=>0
 | r::t=>Qr r+jA t
theorem XP (r:ql) (k:Int):(vM r k).blocks=r.blocks:=by simp [vM,ql.blocks,qj.blocks,jq,zH]
theorem QC (rs:List ql):∀ k,(xY rs k).length=rs.length:=by
 induction rs with
 | nil=>intro k;rfl
 | cons x r ih=>intro k;simp [xY,ih]
theorem Mh (A B:List ql):∀ k,xY (A++B) k=xY A k++xY B (k+jA A):=by
 induction A with
 | nil=>intro k;simp [xY,jA]
 | cons x r ih=>
  intro k;simp only [qfk,xY,ih,jA];congr 3;omega
theorem nO (A B:List ql):jA (A++B)=jA A+jA B:=by
 induction A with
 | nil=>simp [jA]
 | cons x r ih=>simp only [qfk,jA,ih];omega
theorem XQ (rs:List ql):∀ k,(xY rs k).flatMap ql.blocks=rs.flatMap ql.blocks:=by
 induction rs with
 | nil=>intro k;rfl
 | cons x r ih=>intro k;simp only [xY,qaY,ih,XP]
theorem Yn (rs:List ql) (j:Nat) (h:j<rs.length):rs.drop j=rs.getD j qE::rs.drop (j+1)∧rs.take (j+1)=rs.take j++[rs.getD j qE]:=by
 have e:rs.getD j qE=rs[j]:=by simp [List.getD,h]
 exact ⟨by rw [qcX h,e],by rw [qdb h,e]⟩
def uW (rs:List ql) (k:Int) (j:Nat):List ql:=xY (rs.take j) k++rs.drop j
theorem lW (rs:List ql) (k:Int) (j:Nat) (h:j≤rs.length):(uW rs k j).length=rs.length:=by simp [uW,QC];omega
theorem Dq (rs:List ql) (k:Int) (j:Nat) (h:j<rs.length):uW rs k j=xY (rs.take j) k++rs.getD j qE::rs.drop (j+1):=by rw [uW,(Yn rs j h).1]
theorem Sd (rs:List ql) (k:Int) (j:Nat) (h:j<rs.length):uW rs k (j+1)=xY (rs.take j) k++vM (rs.getD j qE) (k+jA (rs.take j))::rs.drop (j+1):=by
 rw [uW,(Yn rs j h).2,Mh];simp [xY]
theorem Wv (rs:List ql) (j:Nat) (h:j<rs.length):jA (rs.take (j+1))=jA (rs.take j)+Qr (rs.getD j qE):=by
 rw [(Yn rs j h).2,nO];simp [jA]
theorem Mi (rs:List ql) (j:Nat):jA (rs.take j)≤jA rs:=by
 have:jA rs=jA (rs.take j)+jA (rs.drop j):=by rw [← nO,qdJ]
 omega
def vY (w:World) (base g n cap:Nat) (pre cs post:List Value):Prop:=w.ownsRow base 124 15 (.slice (some ⟨g,0,none⟩) n cap) n (pre++(cs++post))
theorem vY.cell {w:World} {base g n cap j:Nat} {pre cs post:List Value} (h:vY w base g n cap pre cs post) (hp:pre.length=j*15) (hc:cs.length=15) (i:Nat) (v:Value) (hv:cs[i]? =some v):w.cell? ⟨g,j*15+i,none⟩=some v:=by
 have hi:i<15:=by have:=(qcL.1 hv).1;omega
 have hl:=h.1;rw [qai,qai] at hl;rw [World.ownsRow.cellAt h (j*15+i) (by omega),qcQ (by omega),qdx (by omega),show j*15+i-pre.length=i by omega];exact hv
theorem vY.frozen {w:World} {base g n cap:Nat} {pre cs post:List Value} (h:vY w base g n cap pre cs post) (i:Nat):w.frozen? ⟨g,i,none⟩=false:=World.ownsRow.frozenAt h i
theorem vY.set {w:World} {base g n cap j:Nat} {pre cs post:List Value} (h:vY w base g n cap pre cs post) (hp:pre.length=j*15) (hc:cs.length=15) (i:Nat) (hi:i<15) (v:Value):vY (w.setCell ⟨g,j*15+i,none⟩ v) base g n cap pre (cs.set i v) post∧w.grownBy (w.setCell ⟨g,j*15+i,none⟩ v) (some g):=by
 have:=World.ownsRow.stored h (j*15+i) v;rw [qdh _ _ (by omega),show j*15+i-pre.length=i by omega,List.set_append_left _ _ (by omega)] at this;exact this
theorem vY.block {w w':World} {base g n cap:Nat} {pre cs post:List Value} (h:vY w base g n cap pre cs post) (hb:w'.heap[g]? =w.heap[g]?):vY w' base g n cap pre cs post:=xk h (fun k hk=>by cases hk;exact hb)
theorem vY.qh1 {w:World} {base g n cap j:Nat} {pre post:List Value} {x0 x1 x2 x3 x4 x5 x6 x7 x8 x9 xO yA yE yQ yC:Value} (h:vY w base g n cap pre [x0,x1,x2,x3,x4,x5,x6,x7,x8,x9,xO,yA,yE,yQ,yC] post) (hp:pre.length=j*15) (v0 v1 v2 v3 v4 v5 v6:Value):
  ∃ W,Hid (((((((w.setCell ⟨g,j*15,none⟩ v0).setCell ⟨g,j*15+1,none⟩ v1).setCell ⟨g,j*15+2,none⟩ v2).setCell ⟨g,j*15+3,none⟩ v3).setCell ⟨g,j*15+4,none⟩ v4).setCell ⟨g,j*15+5,none⟩ v5).setCell ⟨g,j*15+6,none⟩ v6=W)∧vY W base g n cap pre [v0,v1,v2,v3,v4,v5,v6,x7,x8,x9,xO,yA,yE,yQ,yC] post∧Touch [g] w W:=by
 obtain ⟨a0,g0⟩:=h.set hp rfl 0 (by omega) v0;obtain ⟨a1,g1⟩:=a0.set hp rfl 1 (by omega) v1;obtain ⟨a2,g2⟩:=a1.set hp rfl 2 (by omega) v2;obtain ⟨a3,g3⟩:=a2.set hp rfl 3 (by omega) v3;obtain ⟨a4,g4⟩:=a3.set hp rfl 4 (by omega) v4;obtain ⟨a5,g5⟩:=a4.set hp rfl 5 (by omega) v5;obtain ⟨a6,g6⟩:=a5.set hp rfl 6 (by omega) v6;exact ⟨_,rfl,a6,Touch.jO (grownBy_trans (grownBy_trans (grownBy_trans (grownBy_trans (grownBy_trans (grownBy_trans g0 g1) g2) g3) g4) g5) g6) (fun k hk=>by cases hk;simp)⟩
theorem vY.qh2 {w:World} {base g n cap j:Nat} {pre post:List Value} {x0 x1 x2 x3 x4 x5 x6 x7 x8 x9 xO yA yE yQ yC:Value} (h:vY w base g n cap pre [x0,x1,x2,x3,x4,x5,x6,x7,x8,x9,xO,yA,yE,yQ,yC] post) (hp:pre.length=j*15) (v0 v1:Value):
  ∃ W,Hid ((w.setCell ⟨g,j*15+9,none⟩ v0).setCell ⟨g,j*15+10,none⟩ v1=W)∧vY W base g n cap pre [x0,x1,x2,x3,x4,x5,x6,x7,x8,v0,v1,yA,yE,yQ,yC] post∧Touch [g] w W:=by
 obtain ⟨a0,g0⟩:=h.set hp rfl 9 (by omega) v0;obtain ⟨a1,g1⟩:=a0.set hp rfl 10 (by omega) v1;exact ⟨_,rfl,a1,Touch.jO (grownBy_trans g0 g1) (fun k hk=>by cases hk;simp)⟩
theorem vY.set1 {w:World} {base g n cap j:Nat} {pre post:List Value} {x0 x1 x2 x3 x4 x5 x6 x7 x8 x9 xO yA yE yQ yC:Value} (h:vY w base g n cap pre [x0,x1,x2,x3,x4,x5,x6,x7,x8,x9,xO,yA,yE,yQ,yC] post) (hp:pre.length=j*15) (v0:Value):
  ∃ W,Hid (w.setCell ⟨g,j*15+13,none⟩ v0=W)∧vY W base g n cap pre [x0,x1,x2,x3,x4,x5,x6,x7,x8,x9,xO,yA,yE,v0,yC] post∧Touch [g] w W:=by
 obtain ⟨a0,g0⟩:=h.set hp rfl 13 (by omega) v0;exact ⟨_,rfl,a0,Touch.jO g0 (fun k hk=>by cases hk;simp)⟩
theorem lX {L1 L2 L3 L4 L5:List Nat} (h:((L1++L2)++((L3++L4)++L5)).Nodup):
  (∀ k,k∈L1→k∉L2∧k∉L3∧k∉L4∧k∉L5)∧(∀ k,k∈L2→k∉L1∧k∉L3∧k∉L4∧k∉L5)∧(∀ k,k∈L3→k∉L1∧k∉L2∧k∉L4∧k∉L5)∧(∀ k,k∈L4→k∉L1∧k∉L2∧k∉L3∧k∉L5)∧(∀ k,k∈L5→k∉L1∧k∉L2∧k∉L3∧k∉L4):=by
 simp only [qav,qaa] at h;obtain ⟨⟨_,_,h12⟩,⟨⟨_,_,av⟩,_,h45⟩,hx⟩:=h;refine ⟨fun k hk=>⟨fun h'=>h12 k hk k h' rfl,fun h'=>hx k (.inl hk) k (.inl (.inl h')) rfl,fun h'=>hx k (.inl hk) k (.inl (.inr h')) rfl,fun h'=>hx k (.inl hk) k (.inr h') rfl⟩,
  fun k hk=>⟨fun h'=>h12 k h' k hk rfl,fun h'=>hx k (.inr hk) k (.inl (.inl h')) rfl,fun h'=>hx k (.inr hk) k (.inl (.inr h')) rfl,fun h'=>hx k (.inr hk) k (.inr h') rfl⟩,
  fun k hk=>⟨fun h'=>hx k (.inl h') k (.inl (.inl hk)) rfl,fun h'=>hx k (.inr h') k (.inl (.inl hk)) rfl,fun h'=>av k hk k h' rfl,fun h'=>h45 k (.inl hk) k h' rfl⟩,
  fun k hk=>⟨fun h'=>hx k (.inl h') k (.inl (.inr hk)) rfl,fun h'=>hx k (.inr h') k (.inl (.inr hk)) rfl,fun h'=>av k h' k hk rfl,fun h'=>h45 k (.inr hk) k h' rfl⟩,
  fun k hk=>⟨fun h'=>hx k (.inl h') k (.inr hk) rfl,fun h'=>hx k (.inr h') k (.inr hk) rfl,fun h'=>h45 k (.inl h') k hk rfl,fun h'=>h45 k (.inr h') k hk rfl⟩⟩
theorem Ju (lo hi:Nat) (a:Option Addr) (cap:Nat) (k0:Int) (xs:List Int) (w:World) (ho:kD w lo hi a cap xs) (h0:0≤k0) (hl:k0+xs.length≤4611686018427387904):
  Calls prog 99 #[.slice a xs.length cap,.int .i64 k0] w fun e w'=>e=.returned (.int .i64 (k0+xs.length))∧kD w' lo hi a cap (yU k0 xs.length)∧Touch (Value.slice a xs.length cap).ownBlock.toList w w':=by
 refine (YE lo a cap k0 xs w ho.1 h0 hl).mono ?_;rintro e w' ⟨rfl,h1,h2⟩;exact ⟨rfl,⟨by rw [jq];exact h1,qcx ho.2.1 h2.size,by rw [jq];exact ho.2.2⟩,Touch.jO h2 (fun j hj=>qad.2 hj)⟩
theorem kD.keep {w w':World} {lo hi:Nat} {a:Option Addr} {c:Nat} {ns:List Int} {bl:List Nat} (h:kD w lo hi a c ns) (ht:Touch bl w w') (hd:∀ k,k∈(Value.slice a ns.length c).ownBlock.toList→k∉bl):kD w' lo hi a c ns:=h.touch ht (fun k hk=>hd k (qad.2 hk))
theorem OwnL.keep {w w':World} {lo hi:Nat} {a:Option Addr} {c:Nat} {ns:List qM} {bl:List Nat} (h:OwnL w lo hi a c ns) (ht:Touch bl w w') (hd:∀ k,k∈(Value.slice a ns.length c).ownBlock.toList→k∉bl):OwnL w' lo hi a c ns:=h.touch ht (fun k hk=>hd k (qad.2 hk))
theorem vY.keep {w w':World} {base g n cap:Nat} {pre cs post:List Value} {bl:List Nat} (h:vY w base g n cap pre cs post) (ht:Touch bl w w') (hd:g∉bl):vY w' base g n cap pre cs post:=h.block (ht.block g (World.ownsRow.lt h g rfl).2 hd)
theorem je.replace {w w':World} {lo hi g c:Nat} {A B:List ql} {z y:ql} (h:je w lo hi (some ⟨g,0,none⟩) c (A++z::B)) (ht:Touch (g::z.blocks) w w') (hrow:vY w' lo g (A++z::B).length c (ku A) y.cells (ku B)) (hy:y.own w' lo hi) (hb:y.blocks=z.blocks):je w' lo hi (some ⟨g,0,none⟩) c (A++y::B):=by
 have hap:=h.apart;simp only [qcy,qaY,Value.ownBlock,Option.toList,qdr,qf6,qav,qaa,not_or] at hap;obtain ⟨⟨n1,n2,n3⟩,a1,⟨a2,a3,a4⟩,a5⟩:=hap;refine ⟨?_,qcx h.top ht.size,fun k hk=>by cases hk;exact h.blk g rfl,fun r hr=>?_,?_⟩
 ·have e:(A++y::B).length=(A++z::B).length:=by simp
  rw [e,QS,uG];exact hrow
 ·rcases qaa.1 hr with hr | hr
  ·refine (h.each r (by simp [hr])).touch ht (fun k hk hk'=>?_);have hm:k∈A.flatMap ql.blocks:=qag.2 ⟨r,hr,hk⟩;rcases qcv.1 hk' with rfl | hk'
   ·exact n1 hm
   ·exact a5 k hm k (.inl hk') rfl
  ·rcases qcv.1 hr with rfl | hr
   ·exact hy
   ·refine (h.each r (by simp [hr])).touch ht (fun k hk hk'=>?_);have hm:k∈B.flatMap ql.blocks:=qag.2 ⟨r,hr,hk⟩;rcases qcv.1 hk' with rfl | hk'
    ·exact n3 hm
    ·exact a4 k hk' k hm rfl
 ·have:=h.apart;simp only [qcy,qaY] at this ⊢;rw [hb];exact this
theorem Pb (lo hi:Nat) (a:Option Addr) (cap:Nat) (k0:Int) (rs:List ql) (w:World) (ho:je w lo hi a cap rs) (hl:∀ r∈rs,r.short 1099511627776) (h0:0≤k0) (hk:k0+jA rs≤1152921504606846976):
  Calls prog 98 #[.slice a rs.length cap,.int .i64 k0] w fun e w'=>e=.returned (.int .i64 (k0+jA rs))∧je w' lo hi a cap (xY rs k0)∧Touch (jw a cap rs) w w':=by
 rcases ho.row.2 with ⟨hv,h00⟩ | ⟨g,cap',cur,hv,hg,hgg,hr⟩
 ·simp only [qcK] at hv;obtain ⟨rfl,_,rfl⟩:=hv;obtain rfl:=qcI.1 h00;go_enter func98,ntmps98;go_wp2;refine qdp 1 ?_;rw [qdC];go_wp2;go_ret;exact ⟨by simp [jA],ho,Touch.refl _ _⟩
 ·simp only [qcK] at hv;obtain ⟨rfl,_,rfl⟩:=hv;have hlm:rs.length≤maxLen:=qcx hr.1 hr.2.1;simp only [maxLen] at hlm;clear hgg hr;have HH:Hid (uW rs k0 0=rs∧uW rs k0 rs.length=xY rs k0):=⟨by simp [uW,xY],by simp [uW]⟩;have HST:Hid (je w lo hi (some ⟨g,0,none⟩) cap (uW rs k0 0)):=by rw [HH.out.1];exact ho
  have XH:Hid (∀ j,j<rs.length→(rs.getD j qE).short 1099511627776):=fun j hj=>hl _ (vX rs j hj)
  have qbF:Hid (∀ j,j<rs.length→∀ k∈g::(rs.getD j qE).blocks,k∈jw (some ⟨g,0,none⟩) cap rs):=fun j hj k hk=>by
   rcases qcv.1 hk with rfl | hk
   ·exact qaa.2 (.inl (by simp [Value.ownBlock]))
   ·exact qaa.2 (.inr (qag.2 ⟨_,vX rs j hj,hk⟩))
  clear ho hl;go_enter func98,ntmps98;go_wp2;go_loopw [1,5] (fun kk i wr=>∃ j:Nat,j≤rs.length∧i=.int .i64 j∧kk=.int .i64 (k0+jA (rs.take j))∧Hid (je wr lo hi (some ⟨g,0,none⟩) cap (uW rs k0 j))∧Touch (jw (some ⟨g,0,none⟩) cap rs) w wr)
   (fun _ i _=>rs.length-(intOf i).toNat)
  case atStart=>exact ⟨0,qaw _,rfl,by simp [jA],HST,Touch.refl _ _⟩
  case round=>
   obtain ⟨j,hj,rfl,rfl,hown,Cm⟩:=hrel;clear HST;by_cases hlt:j<rs.length
   ·have hsh:=XH.out j hlt;have hsub:=qbF.out j hlt;have hcn:=Wv rs j hlt;have hcl:=Mi rs (j+1);have ho:=hown.out;rw [Dq rs k0 j hlt] at ho;have hlen:=lW rs k0 j hj;rw [Dq rs k0 j hlt] at hlen;have HN:Hid (uW rs k0 (j+1)=_):=Sd rs k0 j hlt;have hA:(ku (xY (rs.take j) k0)).length=j*15:=by rw [ZW,QC,qdm];congr 1;omega
    have HCN:Hid (k0+jA (rs.take (j+1))=k0+jA (rs.take j)+Qr (rs.getD j qE)):=by rw [Hid,hcn];omega
    have hkb:0≤k0+(jA (rs.take j):Int)∧k0+(jA (rs.take j):Int)+Qr (rs.getD j qE)≤1152921504606846976:=⟨by omega,by omega⟩;clear hcn hcl hown hk h0;generalize k0+(jA (rs.take j):Int)=kk at*
    generalize xY (rs.take j) k0=A at*
    generalize rs.drop (j+1)=B at*
    generalize rs.getD j qE=z at*
    have hz:=ho.each z (qaa.2 (.inr (qcv.2 (.inl rfl))));have HG:Hid (g∉z.blocks):=XG ho.row hz g rfl;have hap:=hz.apart;have HZA:Hid (z.blocks.Nodup):=hz.apart;simp only [ql.blocks,qj.blocks] at hap;have vU:Hid (_∧_∧_∧_∧_):=lX hap;have Kb:Hid (g∉(Value.slice z.bf.aI z.bf.v.o.ints.length z.bf.cI).ownBlock.toList∧g∉(Value.slice z.bf.aR z.bf.v.o.refs.length z.bf.cR).ownBlock.toList∧g∉(Value.slice z.af.aI z.af.v.o.ints.length z.af.cI).ownBlock.toList∧g∉(Value.slice z.af.aR z.af.v.o.refs.length z.af.cR).ownBlock.toList∧g∉(Value.slice z.aL z.txs.length z.cL).ownBlock.toList):=by
     have:=HG.out;simp only [ql.blocks,qj.blocks,qaa,not_or] at this;exact ⟨this.1.1,this.1.2,this.2.1.1,this.2.1.2,this.2.2⟩
    have HM:Hid ((∀ k∈(Value.slice z.bf.aI z.bf.v.o.ints.length z.bf.cI).ownBlock.toList,k∈z.blocks)∧(∀ k∈(Value.slice z.bf.aR z.bf.v.o.refs.length z.bf.cR).ownBlock.toList,k∈z.blocks)∧(∀ k∈(Value.slice z.af.aI z.af.v.o.ints.length z.af.cI).ownBlock.toList,k∈z.blocks)∧(∀ k∈(Value.slice z.af.aR z.af.v.o.refs.length z.af.cR).ownBlock.toList,k∈z.blocks)∧(∀ k∈(Value.slice z.aL z.txs.length z.cL).ownBlock.toList,k∈z.blocks)):=by
     simp only [ql.blocks,qj.blocks];exact ⟨fun k h=>qaa.2 (.inl (qaa.2 (.inl h))),fun k h=>qaa.2 (.inl (qaa.2 (.inr h))),fun k h=>qaa.2 (.inr (qaa.2 (.inl (qaa.2 (.inl h))))),fun k h=>qaa.2 (.inr (qaa.2 (.inl (qaa.2 (.inr h))))),fun k h=>qaa.2 (.inr (qaa.2 (.inr h)))⟩
    have row:vY wr lo g rs.length cap (ku A) z.cells (ku B):=by
     have:=ho.row;rw [hlen,QS,uG] at this;exact this
    have Df:=hz.bf.ints;have hbR:=hz.bf.refs;have Dc:=hz.af.ints;have De:=hz.af.refs;have hL:=hz.txs;have hcz:Qr z=10+z.bf.v.o.ints.length+z.bf.v.o.refs.length+z.af.v.o.ints.length+z.af.v.o.refs.length+3*z.txs.length:=rfl;have LM:Hid (∀ k∈z.blocks,k∈g::z.blocks):=fun k hk=>qcv.2 (.inr hk)
    have Wq:Hid (∀ k∈[g],k∈g::z.blocks):=fun k hk=>qcv.2 (.inl (qac.1 hk))
    have YM:Hid (∀ (L:List Nat),g∉L→∀ k,k∈L→k∉[g]):=fun L hg k hk hk'=>hg (by rw [← qac.1 hk'];exact hk)
    clear hap hz;simp only [ql.cells] at row;have x0:wr.cell? ⟨g,j*15,none⟩=_:=row.cell hA rfl 0 _ rfl;have x1:=row.cell hA rfl 1 _ rfl;have x2:=row.cell hA rfl 2 _ rfl;have x3:=row.cell hA rfl 3 _ rfl;have x4:=row.cell hA rfl 4 _ rfl;have x5:=row.cell hA rfl 5 _ rfl;have x6:=row.cell hA rfl 6 _ rfl;have f0:wr.frozen? ⟨g,j*15,none⟩=false:=row.frozen _;have f1:=row.frozen (j*15+1);have f2:=row.frozen (j*15+2);have f3:=row.frozen (j*15+3);have f4:=row.frozen (j*15+4);have f5:=row.frozen (j*15+5);have f6:=row.frozen (j*15+6);obtain ⟨W1,hW1,qbG,t1⟩:=row.qh1 hA (.int .i64 kk) (.int .i64 (kk+1)) (.int .i64 (kk+1+1)) (.int .i64 (kk+1+1+1)) (.int .i64 (kk+1+1+1+1)) (.bool ((kk+1+1+1+1+1) % 3 == 0)) (.int .i64 (kk+1+1+1+1+1+1));have HT:Hid (Touch (g::z.blocks) wr W1):=t1.mono Wq.out;have bI1:=Df.keep t1 (YM.out _ Kb.out.1);have nP:=hbR.keep t1 (YM.out _ Kb.out.2.1);have aI1:=Dc.keep t1 (YM.out _ Kb.out.2.2.1);have aR1:=De.keep t1 (YM.out _ Kb.out.2.2.2.1);have L1:=hL.keep t1 (YM.out _ Kb.out.2.2.2.2);clear t1 Df hbR Dc De hL row;go_upto_region 18 with fail;rw [hW1.out];clear hW1 x0 x1 x2 x3 x4 x5 x6 f0 f1 f2 f3 f4 f5 f6;have y7:=qbG.cell hA rfl 7 _ rfl;have C:=Ju lo hi z.bf.aI z.bf.cI (kk+1+1+1+1+1+1+1) z.bf.v.o.ints W1 bI1 (by omega) (by omega);go_wp2_with fail;refine C.mono ?_;clear C y7;rintro e w2 ⟨rfl,mI,t2⟩;have Pd:=qbG.keep t2 Kb.out.1;have HT2:Hid (Touch (g::z.blocks) wr w2):=HT.out.trans ((t2.mono HM.out.1).mono LM.out);have Mj:=nP.keep t2 (fun k hk h=>(vU.out.1 k h).1 hk);have aI2:=aI1.keep t2 (fun k hk h=>(vU.out.1 k h).2.1 hk);have aR2:=aR1.keep t2 (fun k hk h=>(vU.out.1 k h).2.2.1 hk);have L2:=L1.keep t2 (fun k hk h=>(vU.out.1 k h).2.2.2 hk);clear bI1 nP aI1 aR1 L1 t2 qbG HT;have y8:=Pd.cell hA rfl 8 _ rfl;have C:=Ju lo hi z.bf.aR z.bf.cR (kk+1+1+1+1+1+1+1+z.bf.v.o.ints.length) z.bf.v.o.refs w2 Mj (by omega) (by omega);go_wp2_with fail;refine C.mono ?_;clear C y8;rintro e w3 ⟨rfl,mR,t3⟩;have Pe:=Pd.keep t3 Kb.out.2.1;have HT3:Hid (Touch (g::z.blocks) wr w3):=HT2.out.trans ((t3.mono HM.out.2.1).mono LM.out);have mI3:=mI.keep t3 (fun k hk h=>(vU.out.2.1 k h).1 (by rw [jq] at hk;exact hk));have aI3:=aI2.keep t3 (fun k hk h=>(vU.out.2.1 k h).2.1 hk);have aR3:=aR2.keep t3 (fun k hk h=>(vU.out.2.1 k h).2.2.1 hk);have L3:=L2.keep t3 (fun k hk h=>(vU.out.2.1 k h).2.2.2 hk);clear mI Mj aI2 aR2 L2 t3 Pd HT2;have x9:=Pe.cell hA rfl 9 _ rfl;have xO:=Pe.cell hA rfl 10 _ rfl;have f9:=Pe.frozen (j*15+9);have f10:=Pe.frozen (j*15+10);obtain ⟨W4,wL,qbH,t4⟩:=Pe.qh2 hA (.bool ((kk+1+1+1+1+1+1+1+z.bf.v.o.ints.length+z.bf.v.o.refs.length) % 3 == 0)) (.int .i64 (kk+1+1+1+1+1+1+1+z.bf.v.o.ints.length+z.bf.v.o.refs.length+1));have Cn:Hid (Touch (g::z.blocks) wr W4):=HT3.out.trans (t4.mono Wq.out);have mI4:=mI3.keep t4 (YM.out _ (by rw [jq];exact Kb.out.1));have mR4:=mR.keep t4 (YM.out _ (by rw [jq];exact Kb.out.2.1));have aI4:=aI3.keep t4 (YM.out _ Kb.out.2.2.1);have aR4:=aR3.keep t4 (YM.out _ Kb.out.2.2.2.1);have L4:=L3.keep t4 (YM.out _ Kb.out.2.2.2.2);clear mI3 mR aI3 aR3 L3 t4 Pe HT3
    go_upto_region 24 with fail;rw [wL.out];clear wL x9 xO f9 f10;have Vj:=qbH.cell hA rfl 11 _ rfl;have C:=Ju lo hi z.af.aI z.af.cI (kk+1+1+1+1+1+1+1+z.bf.v.o.ints.length+z.bf.v.o.refs.length+1+1) z.af.v.o.ints W4 aI4 (by omega) (by omega);go_wp2_with fail;refine C.mono ?_;clear C Vj;rintro e w5 ⟨rfl,nI,t5⟩;have qbI:=qbH.keep t5 Kb.out.2.2.1;have LP:Hid (Touch (g::z.blocks) wr w5):=Cn.out.trans ((t5.mono HM.out.2.2.1).mono LM.out);have mI5:=mI4.keep t5 (fun k hk h=>(vU.out.2.2.1 k h).1 (by rw [jq] at hk;exact hk));have mR5:=mR4.keep t5 (fun k hk h=>(vU.out.2.2.1 k h).2.1 (by rw [jq] at hk;exact hk));have aR5:=aR4.keep t5 (fun k hk h=>(vU.out.2.2.1 k h).2.2.1 hk);have L5:=L4.keep t5 (fun k hk h=>(vU.out.2.2.1 k h).2.2.2 hk);clear mI4 mR4 aI4 aR4 L4 t5 qbH Cn;have Vk:=qbI.cell hA rfl 12 _ rfl;have C:=Ju lo hi z.af.aR z.af.cR (kk+1+1+1+1+1+1+1+z.bf.v.o.ints.length+z.bf.v.o.refs.length+1+1+z.af.v.o.ints.length) z.af.v.o.refs w5 aR5 (by omega) (by omega);go_wp2_with fail;refine C.mono ?_;clear C Vk;rintro e w6 ⟨rfl,nR,t6⟩;have lY:=qbI.keep t6 Kb.out.2.2.2.1;have Co:Hid (Touch (g::z.blocks) wr w6):=LP.out.trans ((t6.mono HM.out.2.2.2.1).mono LM.out);have mI6:=mI5.keep t6 (fun k hk h=>(vU.out.2.2.2.1 k h).1 (by rw [jq] at hk;exact hk));have mR6:=mR5.keep t6 (fun k hk h=>(vU.out.2.2.2.1 k h).2.1 (by rw [jq] at hk;exact hk));have nI6:=nI.keep t6 (fun k hk h=>(vU.out.2.2.2.1 k h).2.2.1 (by rw [jq] at hk;exact hk));have L6:=L5.keep t6 (fun k hk h=>(vU.out.2.2.2.1 k h).2.2.2 hk);clear mI5 mR5 nI aR5 L5 t6 qbI LP;have yQ:=lY.cell hA rfl 13 _ rfl;have f13:=lY.frozen (j*15+13);obtain ⟨W7,J9,qbJ,t7⟩:=lY.set1 hA (.int .i64 (kk+1+1+1+1+1+1+1+z.bf.v.o.ints.length+z.bf.v.o.refs.length+1+1+z.af.v.o.ints.length+z.af.v.o.refs.length));have P5:Hid (Touch (g::z.blocks) wr W7):=Co.out.trans (t7.mono Wq.out);have mI7:=mI6.keep t7 (YM.out _ (by rw [jq];exact Kb.out.1));have mR7:=mR6.keep t7 (YM.out _ (by rw [jq];exact Kb.out.2.1));have nI7:=nI6.keep t7 (YM.out _ (by rw [jq];exact Kb.out.2.2.1));have nR7:=nR.keep t7 (YM.out _ (by rw [jq];exact Kb.out.2.2.2.1));have L7:=L6.keep t7 (YM.out _ Kb.out.2.2.2.2);clear mI6 mR6 nI6 nR L6 t7 lY Co;go_upto_region 28 with fail;rw [J9.out];clear J9 yQ f13;have Ho:=qbJ.cell hA rfl 14 _ rfl;have C:=Uu lo hi z.aL z.cL (kk+1+1+1+1+1+1+1+z.bf.v.o.ints.length+z.bf.v.o.refs.length+1+1+z.af.v.o.ints.length+z.af.v.o.refs.length+1) z.txs W7 L7 (by omega) (by omega);go_wp2_with fail;refine C.mono ?_;clear C Ho;rintro e w8 ⟨rfl,nL,t8⟩;have qfm:=qbJ.keep t8 Kb.out.2.2.2.2;have Uv:Hid (Touch (g::z.blocks) wr w8):=P5.out.trans ((t8.mono HM.out.2.2.2.2).mono LM.out);have mI8:=mI7.keep t8 (fun k hk h=>(vU.out.2.2.2.2 k h).1 (by rw [jq] at hk;exact hk));have mR8:=mR7.keep t8 (fun k hk h=>(vU.out.2.2.2.2 k h).2.1 (by rw [jq] at hk;exact hk));have nI8:=nI7.keep t8 (fun k hk h=>(vU.out.2.2.2.2 k h).2.2.1 (by rw [jq] at hk;exact hk));have nR8:=nR7.keep t8 (fun k hk h=>(vU.out.2.2.2.2 k h).2.2.2 (by rw [jq] at hk;exact hk));have HOY:Hid ((vM z kk).own w8 lo hi):=⟨⟨mI8,mR8,fun k hk hk'=>by
      have h1:k∈(Value.slice z.bf.aI z.bf.v.o.ints.length z.bf.cI).ownBlock.toList:=by have:=qad.2 hk;simpa only [vM,jq] using this
      have h2:k∈(Value.slice z.bf.aR z.bf.v.o.refs.length z.bf.cR).ownBlock.toList:=by have:=qad.2 hk';simpa only [vM,jq] using this
      exact (vU.out.1 k h1).1 h2⟩,⟨nI8,nR8,fun k hk hk'=>by
      have h1:k∈(Value.slice z.af.aI z.af.v.o.ints.length z.af.cI).ownBlock.toList:=by have:=qad.2 hk;simpa only [vM,jq] using this
      have h2:k∈(Value.slice z.af.aR z.af.v.o.refs.length z.af.cR).ownBlock.toList:=by have:=qad.2 hk';simpa only [vM,jq] using this
      exact (vU.out.2.2.1 k h1).2.2.1 h2⟩,nL,by rw [XP];exact HZA.out⟩
    have qfn:Hid (vY w8 lo g (A++z::B).length cap (ku A) (vM z kk).cells (ku B)):=by
     rw [hlen]
     simpa only [Hid,ql.cells,vM,jq,zH] using qfm
    have Qm:Hid (je w8 lo hi (some ⟨g,0,none⟩) cap (uW rs k0 (j+1))∧Touch (jw (some ⟨g,0,none⟩) cap rs) w w8):=by
     refine ⟨?_,Cm.trans (Uv.out.mono hsub)⟩;rw [HN.out];exact ho.replace Uv.out qfn.out HOY.out (XP z kk)
    have qbK:Hid (k0+(jA (rs.take (j+1)):Int)=kk+1+1+1+1+1+1+1+z.bf.v.o.ints.length+z.bf.v.o.refs.length+1+1+z.af.v.o.ints.length+z.af.v.o.refs.length+1+3*z.txs.length):=by rw [Hid,HCN.out,hcz];omega
    clear mI7 mR7 nI7 nR7 L7 t8 qbJ P5 qfm Uv mI8 mR8 nI8 nR8 nL HOY qfn ho Cm;go_wp2_with fail;go_roundw
    case rel=>exact ⟨j+1,by omega,by go_num,by rw [qbK.out],Qm.out.1,Qm.out.2⟩
    case measure=>simp [intOf];omega
   ·have HE:Hid (je wr lo hi (some ⟨g,0,none⟩) cap (xY rs k0)∧k0+(jA (rs.take j):Int)=k0+jA rs):=by
     have e:j=rs.length:=by omega
     rw [e,HH.out.2] at hown;exact ⟨hown.out,by rw [e,qfE]⟩
    go_wp2;go_ret;exact ⟨jN HE.out.2,HE.out.1,Cm⟩
theorem LQ (rs:List ql) (k:Int) (j:Nat) (h:j<rs.length):(xY rs k).getD j qE=vM (rs.getD j qE) (k+jA (rs.take j)):=by
 have e:xY rs k=xY (rs.take j) k++xY (rs.drop j) (k+jA (rs.take j)):=by rw [← Mh,qdJ]
 have hl:(xY (rs.take j) k).length=j:=by rw [QC,qdm];omega
 rw [e,(Yn rs j h).1,xY];simp [List.getD,hl]
theorem Cq (a:Option Addr) (cap:Nat) (k0:Int) (rs:List ql) (w:World) (hr:yl w a (xY rs k0)) (h0:0≤k0) (hk:k0+jA rs≤1152921504606846976) (hlm:rs.length≤9223372036854775807):
  Calls prog 102 #[.slice a rs.length cap,.int .i64 k0] w fun e w'=>e=.returned (.int .i64 (k0+jA rs))∧w'=w:=by
 have Vq:=QC rs k0;rcases hr.cases with h | ⟨b,off,rfl,hpos,hcell⟩
 ·have h':=qcz List.length h;rw [Vq] at h';obtain rfl:=qcI.1 h';go_enter func102,ntmps102;go_wp2;refine qdp 1 ?_;rw [qdC];go_wp2;go_ret;exact ⟨by simp [jA],rfl⟩
 ·rw [Vq] at hpos hcell;go_enter func102,ntmps102;go_wp2
  go_loop [1,5] (fun kk i=>∃ j:Nat,j≤rs.length∧i=.int .i64 j∧kk=.int .i64 (k0+jA (rs.take j))) (fun _ i=>rs.length-(intOf i).toNat)
  case atStart=>exact ⟨0,qaw _,rfl,by simp [jA]⟩
  case round=>
   obtain ⟨j,hj,rfl,rfl⟩:=hrel;by_cases hlt:j<rs.length
   ·obtain ⟨hc,hrd⟩:=hcell j hlt;have hcn:=Wv rs j hlt;have hcl:=Mi rs (j+1);rw [LQ rs k0 j hlt] at hc hrd;have HCN:Hid (k0+jA (rs.take (j+1))=k0+jA (rs.take j)+Qr (rs.getD j qE)):=by rw [Hid,hcn];omega
    have hkb:0≤k0+(jA (rs.take j):Int)∧k0+(jA (rs.take j):Int)+Qr (rs.getD j qE)≤1152921504606846976:=⟨by omega,by omega⟩;clear hcn hcl hk h0 hcell hpos hr Vq;generalize k0+(jA (rs.take j):Int)=kk at*
    generalize rs.getD j qE=z at*
    have hcz:Qr z=10+z.bf.v.o.ints.length+z.bf.v.o.refs.length+z.af.v.o.ints.length+z.af.v.o.refs.length+3*z.txs.length:=rfl;have x0:w.cell? ⟨b,off+j*15,none⟩=some (.int .i64 kk):=hc 0 _ rfl;have x1:w.cell? ⟨b,off+j*15+1,none⟩=some (.int .i64 (kk+1)):=hc 1 _ rfl;have x2:w.cell? ⟨b,off+j*15+2,none⟩=some (.int .i64 (kk+1+1)):=hc 2 _ rfl;have x3:w.cell? ⟨b,off+j*15+3,none⟩=some (.int .i64 (kk+1+1+1)):=hc 3 _ rfl;have x4:w.cell? ⟨b,off+j*15+4,none⟩=some (.int .i64 (kk+1+1+1+1)):=hc 4 _ rfl;have x5:w.cell? ⟨b,off+j*15+5,none⟩=some (.bool ((kk+1+1+1+1+1) % 3 == 0)):=hc 5 _ rfl;have x6:w.cell? ⟨b,off+j*15+6,none⟩=some (.int .i64 (kk+1+1+1+1+1+1)):=hc 6 _ rfl;have x7:w.cell? ⟨b,off+j*15+7,none⟩=some (.slice z.bf.aI z.bf.v.o.ints.length z.bf.cI):=(hc 7 _ rfl).trans (by simp only [vM,jq]);have x8:w.cell? ⟨b,off+j*15+8,none⟩=some (.slice z.bf.aR z.bf.v.o.refs.length z.bf.cR):=(hc 8 _ rfl).trans (by simp only [vM,jq]);have x9:w.cell? ⟨b,off+j*15+9,none⟩=some (.bool ((kk+1+1+1+1+1+1+1+z.bf.v.o.ints.length+z.bf.v.o.refs.length) % 3 == 0)):=hc 9 _ rfl;have xO:w.cell? ⟨b,off+j*15+10,none⟩=some (.int .i64 (kk+1+1+1+1+1+1+1+z.bf.v.o.ints.length+z.bf.v.o.refs.length+1)):=hc 10 _ rfl;have yA:w.cell? ⟨b,off+j*15+11,none⟩=some (.slice z.af.aI z.af.v.o.ints.length z.af.cI):=(hc 11 _ rfl).trans (by simp only [vM,jq]);have yE:w.cell? ⟨b,off+j*15+12,none⟩=some (.slice z.af.aR z.af.v.o.refs.length z.af.cR):=(hc 12 _ rfl).trans (by simp only [vM,jq]);have yQ:w.cell? ⟨b,off+j*15+13,none⟩=some (.int .i64 (kk+1+1+1+1+1+1+1+z.bf.v.o.ints.length+z.bf.v.o.refs.length+1+1+z.af.v.o.ints.length+z.af.v.o.refs.length)):=hc 13 _ rfl;have yC:w.cell? ⟨b,off+j*15+14,none⟩=some (.slice z.aL z.txs.length z.cL):=(hc 14 _ rfl).trans (by simp only [vM,zH]);have C1:=heldIntS_any z.bf.aI z.bf.cI (kk+1+1+1+1+1+1+1) z.bf.v.o.ints.length w hrd.bf.ints (by omega) (by omega);have C2:=heldIntS_any z.bf.aR z.bf.cR (kk+1+1+1+1+1+1+1+z.bf.v.o.ints.length) z.bf.v.o.refs.length w hrd.bf.refs (by omega) (by omega);have C3:=heldIntS_any z.af.aI z.af.cI (kk+1+1+1+1+1+1+1+z.bf.v.o.ints.length+z.bf.v.o.refs.length+1+1) z.af.v.o.ints.length w hrd.af.ints (by omega) (by omega);have C4:=heldIntS_any z.af.aR z.af.cR (kk+1+1+1+1+1+1+1+z.bf.v.o.ints.length+z.bf.v.o.refs.length+1+1+z.af.v.o.ints.length) z.af.v.o.refs.length w hrd.af.refs (by omega) (by omega);have C5:=Uw z.aL z.cL (kk+1+1+1+1+1+1+1+z.bf.v.o.ints.length+z.bf.v.o.refs.length+1+1+z.af.v.o.ints.length+z.af.v.o.refs.length+1) z.txs.length w hrd.txs (by omega) (by omega);have qbK:Hid (k0+(jA (rs.take (j+1)):Int)=kk+1+1+1+1+1+1+1+z.bf.v.o.ints.length+z.bf.v.o.refs.length+1+1+z.af.v.o.ints.length+z.af.v.o.refs.length+1+3*z.txs.length):=by rw [Hid,HCN.out,hcz];omega
    clear hc hrd HCN;go_wp2_with fail;refine C1.mono ?_;clear C1 x0 x1 x2 x3 x4 x5 x6 x7;rintro e w1 ⟨rfl,h1⟩;rw [h1];clear h1 w1;go_wp2_with fail;refine C2.mono ?_;clear C2 x8;rintro e w1 ⟨rfl,h1⟩;rw [h1];clear h1 w1;go_wp2_with fail;refine C3.mono ?_;clear C3 x9 xO yA;rintro e w1 ⟨rfl,h1⟩;rw [h1];clear h1 w1;go_wp2_with fail;refine C4.mono ?_;clear C4 yE;rintro e w1 ⟨rfl,h1⟩;rw [h1];clear h1 w1;go_wp2_with fail;refine C5.mono ?_;clear C5 yQ yC;rintro e w1 ⟨rfl,h1⟩;rw [h1];clear h1 w1;go_wp2_with fail
    go_round
    case rel=>exact ⟨j+1,by omega,by go_num,by rw [qbK.out]⟩
    case measure=>simp [intOf];omega
   ·have HE:Hid (k0+(jA (rs.take j):Int)=k0+jA rs):=by
     have e:j=rs.length:=by omega
     rw [Hid,e,qfE]
    go_wp2;go_ret;exact ⟨jN HE.out,rfl⟩
def qI.mark (l:qI) (k:Int):qI:={ l with recs:=xY l.recs k }
def qI.count (l:qI):Nat:=jA l.recs
theorem fO (l:qI) (lo hi:Nat) (k0:Int) (w:World) (ho:l.own w lo hi) (hl:l.short 1099511627776) (h0:0≤k0) (hk:k0+l.count≤1152921504606846976):
  Calls prog 49 #[.agg l.cells.toArray,.int .i64 k0] w fun e w'=>e=.returned (.int .i64 (k0+l.count))∧(l.mark k0).own w' lo hi∧Touch l.blocks w w':=by
 obtain ⟨rs,s,a,c⟩:=l;have hl2:=hl.each;simp only [qI.cells,qI.own,qI.count,qI.mark,qI.blocks] at*
 obtain ⟨W,hW,b0,hbW,qD⟩:=qB w [.slice a rs.length c,.int .i64 s] 55;have c0:=b0.cell 0 _ rfl;have C:=Pb lo hi a c k0 rs W (ho.below hbW) hl2 h0 hk;clear qD b0;go_enter func49,ntmps49;go_wp2_with fail;rw [hW.out];clear hW;refine C.mono ?_;rintro e w1 ⟨rfl,ho1,ht1⟩;go_wp2;go_ret;exact ⟨rfl,ho1,(Touch.of_below hbW).trans ht1⟩
theorem Sg (l:qI) (lo hi:Nat) (k0:Int) (w:World) (ho:(l.mark k0).own w lo hi) (hl:l.recs.length≤1099511627776) (h0:0≤k0) (hk:k0+l.count≤1152921504606846976):
  Calls prog 55 #[.agg l.cells.toArray,.int .i64 k0] w fun e w'=>e=.returned (.int .i64 (k0+l.count))∧qa w w':=by
 obtain ⟨rs,s,a,c⟩:=l;simp only [qI.cells,qI.own,qI.count,qI.mark] at*
 obtain ⟨W,hW,b0,hbW,qD⟩:=qB w [.slice a rs.length c,.int .i64 s] 55;have c0:=b0.cell 0 _ rfl;have C:=Cq a c k0 rs W (ho.below hbW).reads h0 hk (by omega);have hnn:¬ (k0+(jA rs:Int)<0):=by omega
 clear qD b0;go_enter func55,ntmps55;go_wp2_with fail;rw [hW.out];clear hW;refine C.mono ?_;rintro e w1 ⟨rfl,rfl⟩;go_wp2;go_ret;exact ⟨rfl,hbW⟩
theorem fP (rs:List ql) (m:Nat) (h:∀ r∈rs,r.short m):jA rs≤rs.length*(10+7*m):=by
 induction rs with
 | nil=>simp [jA]
 | cons x r ih=>
  have h1:=h x (by simp);have h2:=ih (fun y hy=>h y (by simp [hy]));have hb:=h1.bf;have ha:=h1.af;have ht:=h1.txs;have hx:Qr x≤10+7*m:=by simp only [Qr];omega
  simp only [jA,qcS,Nat.add_mul,Nat.one_mul];omega
end Go.Proofs.YtnfdccldabbobaaGreatDoor
