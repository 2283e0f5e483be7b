/- Texts. -/
import Derived.Test.YtnfdccldabbobaaGreatDoorP21
import Derived.Test.YtnfdccldabbobaaGreatDoorP22
set_option maxHeartbeats 8000000
set_option maxRecDepth 100000
namespace Go.Proofs.YtnfdccldabbobaaGreatDoor
open Go.RowKit Go.Proofs.Tryz
section
attribute [local go_sem ↓] Go.wp_at_zero Go.wp_at_succ
def uf (e:qR) (s:q9):qR:={ e with log:=⟨e.log.recs,max e.log.sure (min s.lsn e.log.recs.length)⟩,disk:=e.disk.set s.no.toNat (s.lsn,s.ss) }
theorem qb.ZB {e:qb} (h:e.shape) (j:Nat) (v:Value):e.cells.set (136+j) v=qx e.disk++e.tail.set j v:=by
 rw [qb.cells,qdh _ _ (by rw [qb.yg h];omega),qb.yg h,show 136+j-136=j by omega]
theorem j3.qeg {w:World} {E:Nat} {e e':qb} (h:wu w E e) (j:Nat) (v:Value) (hd:e'.disk=e.disk) (ht:e'.tail=e.tail.set j v):
  ∃ W,Hid (w.setCell ⟨E,136+j,none⟩ v=W)∧Box W E e'.cells TE∧Touch [E] w W∧W.heap.size=w.heap.size:=by
 obtain ⟨W,hW,b,hw,hs⟩:=jZ h.box (136+j) v;rw [qb.ZB h.shape] at b;refine ⟨W,hW,by rw [qb.cells,hd,ht];exact b,⟨hw.os,hw.tape,hw.output,hw.size,fun k hk hn=>hw.block k hk (fun hh=>hn (by simp;omega))⟩,hs⟩
theorem qP.splice {w:World} {lo hi l u:Nat} {A X B Y:List qj} (h:qP w lo hi (A++(X++B))) (hy:qP w l u Y) (hl:hi≤l) (hlo:lo≤hi) (htop:max hi u≤w.heap.size):qP w lo (max hi u) (A++(Y++B)):=by
 have hap:=h.apart;have hb:=h.qC;have hyb:=hy.qC;refine ⟨fun x hx=>?_,?_⟩
 ·simp only [qaa] at hx;rcases hx with hx | hx | hx
  ·exact (h.each x (by simp [hx])).widen qg (by omega) htop
  ·exact (hy.each x hx).widen (by omega) (by omega) htop
  ·exact (h.each x (by simp [hx])).widen qg (by omega) htop
 ·simp only [qcy] at hap hb ⊢;refine Jw (n:=hi) hap hy.apart (fun k hk=>.inr (by have:=(hyb k hk).1;omega)) (fun k hk=>(hb k (by simp only [qaa];exact .inl hk)).2) (fun k hk=>(hb k (by simp only [qaa];exact .inr (.inr hk))).2)
theorem Nh (ps:List qA) (k:Nat) (hk:k<ps.length) (q:qA):ps.set k q=ps.take k++q::ps.drop (k+1):=by rw [List.set_eq_take_append_cons_drop,qan hk]
theorem SI (ps:List qA) (k:Nat) (hk:k<ps.length):ps=ps.take k++ps[k]::ps.drop (k+1):=by
 conv=>lhs;rw [← qdJ k ps,qcX hk]
def qI.upTo (l:qI) (n:Int):qI:={ l with sure:=max l.sure (min n l.recs.length) }
theorem Px (E:Nat) (e:qb) (n:Int) (w:World) (h:wu w E e):
  Calls prog 149 #[.pointer (some ⟨E,138,none⟩),.int .i64 n] w fun r w'=>(∃ v,r=.returned v)∧kC E e w (e.jP (e.log.upTo n)) w'∧Touch [E] w w':=by
 have c0:w.cell? ⟨E,138,none⟩=some (.slice e.log.a e.log.recs.length e.log.c):=qb.xG h.shape h.box 2 _ rfl;have c1:w.cell? ⟨E,138+1,none⟩=some (.int .i64 e.log.sure):=qb.xG h.shape h.box 3 _ rfl;refine (fU E 138 e.log.a e.log.c e.log.recs.length e.log.sure n w c0 c1 (h.box.frozen _)).mono ?_;rintro r w' ⟨hv,hw⟩;refine ⟨hv,?_⟩;rcases hw with ⟨rfl,hm⟩ | rfl
 ·have e0:e.jP (e.log.upTo n)=e:=by
   simp only [qb.jP,qI.upTo,hm]
  rw [e0];exact ⟨ji.refl h,Touch.refl _ _⟩
 ·obtain ⟨W,hW,b,ht,hs⟩:=h.qeg (e':=e.jP (e.log.upTo n)) 3 (.int .i64 (max e.log.sure (min n e.log.recs.length))) rfl rfl;have hW':w.setCell ⟨E,138+1,none⟩ (.int .i64 (max e.log.sure (min n e.log.recs.length)))=W:=hW.out;rw [hW'];refine ⟨h.logs (e.log.upTo n) b ?_ (ht.mono (by simp)) (fun k hk=>.inl hk),ht⟩;exact (h.own.log.touch ht (fun k hk hk'=>h.off (by rw [← qac.1 hk'];exact qb.wY hk))).widen qg ht.size qg
theorem j3.Tv {f:qb→List Value} {T:TypeId} {w:World} {E:Nat} {e:qb} (h:j3 f T w E e) (tl:qb→List Value) (hfc:∀ e:qb,f e=qx e.disk++tl e) (htl:∀ (e:qb) (ps:List qA),tl (e.uZ ps)=tl e) (n:Nat) (h8:n<8) (q:qA) (hq:q.ss.length=4) {l u:Nat} (oq:qP w l u q.ss) (w0:World) (hl:w0.heap.size≤l) (hlt:∀ k∈e.blocks,k<w0.heap.size) (hE:E<w0.heap.size) (hw0:w0.heap.size≤w.heap.size) (hu:u≤w.heap.size):
  ∃ W,Hid (w.setCells E (n*17) q.cells=W)∧Hid (w.there E (n*17) q.cells.toArray.size)∧j3 f T W E (e.uZ (e.disk.set n q))∧Touch [E] w W∧W.heap.size=w.heap.size∧(∀ k∈(e.uZ (e.disk.set n q)).blocks,k∈e.blocks∨l≤k):=by
 have hk:n<e.disk.length:=by rw [h.shape.eight];exact h8
 have ak:e.disk[n].ss.length=4:=h.shape.four _ (qdw hk);have e1:f e=qx (e.disk.take n)++(e.disk[n].cells++(qx (e.disk.drop (n+1))++tl e)):=by rw [hfc,QI e.disk n hk];simp
 have b:=h.box;rw [e1] at b;obtain ⟨W,hW,b',hw,hs⟩:=jE _ _ q.cells _ b (by rw [jJ _ hq,jJ _ ak]);have hpl:(qx (e.disk.take n)).length=n*17:=by rw [kS _ (fun p hp=>h.shape.four p (qfN hp)),qdm,qf1 (Nat.le_of_lt hk)]
 rw [hpl] at hW;have e2:f (e.uZ (e.disk.set n q))=qx (e.disk.take n)++(q.cells++(qx (e.disk.drop (n+1))++tl e)):=by
  have e3:f (e.uZ (e.disk.set n q))=qx (e.disk.set n q)++tl e:=by rw [hfc,htl];rfl
  rw [e3,Nh _ _ hk];simp [qx]
 rw [← e2] at b';have ht:Touch [E] w W:=⟨hw.os,hw.tape,hw.output,hw.size,fun k hk hn=>hw.block k hk (fun hh=>hn (by simp;omega))⟩;have uu:(e.disk.set n q).length=8:=by rw [qcP,h.shape.eight]
 have hb4:∀ p∈e.disk.set n q,p.ss.length=4:=fun p hp=>(qcV hp).elim (h.shape.four p) (fun e=>by rw [e];exact hq)
 have d1:e.disk.flatMap (·.ss)=(e.disk.take n).flatMap (·.ss)++(e.disk[n].ss++(e.disk.drop (n+1)).flatMap (·.ss)):=by
  have e4:=qcz (List.flatMap (fun x:qA=>x.ss)) (SI e.disk n hk);rw [qcy,qaY] at e4;exact e4
 have d2:(e.disk.set n q).flatMap (·.ss)=(e.disk.take n).flatMap (·.ss)++(q.ss++(e.disk.drop (n+1)).flatMap (·.ss)):=by rw [Nh _ _ hk];simp
 have hod:qP w 0 w0.heap.size (e.disk.flatMap (·.ss)):=⟨fun x hx=>by
  have hx1:=h.own.disk.each x hx;have hxb:∀ k∈x.blocks,k<w0.heap.size:=fun k hk=>hlt k (qb.wZ (qag.2 ⟨x,hx,hk⟩))
  exact ⟨⟨hx1.ints.1,hw0,fun k hk=>hxb k (qaa.2 (.inl (qad.2 hk)))⟩,⟨hx1.refs.1,hw0,fun k hk=>hxb k (qaa.2 (.inr (qad.2 hk)))⟩,hx1.apart⟩,h.own.disk.apart⟩
 have hos:qP w 0 (max w0.heap.size u) ((e.disk.set n q).flatMap (·.ss)):=by
  rw [d2];rw [d1] at hod;exact hod.splice oq hl (qaw _) (by omega)
 have hfr:∀ k∈((e.disk.set n q).flatMap (·.ss)).flatMap qj.blocks,k∈e.Kw∨l≤k:=fun k hk=>by
  rw [d2] at hk;unfold qb.Kw;rw [d1];simp only [qcy,qaa] at hk ⊢;rcases hk with hk | hk | hk
  ·exact .inl (.inl hk)
  ·exact .inr (oq.qC k hk).1
  ·exact .inl (.inr (.inr hk))
 have qmh:qP W 0 W.heap.size ((e.disk.set n q).flatMap (·.ss)):=(hos.touch ht (fun k hk hk'=>by
  have hkE:=qac.1 hk';subst hkE;rcases hfr k hk with h1 | h1
  ·exact h.off (qb.wZ h1)
  ·omega)).widen qg (by omega) qg
 have ap:=h.apart;have hEb:∀ k∈e.blocks,k∉[E]:=fun k hk hk'=>h.off (by rw [← qac.1 hk'];exact hk)
 refine ⟨W,hW,?_,⟨b',⟨uu,hb4⟩,⟨qmh,?_,?_,?_,?_,?_⟩,?_⟩,ht,hs,?_⟩
 ·exact h.box.there (n*17) _ (by rw [qcY,jJ _ hq,hfc,qai,qb.yg h.shape];omega)
 ·exact (h.own.pool.touch ht (fun k hk=>hEb k (qb.xU hk))).widen qg ht.size qg
 ·exact (h.own.log.touch ht (fun k hk=>hEb k (qb.wY hk))).widen qg ht.size qg
 ·exact (h.own.txs.touch ht (fun k hk=>hEb k (qb.zL (qad.2 hk)))).widen qg ht.size qg
 ·exact (h.own.holds.touch ht (fun k hk=>hEb k (qb.wJ (qad.2 hk)))).widen qg ht.size qg
 ·exact Jw (A:=[]) (P:=e.Kw) (n:=l) (by rw [qfU];exact h.own.apart) hos.apart hfr (by simp) (fun k hk=>qe2 (hlt k (by simp only [qb.blocks,qb.uZ,qaa] at hk ⊢;exact .inr hk)) hl)
 ·intro hk;have hoff:=h.off;simp only [qb.blocks,qb.uZ,qaa] at hk hoff;rcases hk with hk | hk
  ·rcases hfr E hk with h1 | h1
   ·exact hoff (.inl h1)
   ·omega
  ·exact hoff (.inr hk)
 ·intro k hk;simp only [qb.blocks,qb.uZ,qaa] at hk ⊢;rcases hk with hk | hk
  ·exact (hfr k hk).imp .inl id
  ·exact .inl (.inr hk)
theorem SK (E:Nat) (e:qb) (s:qh) (w:World) (h:wu w E e) (n:Nat) (hn:s.no=(n:Int)) (h8:n<8) (hr:∀ u,Touch [E] w u→s.reads u) (hl:Fit s.ss):
  Calls prog 115 #[.pointer (some ⟨E,0,none⟩),.agg s.cells.toArray] w fun r w'=>(∃ v,r=.returned v)∧∃ e',Hid (e'.v=uf e.v s.v)∧Hid (e'.log.recs=e.log.recs)∧kC E e w e' w':=by
 obtain ⟨W,hW,b0,hbW,qD⟩:=qB w s.cells 121;have a1:=h.below hbW;have hoff:Off E e w.heap.size:=h.new qg;have hws:w.heap.size<W.heap.size:=by omega
 have wK:Hid (∀ u,Box u w.heap.size s.cells 121→u.rangeAt w.heap.size 0 s.cells∧u.rangeAt w.heap.size 1 s.page.cells):=fun u bu=>⟨qN bu,by
  have e1:s.cells=[.int .i64 s.no]++(s.page.cells++[.bool s.dirty,.bool s.hot]):=by rw [qh.ui];rfl
  rw [e1] at bu;exact Box.range _ _ _ bu⟩
 have HI:Hid ((prog.info? 48).map (·.size)=some s.page.cells.length):=by rw [Hid,jJ s.page rfl];kernel_rfl
 clear qD;go_enter func115,ntmps115;go_upto_region 1 with fail;rw [hW.out];clear hW;have ND:qa W W.drew:=(qab _ _).drew;have a2:=a1.below ND;have b2:=b0.below ND b0.lt;refine qaZ (S:=fun w'=>w'.rangeAt w.heap.size 0 s.cells∧w'.rangeAt w.heap.size 1 s.page.cells) (by kernel_rfl) ?_ (fun qc=>?_)
 ·exact wK.out _ b2
 iterate 5 refine jv ?_
 refine tk 5 (v:=.int .i64 s.lsn) rfl (Or.inl ⟨by rfl,?_⟩) qc ?_
 ·intro w' hSw;have hx:w'.cell? ⟨w.heap.size,1,none⟩=some (.int .i64 s.lsn):=hSw.1 1 _ rfl;go_simp<;>rfl
 try simp only [zz]
 refine jc 6 (fun K hK=>?_);go_simp;refine (Px E e s.lsn W.drew a2).mono ?_;rintro r w3 ⟨⟨v3,rfl⟩,s3,t3⟩;have b3:=s3.boxes b2 hoff;have N0:qa w W.drew:=qf hbW ND;have S3:kC E e w (e.jP (e.log.upTo s.lsn)) w3:=ji.after N0 s3;have r3:s.reads w3:=hr _ ((Touch.of_below N0).trans t3);have hs3:=S3.size;have dG:=s3.size;have hE:E<w.heap.size:=h.box.lt;have hb3:w.heap.size<w3.heap.size:=b3.lt;refine qX hK (wK.out _ b3) fun qc=>?_
 clear hK K;try simp only [zz]
 refine qau (by kernel_rfl) ?_ _;clear qc s3 a1 a2 b2 b0 t3 hr;have GI:qa w3 w3.drew:=(qab _ _).drew;have a4:=S3.at'.below GI;have b4:=b3.below GI b3.lt;go_upto_region 2 with fail;refine qaZ (S:=fun w'=>w'.rangeAt w.heap.size 0 s.cells∧w'.rangeAt w.heap.size 1 s.page.cells) (by kernel_rfl) ?_ (fun qc=>?_)
 ·exact wK.out _ b4
 iterate 2 refine jv ?_
 refine tk 2 (v:=.int .i64 s.no) rfl (Or.inl ⟨by rfl,?_⟩) qc ?_
 ·intro w' hSw;have hx:w'.cell? ⟨w.heap.size,0,none⟩=some (.int .i64 s.no):=hSw.1 0 _ rfl;go_simp<;>rfl
 try simp only [zz]
 refine jg 3 ?_;refine xB 4 s.page.cells (fun _ h=>h.2) underlying48 HI.out ?_;refine jg 6 ?_;refine jg 7 ?_;refine jc 5 (fun K hK=>?_);go_simp;refine (Ye s.page rfl w3.drew (r3.below GI) hl).mono ?_;rintro r w5 ⟨ts,rfl,hts,GJ,hb5⟩;have Ug:qa w3 w5:=GI.trans hb5;have a5:=S3.at'.below Ug;have b5:=b3.below Ug b3.lt;have S5:=S3.below Ug;have h4:ts.length=4:=by have:=qcz List.length hts.out;simpa [qh.page,qh.ss] using this
 have hs5:=Ug.size;refine qX hK (wK.out _ b5) fun qc=>?_
 clear hK K;try simp only [zz]
 obtain ⟨WF,qK,Y8,aF,tF,q8,fF⟩:=a5.Tv qb.tail (fun _=>rfl) (fun _ _=>rfl) n h8 ⟨s.lsn,ts⟩ h4 GJ w3.drew qg (fun k hk=>a4.lt k hk) a4.box.lt hb5.size qg;have Qw:Hid (w5.setCells E (n*17) (qA.cells ⟨s.lsn,ts⟩).toArray.toList=WF):=qK.out;have bF:=b5.touch tF (by simp;omega);have Tw:Hid ((prog.info? 48).map (·.size)=some (qA.cells ⟨s.lsn,ts⟩).toArray.size):=by rw [Hid,qcY,jJ _ h4];kernel_rfl
 have HS:Hid (∃ e',Hid (e'.v=uf e.v s.v)∧Hid (e'.log.recs=e.log.recs)∧kC E e w e' WF):=by
  refine ⟨_,?_,?_,aF,?_,?_⟩
  ·rw [Hid];simp only [qb.v,qb.uZ,qb.jP,uf,qI.upTo,qI.v,qeW,qh.v,hn,qcU,hts.out,qh.page,qa4]
  ·rfl
  ·exact S5.touch.trans (tF.mono (by simp))
  ·intro k hk;rcases fF k hk with h1 | h1
   ·exact S5.fresh k h1
   ·exact .inr (by have:w3.drew.heap.size=w3.heap.size:=rfl;omega)
 clear qK aF tF q8 fF;have Yx:(n:Int)<8:=by omega
 have hn0:(0:Int)≤(n:Int):=by omega
 refine jg 8 ?_;refine jc 9 (fun K hK=>?_);rw [qan (by rfl)];refine qc7 48 (.tmp 19) (.tmp 16) rfl E (n*17) (qA.cells ⟨s.lsn,ts⟩).toArray rfl rfl Y8.out Tw.out (qaf (uM _)) ?_;rw [Qw.out];refine qX hK (wK.out _ bF) fun qc=>?_
 clear hK K;try simp only [Act.put,zA,zB,zC]
 refine qau (by kernel_rfl) ?_ _;go_wp2;go_end0;exact ⟨⟨_,rfl⟩,HS.out⟩
end
theorem FE (off:Nat):∀ (vs A old R:List Value) (j:Nat),old.length=vs.length→A.length=off+j→
  (vs.zipIdx j).foldl (fun (cs:Array Value) (p:Value × Nat)=>cs.setIfInBounds (off+p.2) p.1) (A++(old++R)).toArray=(A++(vs++R)).toArray
 | [],A,old,R,j,h,hA=>by
  have:old=[]:=qcI.1 h;rw [this];rfl
 | v::vs,A,[],R,j,h,hA=>by cases h
 | v::vs,A,o::old,R,j,h,hA=>by
  rw [List.zipIdx_cons,List.foldl_cons];have e1:(A++(o::old++R)).toArray.setIfInBounds (off+j) v=((A++[v])++(old++R)).toArray:=by
   rw [qf8,← hA,qdh _ _ qg,qfV];simp
  have e2:=FE off vs (A++[v]) old R (j+1) (by simpa using h) (by rw [qai,hA];rfl);show List.foldl _ ((A++(o::old++R)).toArray.setIfInBounds (off+j) v) _=_;rw [e1,e2];simp
theorem O6 (vs A old R:List Value) (h:old.length=vs.length):vs.toArray.zipIdx.foldl (fun (cs:Array Value) (p:Value × Nat)=>cs.setIfInBounds (A.length+p.2) p.1) (A++(old++R)).toArray=(A++(vs++R)).toArray:=by
 rw [← Array.foldl_toList,Array.toList_zipIdx];exact FE A.length vs A old R 0 h rfl
theorem gz (place:Nat→Option (Nat × Nat)) (A vs old R:List Value) (i:Nat) (v:Value) (rest:List (Nat × Value)) (hp:place i=some (A.length,vs.length)) (hv:v.cells=vs.toArray) (h:old.length=vs.length):
  Instr.fill place (A++(old++R)).toArray ((i,v)::rest)=Instr.fill place (A++(vs++R)).toArray rest:=by
 have e1:v.cells.size=vs.length:=by rw [hv];simp
 have e2:(A++(old++R)).toArray.size=A.length+(vs.length+R.length):=by simp [h]
 have e3:=O6 vs A old R h;rw [Instr.fill];simp only [hp,e1,e2];rw [qa2 (by simp),hv];exact qcz (fun c=>Instr.fill place c rest) e3
def zi (cs:List Value) (M:Nat) (n:Int):List Value:=cs++[.map (some M),.int .i64 n]
theorem O7 (parts:List (Nat × Value)):prog.built 137 parts=Instr.fill ((#[(0,144),(144,1),(145,1)]:Array (Nat × Nat))[·]?) (([]:List Value)++(zeroE.cells++[Value.map none,Value.int .i64 0])).toArray parts:=by kernel_rfl
theorem AO (w:World) (t:qb) (st:t.shape) (M:Nat) (n:Int):(Instr.build 137 #[(0,Value.agg t.cells.toArray),(1,Value.map (some M)),(2,Value.int .i64 n)]).run prog w=.ok (.agg (zi t.cells M n).toArray) w:=by
 refine run_build w _ _ _ ?_;rw [O7];have hl:=qb.yc st;have h0:zeroE.cells.length=t.cells.length:=by rw [hl,qb.yc zT]
 rw [show (#[(0,Value.agg t.cells.toArray),(1,Value.map (some M)),(2,Value.int .i64 n)]:Array (Nat × Value)).toList=[(0,Value.agg t.cells.toArray),(1,Value.map (some M)),(2,Value.int .i64 n)] from rfl];rw [gz _ [] t.cells zeroE.cells [Value.map none,Value.int .i64 0] 0 _ _ (by rw [hl];rfl) rfl h0];have e1:([]:List Value)++(t.cells++[Value.map none,Value.int .i64 0])=t.cells++([Value.map none]++[Value.int .i64 0]):=rfl;rw [e1,gz _ t.cells [Value.map (some M)] [Value.map none] [Value.int .i64 0] 1 _ _ (by rw [hl];rfl) rfl rfl];have e2:t.cells++([Value.map (some M)]++[Value.int .i64 0])=(t.cells++[Value.map (some M)])++([Value.int .i64 0]++[]):=by simp
 rw [e2,gz _ (t.cells++[Value.map (some M)]) [Value.int .i64 n] [Value.int .i64 0] [] 2 _ _ (by rw [qai,hl];rfl) rfl rfl];unfold Instr.fill zi;simp
def gX (B o:Nat) (cs:List Value) (T:TypeId) (a:Option Addr) (c:Nat) (rs:List ql) (lo:Nat) (r:xS) (w:World) (e:Ending) (w':World):Prop:=
 (e=.returned (.int .i64 0)∧(rs.length=4000∨xx (vW r ((rs.length:Int)+1))=false)∧qa w w')∨
 ∃ (x:ql) (a':Option Addr) (c':Nat),e=.returned (.int .i64 ((rs.length:Int)+1))∧rs.length≠4000∧xx (vW r ((rs.length:Int)+1))=true∧x.v=vW r ((rs.length:Int)+1)∧
  Box w' B (cs.set o (.slice a' (rs.length+1) c')) T∧je w' lo w'.heap.size a' c' (rs++[x])∧Touch (B::jw a c rs) w w'∧(∀ k∈jw a' c' (rs++[x]),k∈jw a c rs∨w.heap.size≤k)
theorem Rt (B o:Nat) (cs:List Value) (T:TypeId) (a:Option Addr) (c:Nat) (rs:List ql) (lo hi:Nat) (r:ql) (w:World) (hg:jR w) (b:Box w B cs T) (h0:cs[o]? =some (.slice a rs.length c)) (own:je w lo hi a c rs)
  (hlo:lo≤hi) (hT:∀ (u:World) (vs:List Value) (l k:Nat) (a:Option Addr) (c:Nat) (xs:List ql),Box u B vs T→je u l k a c xs→B∉jw a c xs)
  (hll:rs.length≤1048576) (hrr:r.reads w) (hrs:r.short 1099511627776) (hrc:r.aL=none→r.cL=0):
  Calls prog 133 #[.pointer (some ⟨B,o,none⟩),.agg r.cells.toArray] w fun e w'=>gX B o cs T a c rs lo r.v w e w':=by
 have hBw:=b.lt;have htop:=own.top;obtain ⟨W,hW,b1,hbW,qD⟩:=qB w r.cells 124;have HI:Hid ((prog.info? 124).map (·.size)=some 15):=by rw [Hid];kernel_rfl
 have HTT:Hid (∀ (u:World) (vs:List Value) (l k:Nat) (a:Option Addr) (c:Nat) (xs:List ql),Box u B vs T→je u l k a c xs→B∉jw a c xs):=hT;have HO:Hid (cs[o]? =some (.slice a rs.length c)):=h0;have bB:=b.below hbW b.lt;have ow:=own.below hbW;have c0:=bB.cell o _ h0;have hsw:=hbW.size;have hs0:w.heap.size<W.heap.size:=by omega
 have zf:=b1.frozen 0;have zc:=b1.cell 0 _ rfl;obtain ⟨W4,wL,yB,hw4,hs4⟩:=qeh b1 ((rs.length:Int)+1);have qfW:=qcF hs4;have qfX:=qcF hs4.symm;clear hs4 b1 h0 hT b own qD;have bB4:=bB.within hw4 (by omega);have ow4:=ow.within hw4 (.inl (by omega));have D4:qa w W4:=hbW.trans (hw4.below qg (by omega));have O8:Hid ((r.at ((rs.length:Int)+1)).v=vW r.v ((rs.length:Int)+1)):=qmi _ _;have HYS:Hid ((r.at ((rs.length:Int)+1)).short 1099511627776):=short_at hrs _;have HY0:Hid ((r.at ((rs.length:Int)+1)).lsn=(rs.length:Int)+1):=rfl;have HYR:Hid (∀ u,qa w u→(r.at ((rs.length:Int)+1)).reads u):=fun u hu=>⟨(hrr.below hu).bf,(hrr.below hu).af,(hrr.below hu).txs⟩
 have HYC:Hid ((r.at ((rs.length:Int)+1)).aL=none→(r.at ((rs.length:Int)+1)).cL=0):=hrc;have C4:=Du (rs.length:Int) W (by omega);clear hw4 hrr hrs hrc bB ow;go_enter func133,ntmps133;go_upto_region 1 with fail;rw [hW.out];clear hW;go_wp2_with fail;refine C4.mono ?_;clear C4;rintro e w3' ⟨rfl,h3'⟩;subst h3';go_upto_region 2 with fail;rw [wL.out];clear wL zc zf c0;generalize r.at ((rs.length:Int)+1)=y at*
 have O9:Hid (∀ u,qa W4 u→u.rangeAt w.heap.size 0 y.cells):=fun u hu=>Box.range [] y.cells [] (by simpa using yB.below hu yB.lt)
 have C5:=XT y W4 (hg.keep D4) (HYR.out W4 D4) HYS.out;have c4:=bB4.cell o _ HO.out;by_cases h4:rs.length=4000
 ·have h4b:((rs.length:Int) == 4000)=true:=by simp only [qfu];omega
  have HF:Hid (gX B o cs T a c rs lo r.v w (.returned (.int .i64 0)) W4):=.inl ⟨rfl,.inl h4,D4⟩;clear h4 C5;go_wp2;go_ret;exact HF.out
 ·have h4b:((rs.length:Int) == 4000)=false:=by simp only [qcM];omega
  have ry:=O9.out W4 (qab _ _);go_wp2_with (first | (guard_target=qp 19;refine jD (by rfl) 124 (.tmp 3) rfl w.heap.size 0 rfl y.cells _ ry underlying124 rfl HI.out ?_) | fail);refine C5.mono ?_;clear C5 c4 ry;rintro e w6 ⟨rfl,B6⟩;have hs6:=B6.size;have bB6:=bB4.below B6 bB4.lt;have ow6:=ow4.below B6;have D6:=qf D4 B6;clear bB4 ow4;obtain ⟨vR,hR⟩:∃ v,Hid (xx y.v=v):=⟨_,rfl⟩;rw [hR.out];cases vR with
  | false=>
   have HF:Hid (gX B o cs T a c rs lo r.v w (.returned (.int .i64 0)) w6):=.inl ⟨rfl,.inr (by rw [← O8.out];exact hR.out),D6⟩;clear h4;go_wp2;go_ret;exact HF.out
  | true=>
   have hnd:qa w6 w6.drew:=(qab _ _).drew;have C:=nM y w6.drew (HYR.out _ D6.drew) HYS.out HYC.out;have bBd:=bB6.below hnd bB6.lt;have owd:=ow6.below hnd;have Bd:=B6.drew;have HKK:Hid (rs.length≠4000∧xx (vW r.v ((rs.length:Int)+1))=true):=⟨h4,by rw [← O8.out];exact hR.out⟩;have zd:w6.heap.size≤w6.drew.heap.size:=hnd.size;clear h4 h4b hR bB6 ow6;go_upto_region 4 with fail;refine Vr (· == 11) (S:=fun u=>u.cell? ⟨B,o,none⟩=some (.slice a rs.length c)∧u.rangeAt w.heap.size 0 y.cells) (by kernel_rfl) ⟨bBd.cell o _ HO.out,O9.out _ Bd⟩ (fun qc=>?_);have D7:qa w w6.drew:=D6.drew;generalize w6.drew=d0 at*
   clear hnd B6 D6;refine kr (i:=0) (v:=.pointer (some ⟨B,o,none⟩)) rfl (by kernel_rfl) (fun _ _ _ h=>h) (Or.inl ⟨by rfl,?_⟩) qc ?_
   ·intro w' hSw;go_simp<;>rfl
   try simp only [zz]
   refine kr (i:=1) (v:=.pointer (some ⟨B,o,none⟩)) rfl (by kernel_rfl) (fun _ _ _ h=>h) (Or.inl ⟨by rfl,?_⟩) qc ?_
   ·intro w' hSw;go_simp<;>rfl
   try simp only [zz]
   refine kr (i:=2) (v:=.pointer (some ⟨B,o,none⟩)) rfl (by kernel_rfl) (fun _ _ _ h=>h) (Or.inl ⟨by rfl,?_⟩) qc ?_
   ·intro w' hSw;go_simp<;>rfl
   try simp only [zz]
   refine kr (i:=3) (v:=.pointer (some ⟨B,o,none⟩)) rfl (by kernel_rfl) (fun _ _ _ h=>h) (Or.inl ⟨by rfl,?_⟩) qc ?_
   ·intro w' hSw;go_simp<;>rfl
   try simp only [zz]
   refine kr (i:=4) (v:=.slice a rs.length c) rfl (by kernel_rfl) (fun _ _ _ h=>h) (Or.inl ⟨by rfl,?_⟩) qc ?_
   ·intro w' hSw;have hx:=hSw.1;go_simp<;>rfl
   try simp only [zz]
   refine kr (i:=5) rfl (by kernel_rfl) (fun _ _ _ h=>h) (qfK (by rfl) _ _ rfl _ _ rfl (y.cells) _ (fun _ h=>h.2) underlying124 rfl HI.out) qc ?_;try simp only [zz]
   refine JK 6 (by kernel_rfl) rfl (fun K hK=>?_);go_simp;refine C.mono ?_;clear C;rintro e d1 ⟨x,rfl,hx,oxx,hbx⟩;have hsx:=hbx.size;have B7:=qf Bd hbx;have D8:=qf D7 hbx;have bB7:=bBd.below hbx bBd.lt;have ow7:=owd.below hbx;have HXV:Hid (x.v=vW r.v ((rs.length:Int)+1)):=hx.out.trans O8.out;clear hx bBd owd;refine hK.out _ _ (⟨bB7.cell o _ HO.out,O9.out _ B7⟩) (fun qc=>?_);clear hK K hbx;try simp only [zz]
   refine JK 7 (by kernel_rfl) rfl (fun K hK=>?_);go_simp;simp only [ze,Yq,qeV,qfF,or_self,qf7];go_simp;obtain ⟨W9,U5,y9,Qx,Un⟩:=qB d1 x.cells 124;rw [U5.out];have qpY:=y9.lt;have qpZ:=Qx.size;clear Un;have R9:Hid (W9.rangeAt d1.heap.size 0 x.cells):=qN y9;have B9:=qf B7 Qx;have D9:=qf D8 Qx;have bB9:=bB7.below Qx bB7.lt;have ow9:=ow7.below Qx;have ox9:=oxx.below Qx;clear bB7 ow7 oxx y9;refine hK.out _ _ (⟨bB9.cell o _ HO.out,O9.out _ B9⟩) (fun qc=>?_);clear hK K U5 Qx;try simp only [zz]
   have qmj:rs.length+1≤68719476736:=by omega
   refine JK 8 (by kernel_rfl) rfl (fun K hK=>?_);refine YX rfl (.tmp 27) (.tmp 30) rfl lo hi a c rs rfl ow9 d1.heap.size 0 1 x rfl R9.out d0.heap.size d1.heap.size ox9 (by omega) (fun k hk hk'=>by have:=(ox9.qC k hk).1;have:=(je.qC ow9 k hk').2;omega) (by omega) qmj hlo ?_;intro pU c10 Jl o10 g10 k10;rw [qai,qfD];have YD:Within lo hi W9 Jl:=Within.jO g10 (fun j hj=>⟨(je.row ow9).lt j hj |>.1,je.blk ow9 j hj⟩);have iL:=YD.size;have hB9:=HTT.out _ _ _ _ _ _ _ bB9 ow9;have t10:Touch (jw a c rs) W9 Jl:=Touch.jO g10 (fun j hj=>qaa.2 (.inl (qad.2 hj)));have bBa:=bB9.touch t10 hB9;have qgF:∀ k∈jw pU c10 (rs++[x]),k∈jw a c rs∨w.heap.size≤k:=fun k hk=>by
    have:=D9.size;rcases qaa.1 hk with h | h
    ·rcases k10 k (qad.1 h) with q | q
     ·exact .inl (qaa.2 (.inl (qad.2 q)))
     ·exact .inr (by omega)
    ·rw [qcy] at h;rcases qaa.1 h with q | q
     ·exact .inl (qaa.2 (.inr q))
     ·simp only [qaY,qdH,qcZ] at q;have:=(ox9.qC k q).1;have:=D7.size;exact .inr (by omega)
   have qgG:Jl.rangeAt w.heap.size 0 y.cells:=JW (O9.out _ B9) (YD.block w.heap.size (by omega) (by omega));refine hK.out _ _ (⟨bBa.cell o _ HO.out,qgG⟩) (fun qc=>?_);clear hK K ;try simp only [zz]
   refine JK 9 (by kernel_rfl) rfl (fun K hK=>?_);go_simp;refine hK.out _ _ (qc) (fun qc=>?_);clear hK K ;try simp only [zz]
   refine kr (i:=10) (v:=.pointer (some ⟨B,o,none⟩)) rfl (by kernel_rfl) (fun _ _ _ h=>h) (Or.inl ⟨by rfl,?_⟩) qc ?_
   ·intro w' hSw;go_simp<;>rfl
   try simp only [zz]
   have ef0:=bBa.frozen o;have e0:=bBa.cell o _ HO.out;obtain ⟨W11,Py,bBb,Gu,AP⟩:=jZ bBa o (.slice pU (rs.length+1) c10);have qoG:=qcF AP;have qh7:=qcF AP.symm;clear AP;have qmk:W11.rangeAt w.heap.size 0 y.cells:=JW qgG (Gu.block w.heap.size (by omega) (by omega));have y0:=qmk 0 _ rfl;have qgH:=o10.touch Gu.QG (fun k hk hk'=>HTT.out _ _ _ _ _ _ _ bBa o10 (by rw [← qac.1 hk'];exact hk));have HF:Hid (gX B o cs T a c rs lo r.v w (.returned (.int .i64 y.lsn)) W11):=.inr ⟨x,pU,c10,by rw [HY0.out],HKK.out.1,HKK.out.2,HXV.out,bBb,qgH.widen qg qh7 qg,((Touch.of_below D9).trans (t10.mono (fun k hk=>qcO _ hk))).trans (Gu.QG.mono (fun k hk=>by rw [qac.1 hk];exact qfd)),qgF⟩;refine nQ 11 (by kernel_rfl) rfl rfl (fun K hK=>?_);go_simp;rw [Py.out];refine hK.out _ _ ?_;clear hK K;refine nW (by kernel_rfl) ?_ _;clear Py ef0 e0 qc bBb Gu qgH t10 qgF hB9 k10;go_wp2;go_ret;exact HF.out
section
attribute [local go_sem ↓] Go.wp_at_zero Go.wp_at_succ
def Gq (ss:List qO):Prop:=∀ s∈ss,s.o.ints.length≤1099511627776∧s.o.refs.length≤1099511627776
def Am (s:q9):q9:={ s with hot:=true }
def ko (e:qR) (n:Nat):qR × Int:=
 if 0≤qG e.seats n then ({ e with seats:=e.seats.set (qG e.seats n).toNat (Am (e.seats.getD (qG e.seats n).toNat qy)) },qG e.seats n)
 else
  let b:=kY e.seats e.hand.toNat ⟨n,(e.disk.getD n (0,[])).1,(e.disk.getD n (0,[])).2,false,true⟩
  let e1:qR:={ e with seats:=b.1,hand:=b.2.1 }
  let e2:=if b.2.2.2=true∧b.2.2.1.dirty=true then uf e1 b.2.2.1 else e1
  (e2,qG e2.seats n)
structure qR.zZ (e:qR):Prop where
 len:e.seats.length≤3
 hand:∃ h:Nat,e.hand=h∧h<3
 nos:∀ s∈e.seats,∃ n:Nat,s.no=n∧n<8
 fitS:∀ s∈e.seats,Gq s.ss
 eight:e.disk.length=8
 fitD:∀ p∈e.disk,Gq p.2
theorem Hf {ss:List qj} (h:Gq (ss.map (·.v))):Fit ss:=fun s hs=>h s.v (qgn hs)
theorem SL (no:Int) (ss:List q9) (k:Nat):kN no ss k= -1∨∃ j,kN no ss k=(k+j:Nat)∧j<ss.length∧(ss.getD j qy).no=no:=by
 induction ss generalizing k with
 | nil=>exact .inl rfl
 | cons s r ih=>
  rw [kN];by_cases h:s.no=no
  ·rw [qan h];exact .inr ⟨0,rfl,by simp,by simpa using h⟩
  ·rw [qa2 h];rcases ih (k+1) with h1 | ⟨j,h1,h2,h3⟩
   ·exact .inl h1
   ·exact .inr ⟨j+1,by rw [h1];congr 1;omega,by simp;omega,by simpa using h3⟩
theorem JY (ss:List q9) (no:Int):qG ss no= -1∨∃ j:Nat,qG ss no=j∧j<ss.length∧(ss.getD j qy).no=no:=by
 rcases SL no ss 0 with h | ⟨j,h1,h2,h3⟩
 ·exact .inl h
 ·exact .inr ⟨j,by rw [qG,h1];simp,h2,h3⟩
theorem qb.Ni {e:qb} (h:e.shape) (j:Nat):e.cells[136+j]? =e.tail[j]? :=by
 rw [qb.cells,qcQ (by rw [qb.yg h];omega),qb.yg h,show 136+j-136=j by omega]
theorem j3.qae {w:World} {E:Nat} {e:qb} (h:wu w E e):Ky w 0 w.heap.size E 136 e.cells TE e.aS e.cS e.seats e.hand:=
 ⟨h.box,qb.Ni h.shape 0,qb.Ni h.shape 1,h.own.pool,fun hk=>h.off (qb.xU hk)⟩
theorem qb.AQ {e:qb} (h:e.shape) (ss:List qh) (a:Option Addr) (c:Nat) (hand:Int):(e.cells.set 136 (.slice a ss.length c)).set 137 (.int .i64 hand)=(e.jk ss a c hand).cells:=by
 have h1:e.cells.set 136 (.slice a ss.length c)=qx e.disk++e.tail.set 0 (.slice a ss.length c):=qb.ZB h 0 _;rw [h1,qdh _ _ (by rw [qb.yg h];omega),qb.yg h];rfl
theorem Vu.step {w w':World} {E:Nat} {e:qb} {ts:List qh} {a':Option Addr} {c' hand':Nat} {old:qh} (h:wu w E e) (b:Vu 0 E 136 e.cells TE e.aS e.cS e.seats w w' ts a' c' hand' old):kC E e w (e.jk ts a' c' hand') w':=by
 refine h.pool ts a' c' hand' ?_ b.pool.own b.touch b.fresh;have:=b.pool.box;rw [qb.AQ h.shape] at this;exact this
theorem j3.Pz {w:World} {E:Nat} {e:qb} (h:wu w E e) (k:Nat) (hk:k<e.seats.length) (z':qh) (i:Nat) (v:Value) (hi:i<20) (hc:z'.cells=(e.seats.getD k qi).cells.set i v) (hss:z'.ss=(e.seats.getD k qi).ss):
  ∃ g W,e.aS=some ⟨g,0,none⟩∧g≠E∧Hid (w.setCell ⟨g,k*20+i,none⟩ v=W)∧(∀ j,w.frozen? ⟨g,j,none⟩=false)∧w.rangeAt g (k*20) (e.seats.getD k qi).cells∧kC E e w (e.jk (e.seats.set k z') e.aS e.cS e.hand) W∧Touch [g] w W∧W.heap.size=w.heap.size:=by
 obtain ⟨g,hg⟩:∃ g,e.aS=some ⟨g,0,none⟩:=by
  rcases h.own.pool.row.2 with ⟨_,h0⟩ | ⟨g,cap',cur,hv,_⟩
  ·omega
  ·simp only [qcK] at hv;exact ⟨g,hv.1⟩
 have hmem:g∈qF e.aS e.cS e.seats:=by rw [hg];simp [qF,Value.ownBlock]
 have Za:g≠E:=fun e1=>h.off (by rw [← e1];exact qb.xU hmem)
 have ho:=h.own.pool;rw [hg] at ho;have hr:=zm ho.row rfl k hk;have hf:∀ j,w.frozen? ⟨g,j,none⟩=false:=fun j=>ho.row.frozenAt j
 rw [zu e.seats k hk] at ho;obtain ⟨o2,t2⟩:=OwnSts.Ke (z':=z') ho i v hi hc hss;have hkl:(e.seats.take k).length=k:=by rw [qdm];omega
 rw [hkl,← Qa e.seats k z' hk] at o2;rw [hkl] at t2;have hsz:(w.setCell ⟨g,k*20+i,none⟩ v).heap.size=w.heap.size:=by simp
 have hbl:qF (some ⟨g,0,none⟩) e.cS (e.seats.set k z')=qF (some ⟨g,0,none⟩) e.cS e.seats:=by
  refine UB (n:=e.seats.length) (by simp) rfl ?_;rw [Qa _ _ _ hk];conv=>rhs;rw [zu e.seats k hk]
  simp only [qcy,qaY,qh.blocks,hss]
 refine ⟨g,_,hg,Za,rfl,hf,hr.1,?_,t2,hsz⟩;refine h.pool _ _ _ _ ?_ ?_ (t2.mono (fun j hj=>qcO _ (by rw [qac.1 hj];exact hmem))) (fun j hj=>.inl ?_)
 ·have e1:(e.jk (e.seats.set k z') e.aS e.cS e.hand).cells=e.cells:=by
   simp only [qb.cells,qb.tail,qb.jk,qcP]
  rw [e1];exact h.box.touch t2 (by simpa using fun e1=>Za e1.symm)
 ·rw [hg];exact o2.widen qg (qcF hsz.symm) qg
 ·rw [hg] at hj ⊢;rw [hbl] at hj;exact hj
theorem ji.put {E X:Nat} {e e':qb} {w w' w'':World} (s:kC E e w e' w') (hw:Within X (X+1) w' w'') (ho:Off E e' X) (hX:w.heap.size≤X):kC E e w e' w'':=
 ⟨s.at'.within hw (fun h=>ho.1 (by omega)) (fun k hk h=>ho.2 (by have:k=X:=(by omega);rw [← this];exact hk)),
  ⟨hw.os.trans s.touch.os,hw.tape.trans s.touch.tape,hw.output.trans s.touch.output,qcx s.size hw.size,fun k hk hn=>(hw.block k (qe2 hk s.size) (by omega)).trans (s.touch.block k hk hn)⟩,s.fresh⟩
theorem Nj (m:Nat) (ss:List q9) (h:Nat):∀ s∈(qW m ss h).1,∃ s0∈ss,s.no=s0.no∧s.ss=s0.ss∧s.lsn=s0.lsn∧s.dirty=s0.dirty:=by
 induction m generalizing ss h with
 | zero=>exact fun s hs=>⟨s,hs,rfl,rfl,rfl,rfl⟩
 | succ m ih=>
  intro s hs;rw [qW] at hs;split at hs
  ·next hh=>
   obtain ⟨s0,h0,e1,e2,e3,e4⟩:=ih _ _ s hs;rcases qcV h0 with h1 | h1
   ·exact ⟨s0,h1,e1,e2,e3,e4⟩
   ·by_cases hlt:h<ss.length
    ·refine ⟨ss.getD h qy,?_,by rw [e1,h1];rfl,by rw [e2,h1];rfl,by rw [e3,h1];rfl,by rw [e4,h1];rfl⟩;simp only [List.getD,qcG hlt,qe7];exact qdw hlt
    ·exfalso;have hge:ss.length≤h:=by omega
     simp only [List.getD,qeE hge,Option.getD_none] at hh;cases hh
  ·exact ⟨s,hs,rfl,rfl,rfl,rfl⟩
theorem WN (ss:List q9) (h:Nat) (new:q9) (hl:ss.length≤3):(kY ss h new).1.length≤3:=by
 unfold kY;split
 ·simp;omega
 ·simp only [qcP,Yj];exact hl
theorem Zl (ss:List q9) (h:Nat) (new:q9) (hw:(kY ss h new).2.2.2=true) (hh:h<3):∃ s0∈ss,(kY ss h new).2.2.1.no=s0.no∧(kY ss h new).2.2.1.ss=s0.ss:=by
 unfold kY at hw ⊢;split at hw
 ·cases hw
 ·next hl=>
  rw [qa2 hl];have hk:=(JF 4 ss h hh).2;have hlen:=Yj 4 ss h;have hlt:(qW 4 ss h).2.2<(qW 4 ss h).1.length:=by omega
  obtain ⟨s0,h0,e1,e2,_,_⟩:=Nj 4 ss h ((qW 4 ss h).1.getD (qW 4 ss h).2.2 qy) (by
   simp only [List.getD,qcG hlt,qe7];exact qdw hlt)
  exact ⟨s0,h0,e1,e2⟩
theorem pV {P:Prop} (h:P:=by
 have r8:=Yd.out;have d8:=bo.cell 18 _ (show old.cells[18]? =some (.bool old.dirty) from rfl);have Zh:Hid (ko e.v n=((if went=true∧old.v.dirty=true then uf (e.jk ts a' c' hand').v old.v else (e.jk ts a' c' hand').v),qG (if went=true∧old.v.dirty=true then uf (e.jk ts a' c' hand').v old.v else (e.jk ts a' c' hand').v).seats n)):=by
  rw [Hid,ko,qa2 (by rw [show e.v.seats=e.seats.map qh.v from rfl,qml.out];omega)];have e1:e.v.seats=e.seats.map qh.v:=rfl;have e2:e.v.hand.toNat=hd:=by rw [hhd];rfl
  have e3:e.v.disk.getD n (0,[])=(pg.lsn,pg.ss.map (·.v)):=mV.out;simp only [e1,e2,e3,hbv.out];rfl
 have aZ:Hid (∀ u (e1:qb),wu u E e1→e1.seats.length≤3→Calls prog 113 #[.agg #[.slice e1.aS e1.seats.length e1.cS,.int .i64 e1.hand],.int .i64 n] u fun r w'=>r=.returned (.int .i64 (qG (e1.seats.map qh.v) n))∧qa u w'):=fun u e1 hu hl1=>VD e1.aS e1.cS e1.seats e1.hand n u hu.own.pool.reads (by omega)
 have ed:Hid (ts.length≤3):=by
  have h1:=WN (e.seats.map qh.v) hd ⟨n,pg.lsn,pg.ss.map (·.v),false,true⟩ (by rw [qa4];exact hlen);rw [hbv.out] at h1;rw [Hid]
  simpa using h1
 have yD:Hid (went=true→∃ m:Nat,old.no=m∧m<8∧Fit old.ss):=fun hwt=>by
  have h1:=Zl (e.seats.map qh.v) hd ⟨n,pg.lsn,pg.ss.map (·.v),false,true⟩ (by rw [hbv.out];exact hwt) Bu;rw [hbv.out] at h1;obtain ⟨s0,hs0,e1,e2⟩:=h1;obtain ⟨m,hm,hm8⟩:=hp.nos s0 hs0;exact ⟨m,by rw [← hm,← e1];rfl,hm8,Hf (by have:=hp.fitS s0 hs0;rw [← e2] at this;exact this)⟩
 have HOR:Hid (∀ u,Touch [E] W8 u→old.reads u):=fun u hu=>(oo8.touch hu (fun j hj hk=>(HOE.out j hj).1 (qac.1 hk))).reads
 have qgK:Hid ((prog.info? 52).map (·.size)=some [Value.slice a' ts.length c',.int .i64 (hand':Int)].length):=by rw [Hid];kernel_rfl
 have qca:Hid (∀ u (e1:qb),wu u E e1→u.rangeAt E 136 [.slice e1.aS e1.seats.length e1.cS,.int .i64 e1.hand]):=HRQ;clear Yd qc bo;by_cases hw:went=true
 ·subst hw;by_cases hdi:old.dirty=true
  ·rw [hdi] at d8;obtain ⟨m,hm,hm8,hfit⟩:=yD.out rfl;have C7:=SK E (e.jk ts a' c' hand') old W8 S8.at' m hm hm8 HOR.out hfit;clear yD HOR hm;go_wp2_with (first | (guard_target=qp 45;refine qH 121 6 X 0 old.cells r8 underlying121 (xD old) ?_) | fail);refine C7.mono ?_;clear C7 d8 r8;rintro r w9 ⟨⟨v9,rfl⟩,e9,pW,hl9,s9⟩;have S9:=S8.trans s9;have hq:e9.seats.length≤3:=by
    have h1:=qcz (fun x:qR=>x.seats.length) pW.out;simp only [qb.v,uf,qb.jk,qa4] at h1;have:=ed.out;omega
   have C9:=aZ.out w9 e9 s9.at' hq;have HI9:Hid ((prog.info? 52).map (·.size)=some [Value.slice e9.aS e9.seats.length e9.cS,.int .i64 e9.hand].length):=by rw [Hid];kernel_rfl
   have r9:=qca.out w9 e9 s9.at';have Nk:Hid (ko e.v n=(e9.v,qG (e9.seats.map qh.v) n)):=by
    rw [Hid,Zh.out,qan (by first | exact ⟨rfl,hdi⟩ | exact ⟨trivial,hdi⟩),← pW.out];rfl
   clear Zh aZ ed s9 S8 oo8 hdi;go_wp2_with (first | (guard_target=qp 50;refine qfZ rfl 52 (.tmp 49) rfl E 136 rfl _ _ r9 underlying52 rfl HI9.out ?_) | fail);refine C9.mono ?_;rintro r Jl ⟨rfl,vw⟩;go_wp2;go_ret;exact ⟨e9,_,rfl,Nk,hl9,S9.below vw⟩
  ·have hdf:old.dirty=false:=by simpa using hdi
   rw [hdf] at d8;have C9:=aZ.out W8 _ S8.at' ed.out;have r9:=qca.out W8 _ S8.at';have Nk:Hid (ko e.v n=((e.jk ts a' c' hand').v,qG (ts.map qh.v) n)):=by
    rw [Hid,Zh.out,qa2 (fun hh=>hdi hh.2)];rfl
   clear Zh aZ ed oo8 hdi hdf yD HOR r8;go_wp2_with (first | (guard_target=qp 50;refine qfZ rfl 52 (.tmp 49) rfl E 136 rfl _ _ r9 underlying52 rfl qgK.out ?_) | fail);refine C9.mono ?_;rintro r Jl ⟨rfl,vw⟩;go_wp2;go_ret;exact ⟨_,_,rfl,Nk,rfl,S8.below vw⟩
 ·have hwf:went=false:=by simpa using hw
  subst hwf;have C9:=aZ.out W8 _ S8.at' ed.out;have r9:=qca.out W8 _ S8.at';have Nk:Hid (ko e.v n=((e.jk ts a' c' hand').v,qG (ts.map qh.v) n)):=by
   rw [Hid,Zh.out,qa2 (fun hh=>by cases hh.1)];rfl
  clear Zh aZ ed oo8 yD HOR r8 d8;go_wp2_with (first | (guard_target=qp 50;refine qfZ rfl 52 (.tmp 49) rfl E 136 rfl _ _ r9 underlying52 rfl qgK.out ?_) | fail);refine C9.mono ?_;rintro r Jl ⟨rfl,vw⟩;go_wp2;go_ret;exact ⟨_,_,rfl,Nk,rfl,S8.below vw⟩):P:=h
theorem pX (E:Nat) (e:qb) (n:Nat) (w:World) (h:wu w E e) (hp:e.v.zZ) (h8:n<8):
  Calls prog 67 #[.pointer (some ⟨E,0,none⟩),.int .i64 n] w fun r w'=>∃ (e':qb) (k:Int),r=.returned (.int .i64 k)∧Hid (ko e.v n=(e'.v,k))∧Hid (e'.log.recs=e.log.recs)∧kC E e w e' w':=by
 have P8:Hid ((prog.info? 52).map (·.size)=some [Value.slice e.aS e.seats.length e.cS,.int .i64 e.hand].length):=by rw [Hid];kernel_rfl
 have HRQ:Hid (∀ u (e1:qb),wu u E e1→u.rangeAt E 136 [.slice e1.aS e1.seats.length e1.cS,.int .i64 e1.hand]):=fun u e1 hu j v hv=>by
  match j,hv with
  | 0,hv=>cases hv;exact qb.xG hu.shape hu.box 0 _ rfl
  | 1,hv=>cases hv;exact qb.xG hu.shape hu.box 1 _ rfl
 have C1:=VD e.aS e.cS e.seats e.hand n w h.own.pool.reads (by have:=hp.len;simp only [qb.v,qa4] at this;omega);go_enter func67,ntmps67;go_wp2_with (first | (guard_target=qp 11;refine qfZ rfl 52 (.tmp 10) rfl E 136 rfl _ _ (HRQ.out w e h) underlying52 rfl P8.out ?_) | fail);refine C1.mono ?_;clear C1;rintro r w1 ⟨rfl,hb1⟩;have a1:=h.below hb1;rcases JY (e.seats.map qh.v) n with hs | ⟨k,hs,hk,hno⟩
 ·have hneg:¬ (0:Int)≤qG (e.seats.map qh.v) n:=by rw [hs];omega
  obtain ⟨hd,hhd,Bu⟩:=hp.hand;have iQ:e.hand=(hd:Int):=hhd;have hlen:e.seats.length≤3:=by have:=hp.len;simpa [qb.v] using this
  have hdk:n<e.disk.length:=by rw [h.shape.eight];exact h8
  obtain ⟨pg,XC⟩:∃ pg:qA,Hid (e.disk[n]=pg):=⟨e.disk[n],rfl⟩;have mV:Hid (e.v.disk.getD n (0,[])=(pg.lsn,pg.ss.map (·.v))):=by
   rw [Hid,← XC.out];simp [qb.v,List.getD,hdk]
  have h4:pg.ss.length=4:=by rw [← XC.out];exact h.shape.four _ (qdw hdk)
  have kJ:Hid (∀ u (e1:qb),wu u E e1→e1.disk=e.disk→u.rangeAt E (n*17) pg.cells):=fun u e1 hu hd1=>by
   have h1:=qb.VA hu.shape hu.box n (by rw [hd1];exact hdk);simp only [hd1,XC.out] at h1;exact h1
  have hfit:Fit pg.ss:=Hf (by
   have:=hp.fitD (e.v.disk.getD n (0,[])) (by
    simp only [List.getD,qb.v,qdy,qcG hdk,qfS,qe7];exact qgn (qdw hdk))
   rw [mV.out] at this;exact this)
  have Yc:Hid (∀ u,wu u E e→jS u pg.ss):=fun u hu s hs=>hu.own.disk.reads s (qag.2 ⟨e.disk[n],qdw hdk,by rw [XC.out];exact hs⟩)
  have HI:Hid ((prog.info? 48).map (·.size)=some pg.cells.length):=by rw [Hid,jJ pg h4];kernel_rfl
  have qml:Hid (qG (e.seats.map qh.v) n= -1):=hs;have ND:qa w1 w1.drew:=(qab _ _).drew;have Yx:(n:Int)<8:=by omega
  have hn0:(0:Int)≤(n:Int):=by omega
  rw [hs];clear hs XC hdk;go_upto_region 5 with fail;refine qaZ (S:=fun w'=>w'.rangeAt E (n*17) pg.cells∧True) (by kernel_rfl) ?_ (fun qc=>?_)
  ·exact ⟨kJ.out _ e (a1.below ND) rfl,trivial⟩
  iterate 9 refine jv ?_
  refine xB 9 pg.cells (fun _ h=>h.1) underlying48 HI.out ?_;refine qde (rs:=[10,14]) (by kernel_rfl) (by simp) ?_;refine qcE rfl (fun K hK=>?_) (qcE rfl (fun K hK=>?_) qc9)
  ·have aP:=a1.below ND;have pP:=aP.qae;rw [iQ] at pP;have C5:=pE 0 w1.drew.heap.size E 136 e.cells TE e.aS e.cS e.seats hd n pg w1.drew pP (qaw _) hlen Bu h4 (Yc.out _ aP) hfit;clear pP;go_simp;refine C5.mono ?_;clear C5;rintro r w5 ⟨ts,a',c',hand',old,went,rfl,hbv,br⟩;have s5:=br.step aP;have HOE:Hid (∀ j∈old.blocks,j≠E∧j<w1.heap.size):=fun j hj=>⟨fun e1=>h.off (qb.xU (by rw [← e1];exact br.wentB j hj)),a1.lt j (qb.xU (br.wentB j hj))⟩
   have oo5:=br.went;have q5:=kJ.out _ _ s5.at' rfl;have hs5:=s5.size;refine qX hK (⟨q5,trivial⟩) fun qc=>?_
   clear hK K;try simp only [zz]
   refine jg 11 ?_;refine jg 12 ?_;refine jg 13 ?_;obtain ⟨W6,KA,b6,hb6,hs6⟩:=qB w5 qi.cells 121;have Pk:Hid (w5.alloc (.cells #[.int .i64 0,.int .i64 0,.bool false,.int .i64 0,.slice none 0 0,.slice none 0 0,.bool false,.int .i64 0,.slice none 0 0,.slice none 0 0,.bool false,.int .i64 0,.slice none 0 0,.slice none 0 0,.bool false,.int .i64 0,.slice none 0 0,.slice none 0 0,.bool false,.bool false] 121)=W6):=KA.out;refine jc 14 (fun K hK=>?_);go_simp;rw [Pk.out];have s6:=s5.below hb6;have hoX:=s5.at'.new (qcN w5.heap.size);obtain ⟨W8,Dv,hw8,Oc,Uv,_,bo⟩:=yx old _ rfl b6;have S8:kC E e w (e.jk ts a' c' hand') W8:=ji.after (qf hb1 ND) (ji.put s6 hw8 hoX hs5);have oo8:old.own W8 0 w5.heap.size:=(oo5.below hb6).within hw8 (.inl qg);have Yd:Hid (W8.rangeAt w5.heap.size 0 old.cells):=qN bo;have FH:Hid (W6.setCells w5.heap.size 0 old.cells.toArray.toList=W8):=Dv.out;refine qX hK (⟨kJ.out _ _ s6.at' rfl,trivial⟩) fun qc=>?_
   clear hK K;try simp only [zz]
   refine jc 15 (fun K hK=>?_);rw [qan (by rfl)];refine qc7 121 (.tmp 6) (.tmp 37) rfl w5.heap.size 0 old.cells.toArray rfl rfl Uv.out (xD old) (yh old) ?_;rw [FH.out];refine qX hK (⟨kJ.out _ _ S8.at' rfl,trivial⟩) fun qc=>?_
   clear hK K;try simp only [Act.put,zA,zB,zC]
   refine jg 16 ?_;refine qau (by kernel_rfl) ?_ _;clear FH Dv hw8 Oc Uv s6 b6 hb6 hs6 KA Pk s5 q5 br aP oo5 ND;generalize w5.heap.size=X at*
   exact pV
  ·obtain ⟨V6,hV6,b6',qgM,hs6⟩:=qB w1 qi.cells 121;have qgN:Hid (w1.alloc (.cells #[.int .i64 0,.int .i64 0,.bool false,.int .i64 0,.slice none 0 0,.slice none 0 0,.bool false,.int .i64 0,.slice none 0 0,.slice none 0 0,.bool false,.int .i64 0,.slice none 0 0,.slice none 0 0,.bool false,.int .i64 0,.slice none 0 0,.slice none 0 0,.bool false,.bool false] 121)=V6):=hV6.out;obtain ⟨W6,KA⟩:=qV V6.drew;go_simp;rw [qgN.out,KA.out];have b6:Box W6 w1.heap.size qi.cells 121:=by rw [← KA.out];exact b6'.drewN 1
   have N6:qa w1 W6:=by rw [← KA.out];exact qgM.drew
   have aP:=a1.below N6;have qcb:=a1.new (qcN w1.heap.size);refine qX hK (⟨kJ.out _ _ aP rfl,trivial⟩) fun qc=>?_
   clear hK K hV6 qgN KA b6' qgM hs6;try simp only [zz]
   have pP:=aP.qae;rw [iQ] at pP;have C5:=pE 0 W6.heap.size E 136 e.cells TE e.aS e.cS e.seats hd n pg W6 pP (qaw _) hlen Bu h4 (Yc.out _ aP) hfit;clear pP;refine jc 10 (fun K hK=>?_);go_simp;refine C5.mono ?_;clear C5;rintro r w5 ⟨ts,a',c',hand',old,went,rfl,hbv,br⟩;have s5:=br.step aP;have HOE:Hid (∀ j∈old.blocks,j≠E∧j<w1.heap.size):=fun j hj=>⟨fun e1=>h.off (qb.xU (by rw [← e1];exact br.wentB j hj)),a1.lt j (qb.xU (br.wentB j hj))⟩
   have oo5:=br.went;have q5:=kJ.out _ _ s5.at' rfl;have hs5:=s5.size;have X0:=s5.boxes b6 qcb;have hoX:=s5.off b6.lt qcb;refine qX hK (⟨q5,trivial⟩) fun qc=>?_
   clear hK K;try simp only [zz]
   refine jg 11 ?_;refine jg 12 ?_;refine jg 13 ?_;obtain ⟨W8,Dv,hw8,Oc,Uv,_,bo⟩:=yx old _ rfl X0;have s51:kC E e w1 (e.jk ts a' c' hand') w5:=ji.after N6 s5;have S8:kC E e w (e.jk ts a' c' hand') W8:=ji.after hb1 (ji.put s51 hw8 hoX qg);have tX:Touch [w1.heap.size] w5 W8:=⟨hw8.os,hw8.tape,hw8.output,hw8.size,fun j hj hn=>hw8.block j hj (fun hh=>hn (by simp;omega))⟩;have oo8:old.own W8 0 w5.heap.size:=oo5.touch tX (fun j hj hk=>by have:=(HOE.out j hj).2;have:=qac.1 hk;omega);have Yd:Hid (W8.rangeAt w1.heap.size 0 old.cells):=qN bo;have FH:Hid (w5.setCells w1.heap.size 0 old.cells.toArray.toList=W8):=Dv.out;refine jc 15 (fun K hK=>?_);rw [qan (by rfl)];refine qc7 121 (.tmp 6) (.tmp 37) rfl w1.heap.size 0 old.cells.toArray rfl rfl Uv.out (xD old) (yh old) ?_;rw [FH.out];refine qX hK (⟨kJ.out _ _ S8.at' rfl,trivial⟩) fun qc=>?_
   clear hK K;try simp only [Act.put,zA,zB,zC]
   refine jg 16 ?_;refine qau (by kernel_rfl) ?_ _;clear FH Dv hw8 Oc Uv b6 X0 s5 s51 q5 br aP oo5 ND tX hoX qcb N6;generalize w1.heap.size=X at*
   exact pV
 ·have HF:Hid (ko e.v n=({ e.v with seats:=(e.seats.map qh.v).set k (Am (e.seats.getD k qi).v) },(k:Int))):=by
   have e1:e.v.seats=e.seats.map qh.v:=rfl;rw [Hid,ko,e1,hs,qan (by omega),qcU,kM]
  rw [qa4] at hk;obtain ⟨g,W,hg,Za,hW,hf,hr,st,tW,qD⟩:=a1.Pz k hk { (e.seats.getD k qi) with hot:=true } 19 (.bool true) (by omega) rfl rfl;have x0:w1.cell? ⟨E,136,none⟩=some (.slice (some ⟨g,0,none⟩) e.seats.length e.cS):=by rw [← hg];exact qb.xG a1.shape a1.box 0 _ rfl
  have x1:=hr 19 _ rfl;have f1:=hf (k*20+19);have hkk:(k:Int)<(e.seats.length:Int):=by omega
  have hk0:(0:Int)≤(k:Int):=by omega
  have HS:Hid (∃ (e':qb) (k':Int),Ending.returned (.int .i64 (k:Int))=.returned (.int .i64 k')∧Hid (ko e.v n=(e'.v,k'))∧Hid (e'.log.recs=e.log.recs)∧kC E e w e' W):=by
   refine ⟨_,k,rfl,?_,?_,ji.after hb1 st⟩;rotate_left
   ·rfl
   rw [Hid,HF.out];simp only [qb.v,qb.jk,qeW];rfl
  have hs':qG (e.seats.map qh.v) n=(k:Int):=hs;clear hs hg hr hf tW qD st HF;rw [hs'];clear hs' hno;go_wp2_with fail;rw [hW.out];go_ret;exact HS.out
end
section
attribute [local go_sem ↓] Go.wp_at_zero Go.wp_at_succ
def V3 (ls:List qM) (tx n:Int):List qM:=if 0≤jC ls tx then ls.set (jC ls tx).toNat { (ls.getD (jC ls tx).toNat qz) with last:=n } else ls
def KJ (e:qR) (r:xS):qR:={ e with log:=⟨e.log.recs++[{ r with lsn:=(e.log.recs.length:Int)+1 }],e.log.sure⟩,txs:=V3 e.txs r.tx ((e.log.recs.length:Int)+1) }
theorem pY (tx:Int) (ls:List qM) (k:Nat):xW tx ls k= -1∨∃ j,xW tx ls k=(k+j:Nat)∧j<ls.length:=by
 induction ls generalizing k with
 | nil=>exact .inl rfl
 | cons s r ih=>
  rw [xW];by_cases h:s.tx=tx
  ·rw [qan h];exact .inr ⟨0,rfl,by simp⟩
  ·rw [qa2 h];rcases ih (k+1) with h1 | ⟨j,h1,h2⟩
   ·exact .inl h1
   ·exact .inr ⟨j+1,by rw [h1];congr 1;omega,by simp;omega⟩
theorem KL (ls:List qM) (tx:Int):jC ls tx= -1∨∃ j:Nat,jC ls tx=j∧j<ls.length:=by
 rcases pY tx ls 0 with h | ⟨j,h1,h2⟩
 ·exact .inl h
 ·exact .inr ⟨j,by rw [jC,h1];simp,h2⟩
structure zt (E:Nat) (e:qb) (Q:List Nat) (w:World) (e':qb) (w':World):Prop where
 at':wu w' E e'
 touch:Touch (E::(e.blocks++Q)) w w'
 fresh:∀ k∈e'.blocks,k∈e.blocks∨k∈Q∨w.heap.size≤k
theorem zt.below {E:Nat} {Q:List Nat} {e e':qb} {w w' w'':World} (s:zt E e Q w e' w') (hb:Below w'.heap.size w' w''):zt E e Q w e' w'':=
 ⟨s.at'.below hb,s.touch.trans (Touch.of_below hb),s.fresh⟩
theorem zt.then {E:Nat} {Q:List Nat} {e e1 e2:qb} {w w1 w2:World} (m:zt E e Q w e1 w1) (s:kC E e1 w1 e2 w2):zt E e Q w e2 w2:=by
 refine ⟨s.at',⟨s.touch.os.trans m.touch.os,s.touch.tape.trans m.touch.tape,s.touch.output.trans m.touch.output,qcx m.touch.size s.size,fun k hk hn=>?_⟩,fun k hk=>?_⟩
 ·have hn1:k∉E::e1.blocks:=fun h=>by
   rcases qcv.1 h with h | h
   ·exact hn (by simp [h])
   ·rcases m.fresh k h with h | h | h
    ·exact hn (qcO _ (qaa.2 (.inl h)))
    ·exact hn (qcO _ (qaa.2 (.inr h)))
    ·omega
  exact (s.touch.block k (qe2 hk m.touch.size) hn1).trans (m.touch.block k hk hn)
 ·rcases s.fresh k hk with h | h
  ·exact m.fresh k h
  ·exact .inr (.inr (qcx m.touch.size h))
theorem zt.step {E:Nat} {Q:List Nat} {e0 e e':qb} {w0 w w':World} (s:kC E e0 w0 e w) (m:zt E e Q w e' w') (hQ:∀ k∈Q,w0.heap.size≤k):kC E e0 w0 e' w':=by
 refine ⟨m.at',⟨m.touch.os.trans s.touch.os,m.touch.tape.trans s.touch.tape,m.touch.output.trans s.touch.output,qcx s.size m.touch.size,fun k hk hn=>?_⟩,fun k hk=>?_⟩
 ·have hn1:k∉E::(e.blocks++Q):=fun h=>by
   rcases qcv.1 h with h | h
   ·exact hn (by simp [h])
   ·rcases qaa.1 h with h | h
    ·rcases s.fresh k h with h | h
     ·exact hn (qcO _ h)
     ·omega
    ·have:=hQ k h;omega
  exact (m.touch.block k (qe2 hk s.size) hn1).trans (s.touch.block k hk hn)
 ·rcases m.fresh k hk with h | h | h
  ·exact s.fresh k h
  ·exact .inr (hQ k h)
  ·exact .inr (qcx s.size h)
theorem zt.off {E B:Nat} {Q:List Nat} {e e':qb} {w w':World} (m:zt E e Q w e' w') (hB:B<w.heap.size) (ho:Off E e B) (hQ:B∉Q):Off E e' B:=
 ⟨ho.1,fun hk=>(m.fresh B hk).elim ho.2 (fun h=>h.elim hQ (fun h=>by omega))⟩
theorem zt.boxes {E B:Nat} {Q:List Nat} {e e':qb} {w w':World} {vs:List Value} {t:TypeId} (m:zt E e Q w e' w') (b:Box w B vs t) (ho:Off E e B) (hQ:B∉Q):Box w' B vs t:=
 b.block (m.touch.block B b.lt (fun h=>(qcv.1 h).elim ho.1 (fun h=>(qaa.1 h).elim ho.2 hQ)))
theorem Xt {A P P' C:List Nat} (h:(A++(P++C)).Nodup) (hP:P'.Nodup) (hA:∀ k∈P',k∉A) (hC:∀ k∈P',k∉C):(A++(P'++C)).Nodup:=by
 simp only [qav,qaa] at h ⊢;obtain ⟨h1,⟨_,h3,_⟩,h5⟩:=h;refine ⟨h1,⟨hP,h3,fun a ha b hb e=>hC a ha (e▸hb)⟩,fun a ha b hb e=>?_⟩;rcases hb with hb | hb
 ·exact hA b hb (e▸ha)
 ·exact h5 a ha b (.inr hb) e
theorem j3.qmm {w w':World} {E:Nat} {e:qb} (h:wu w E e) (l:qI) (Q:List Nat) (hd:∀ k∈Q,k∉e.blocks) (hEQ:E∉Q) (bx:Box w' E (e.jP l).cells TE) (ho:je w' 0 w'.heap.size l.a l.c l.recs)
  (ht:Touch (E::jw e.log.a e.log.c e.log.recs) w w') (hf:∀ k∈jw l.a l.c l.recs,k∈jw e.log.a e.log.c e.log.recs∨k∈Q∨w.heap.size≤k):zt E e Q w (e.jP l) w':=by
 have ap:=h.apart;have hE:∀ k∈e.blocks,k≠E:=fun k hk he=>h.off (he▸hk)
 refine ⟨⟨bx,⟨h.shape.eight,h.shape.four⟩,⟨?_,?_,ho,?_,?_,?_⟩,?_⟩,?_,?_⟩
 ·exact (h.own.disk.touch ht (fun k hk=>xL (hE k (qb.wZ hk)) (ap.dl k hk))).widen qg ht.size qg
 ·exact (h.own.pool.touch ht (fun k hk=>xL (hE k (qb.xU hk)) (fun hp=>ap.pl k hk hp))).widen qg ht.size qg
 ·exact (h.own.txs.touch ht (fun k hk=>xL (hE k (qb.zL (qad.2 hk))) (fun hp=>ap.lt k hp (qad.2 hk)))).widen qg ht.size qg
 ·exact (h.own.holds.touch ht (fun k hk=>xL (hE k (qb.wJ (qad.2 hk))) (fun hp=>ap.lh k hp (qad.2 hk)))).widen qg ht.size qg
 ·have h1:=h.own.apart;simp only [qb.blocks,qb.jP] at h1 ⊢;rw [← qcJ] at h1 ⊢;have key:∀ k∈jw l.a l.c l.recs,∀ X:List Nat,(∀ j∈X,j∈e.blocks)→(∀ j∈jw e.log.a e.log.c e.log.recs,j∉X)→k∉X:=fun k hk X hX hn hm=>by
   rcases hf k hk with h2 | h2 | h2
   ·exact hn k h2 hm
   ·exact hd k h2 (hX k hm)
   ·have:=h.lt k (hX k hm);omega
  refine Xt h1 ho.apart (fun k hk=>key k hk _ (fun j hj=>?_) (fun j hj hm=>?_)) (fun k hk=>key k hk _ (fun j hj=>?_) (fun j hj hm=>?_))
  ·rcases qaa.1 hj with hj | hj
   ·exact qb.wZ hj
   ·exact qb.xU hj
  ·rcases qaa.1 hm with hm | hm
   ·exact ap.dl j hm hj
   ·exact ap.pl j hm hj
  ·rcases qaa.1 hj with hj | hj
   ·exact qb.zL hj
   ·exact qb.wJ hj
  ·rcases qaa.1 hm with hm | hm
   ·exact ap.lt j hj hm
   ·exact ap.lh j hj hm
 ·intro hk;simp only [qb.blocks,qb.jP,qaa] at hk;have hlt:=h.box.lt;have hoff:=h.off;simp only [qb.blocks,qaa] at hoff;rcases hk with hk | hk | hk | hk
  ·exact hoff (.inl hk)
  ·exact hoff (.inr (.inl hk))
  ·rcases hf E hk with hk | hk | hk
   ·exact hoff (.inr (.inr (.inl hk)))
   ·exact hEQ hk
   ·omega
  ·exact hoff (.inr (.inr (.inr hk)))
 ·exact ht.mono (fun k hk=>(qcv.1 hk).elim (fun h=>by simp [h]) (fun h=>qcO _ (qaa.2 (.inl (qb.wY h)))))
 ·intro k hk;simp only [qb.blocks,qb.jP,qaa] at hk ⊢;rcases hk with hk | hk | hk | hk
  ·exact .inl (.inl hk)
  ·exact .inl (.inr (.inl hk))
  ·rcases hf k hk with h | h | h
   ·exact .inl (.inr (.inr (.inl h)))
   ·exact .inr (.inl h)
   ·exact .inr (.inr h)
  ·exact .inl (.inr (.inr (.inr hk)))
theorem mr (ls:List qM) (k:Nat) (hk:k<ls.length) (n:Int):(jT ls).set (k*3+1) (.int .i64 n)=jT (ls.set k { (ls.getD k qz) with last:=n }):=by
 induction ls generalizing k with
 | nil=>simp at hk
 | cons s r ih=>
  cases k with
  | zero=>simp [jT,qM.cells]
  | succ k=>
   have:=ih k (by simpa using hk);have e2:∀ x,jT (s::x)=s.cells++jT x:=fun x=>by simp [jT]
   have l3:s.cells.length=3:=rfl;rw [e2,qdh _ _ (by rw [l3];omega),l3,show (k+1)*3+1-3=k*3+1 by omega,this];simp [jT]
theorem j3.qei {w:World} {E:Nat} {e:qb} (h:wu w E e) (k:Nat) (hk:k<e.txs.length) (n:Int):
  ∃ g W,e.aT=some ⟨g,0,none⟩∧g≠E∧g<w.heap.size∧Hid (w.setCell ⟨g,k*3+1,none⟩ (.int .i64 n)=W)∧(∀ j,w.frozen? ⟨g,j,none⟩=false)∧(∃ v,w.cell? ⟨g,k*3+1,none⟩=some v)∧kC E e w (e.wG (e.txs.set k { (e.txs.getD k qz) with last:=n }) e.aT e.cT) W∧W.heap.size=w.heap.size:=by
 obtain ⟨g,hg⟩:∃ g,e.aT=some ⟨g,0,none⟩:=by
  rcases h.own.txs.1.2 with ⟨_,h0⟩ | ⟨g,cap',cur,hv,_⟩
  ·omega
  ·simp only [qcK] at hv;exact ⟨g,hv.1⟩
 have hmem:g∈rowOf e.aT e.txs.length e.cT:=by rw [hg];simp [rowOf,Value.ownBlock]
 have Za:g≠E:=fun e1=>h.off (by rw [← e1];exact qb.zL hmem)
 have ho:=h.own.txs;rw [hg] at ho;obtain ⟨h1,h2⟩:=ho.1.stored (k*3+1) (.int .i64 n);rw [mr _ _ hk] at h1;have ht:Touch [g] w (w.setCell ⟨g,k*3+1,none⟩ (.int .i64 n)):=Touch.jO h2 (fun j hj=>by cases hj;simp);have hsz:(w.setCell ⟨g,k*3+1,none⟩ (.int .i64 n)).heap.size=w.heap.size:=by simp
 have hc:w.cell? ⟨g,k*3+1,none⟩=some (.int .i64 (e.txs.getD k qz).last):=by
  rw [ho.1.cellAt (k*3+1) (by omega),uT e.txs k 1 hk (by omega)];rfl
 refine ⟨g,_,hg,Za,h.lt g (qb.zL hmem),rfl,fun j=>ho.1.frozenAt j,⟨_,hc⟩,?_,hsz⟩;refine h.lives _ _ _ ?_ ?_ (ht.mono (fun j hj=>qcO _ (by rw [qac.1 hj];exact hmem))) (fun j hj=>.inl ?_)
 ·have e1:(e.wG (e.txs.set k { (e.txs.getD k qz) with last:=n }) e.aT e.cT).cells=e.cells:=by
   simp only [qb.cells,qb.tail,qb.wG,qcP]
  rw [e1];exact h.box.touch ht (by simpa using fun e1=>Za e1.symm)
 ·rw [hg];refine ⟨?_,qcN _,fun j hj=>?_⟩
  ·rw [qcP];exact h1
  ·cases hj;rw [hsz];exact h.lt g (qb.zL hmem)
 ·rw [qcP] at hj;exact hj
theorem bz {P:Prop} (h:P:=by
 refine jc 8 (fun K hK=>?_);refine YX rfl (.tmp 19) (.tmp 21) rfl 0 W5.heap.size e.log.a e.log.c e.log.recs rfl a5.own.log W2.heap.size 0 1 p rfl r5 0 W5.heap.size (op5.widen qg (by omega) qg) qg (fun k hk hk'=>hd k (by rw [← HPB.out];exact hk) (qb.wY hk')) qg hlen (qaw _) ?_;intro a9 c9 w9 o9 g9 f9;obtain ⟨ys,hys⟩:=qV (e.log.recs++[p]);have Zt:Hid (∀ k∈jw a9 c9 (e.log.recs++[p]),k∈jw e.log.a e.log.c e.log.recs∨k∈q.blocks∨W5.heap.size≤k):=fun k hk=>by
  simp only [jw,qaa,qad,qcy,qaY,qdH,qcZ] at hk ⊢;rcases hk with hk | hk | hk
  ·rcases f9 k hk with h | h
   ·exact .inl (.inl h)
   ·exact .inr (.inr (by omega))
  ·exact .inl (.inr hk)
  ·exact .inr (.inl (by rw [← HPB.out];exact hk))
 rw [hys.out] at o9 Zt ⊢;have t9:Touch (jw e.log.a e.log.c e.log.recs) W5 w9:=Touch.jO g9 (fun k hk=>qaa.2 (.inl (qad.2 hk)));have ZP:∀ k∈jw e.log.a e.log.c e.log.recs,k<w.heap.size:=fun k hk=>h.lt k (qb.wY hk)
 have k9:=a5.box.touch t9 (fun hk=>h.off (qb.wY hk));have b9:=X8.touch t9 (fun hk=>by have:=ZP _ hk;omega);have r9:w9.rangeAt w.heap.size 0 p.cells:=qN b9;have Un:=t9.size;refine qX hK (⟨r9,trivial⟩) fun qc=>?_
 clear hK K g9 f9;try simp only [zz]
 refine jg 9 ?_;refine jg 10 ?_;refine jg 11 ?_;have m0:w9.cell? ⟨E,138,none⟩=some (.slice e.log.a e.log.recs.length e.log.c):=qb.xG h.shape k9 2 _ rfl;have Kl:=k9.frozen 138;obtain ⟨WF,qK,kF,hwF,q8⟩:=jZ k9 138 (.slice a9 ys.length c9);have Gb:=qcF q8;have ZU:=qcF q8.symm;clear q8;have tF:Touch [E] w9 WF:=⟨hwF.os,hwF.tape,hwF.output,hwF.size,fun j hj hn=>hwF.block j hj (fun hh=>hn (by simp;omega))⟩;have bF:=b9.touch tF (by simp;omega);have rF:WF.rangeAt w.heap.size 0 p.cells:=qN bF;have hEy:E∉jw a9 c9 ys:=fun hk=>(Zt.out E hk).elim (fun h1=>h.off (qb.wY h1)) (fun h1=>h1.elim hE (fun h2=>by omega))
 have oF:=(o9.touch tF (fun k hk hk'=>hEy (by rw [← qac.1 hk'];exact hk))).widen qg (show w9.heap.size≤WF.heap.size by omega) qg;have kF':Box WF E (e.jP ⟨ys,e.log.sure,a9,c9⟩).cells TE:=by
  have e1:e.cells.set 138 (.slice a9 ys.length c9)=(e.jP ⟨ys,e.log.sure,a9,c9⟩).cells:=qb.ZB h.shape 2 _;rw [← e1];exact kF
 have M:zt E e q.blocks w (e.jP ⟨ys,e.log.sure,a9,c9⟩) WF:=h.qmm ⟨ys,e.log.sure,a9,c9⟩ q.blocks hd hE kF' oF ((Touch.of_below (qf N2 gB)).trans ((t9.mono (fun k hk=>qcO _ hk)).trans (tF.mono (by simp)))) (fun k hk=>(Zt.out k hk).imp id (fun h1=>h1.imp id (fun h2=>by omega)));have HNW:Hid (Off E (e.jP ⟨ys,e.log.sure,a9,c9⟩) w.heap.size):=⟨by omega,fun hk=>by
  simp only [qb.blocks,qb.jP,qaa] at hk;rcases hk with hk | hk | hk | hk | hk
  ·have:=h.lt _ (qb.wZ hk);omega
  ·have:=h.lt _ (qb.xU hk);omega
  ·rcases Zt.out _ hk with h1 | h1 | h1
   ·have:=ZP _ h1;omega
   ·have:=(hq.qC _ h1).2;omega
   ·omega
  ·have:=h.lt _ (qb.zL hk);omega
  ·have:=h.lt _ (qb.wJ hk);omega⟩
 refine jc 12 (fun K hK=>?_);go_simp;rw [qK.out];refine qX hK (⟨rF,trivial⟩) fun qc=>?_
 clear hK K;try simp only [zz]
 refine qau (by kernel_rfl) ?_ _;have HYA:Hid (ys=e.log.recs++[{ q with lsn:=(e.log.recs.length:Int)+1 }]):=by rw [Hid,← hys.out,Bb.out]
 have O8:Hid (ys.map ql.v=e.log.recs.map ql.v++[{ q.v with lsn:=(e.log.recs.length:Int)+1 }]):=by rw [Hid,← hys.out,qdd,← ay.out];rfl
 clear m0 Kl qK qc kF kF' oF hwF tF t9 Zt o9 hEy hys k9 b9 r9 a5 op5 X8 r25 r5 gB;obtain ⟨e1,he1⟩:=qV (e.jP ⟨ys,e.log.sure,a9,c9⟩);rw [he1.out] at M;have HT1:Hid (e1.txs=e.txs):=by rw [Hid,← he1.out];rfl
 have HAT:Hid (e1.aT=e.aT∧e1.cT=e.cT∧e1.log.recs=e.log.recs++[{ q with lsn:=(e.log.recs.length:Int)+1 }]):=by rw [Hid,← he1.out];exact ⟨rfl,rfl,HYA.out⟩
 have qgP:=M.at'.shape;have ND6:qa WF WF.drew:=(qab _ _).drew;have a6:=M.at'.below ND6;have b6:=bF.below ND6 bF.lt;have HRE:Hid (WF.drew.rangeAt E 0 e1.cells∧WF.drew.rangeAt w.heap.size 0 p.cells):=⟨qN a6.box,qN b6⟩;have FI:Hid ((prog.info? 59).map (·.size)=some e1.cells.length):=by rw [Hid,qb.yc qgP];exact Tryz.gW
 go_upto_region 3 with fail;refine qaZ (S:=fun w'=>w'.rangeAt E 0 e1.cells∧w'.rangeAt w.heap.size 0 p.cells) (by kernel_rfl) ?_ (fun qc=>?_)
 ·exact HRE.out
 iterate 2 refine jv ?_
 refine xB 2 e1.cells (fun _ h=>h.1) underlying59 FI.out ?_;refine jg 3 ?_;refine tk 4 (v:=.int .i64 p.tx) rfl (Or.inl ⟨by rfl,?_⟩) qc ?_
 ·intro w' hSw;have hx:w'.cell? ⟨w.heap.size,1,none⟩=some (.int .i64 p.tx):=hSw.2 1 _ rfl;go_simp<;>rfl
 try simp only [zz]
 refine jc 5 (fun K hK=>?_);go_simp;refine (Yo e1 qgP p.tx WF.drew a6.own.txs.reads (by rw [HT1.out];exact hT)).mono ?_;rintro r w7 ⟨rfl,QH⟩;have N7:qa WF w7:=ND6.trans QH;have a7:=M.at'.below N7;have b7:=bF.below N7 bF.lt;have M7:=M.below N7;refine qX hK (⟨qN a7.box,qN b7⟩) fun qc=>?_
 clear hK K;try simp only [zz]
 refine jg 6 ?_;refine qau (by kernel_rfl) ?_ _;clear qc HRE FI a6 b6 ND6;have l7:=b7.cell 0 _ (show p.cells[0]? =some (.int .i64 p.lsn) from rfl);have Yb:Hid (KJ e.v q.v={ e.v with log:=⟨ys.map ql.v,e.log.sure⟩,txs:=V3 e.txs q.tx ((e.log.recs.length:Int)+1) }):=by
  rw [Hid,O8.out];simp [KJ,qb.v,qI.v,ql.v]
 have XJ:Hid (p.lsn=(e.log.recs.length:Int)+1∧p.tx=q.tx):=HPQ;rcases KL e1.txs p.tx with hneg | ⟨k,hk,hkl⟩
 ·have Nk:Hid (e1.v=KJ e.v q.v):=by
   rw [Hid,Yb.out,← he1.out,V3,← XJ.out.2,← HT1.out,hneg,qa2 (by omega),HT1.out];rfl
  rw [hneg];clear Yb hneg;go_wp2;go_ret;exact ⟨jN XJ.out.1,e1,Nk,HAT,M7⟩
 ·obtain ⟨g,Uo,hg,Za,hgw,dQ,hf,hc,st,qD⟩:=a7.qei k hkl p.lsn;have x0:w7.cell? ⟨E,140,none⟩=some (.slice (some ⟨g,0,none⟩) e1.txs.length e1.cT):=by rw [← hg];exact qb.xG a7.shape a7.box 4 _ rfl
  have Nk:Hid ((e1.wG (e1.txs.set k { (e1.txs.getD k qz) with last:=p.lsn }) e1.aT e1.cT).v=KJ e.v q.v):=by
   rw [Hid,Yb.out,← he1.out,V3,← XJ.out.2,← HT1.out,hk,qan (by omega),qcU,HT1.out,← XJ.out.1];rfl
  have ND8:qa w7 w7.drew:=(qab _ _).drew;rw [hk];clear hk Yb;have hkk:(k:Int)<(e1.txs.length:Int):=by omega
  have hk0:(0:Int)≤(k:Int):=by omega
  go_upto_region 5 with fail;clear x0 l7;have a8:=a7.below ND8;have b8:=b7.below ND8 b7.lt;have HS8:Hid (w7.drew.cell? ⟨E,140,none⟩=some (.slice (some ⟨g,0,none⟩) e1.txs.length e1.cT)∧w7.drew.rangeAt w.heap.size 0 p.cells):=⟨by rw [← hg];exact qb.xG a8.shape a8.box 4 _ rfl,qN b8⟩;have hoff:Off E e1 w.heap.size:=by rw [← he1.out];exact HNW.out
  have AR:qa Uo Uo.drew:=(qab _ _).drew;obtain ⟨W11,Py⟩:=qV Uo.drew;rw [Py.out] at AR;have b11:=(st.boxes b7 hoff).below AR (st.boxes b7 hoff).lt;have st2:=st.below AR;have M11:=M7.then st2;have qgQ:Hid (W11.cell? ⟨E,140,none⟩=some (.slice (some ⟨g,0,none⟩) e1.txs.length e1.cT)∧W11.rangeAt w.heap.size 0 p.cells):=⟨by
   have:=qb.xG st2.at'.shape st2.at'.box 4 _ rfl;simp only [qb.wG,qcP] at this;rw [← hg];exact this,qN b11⟩
  have f2:w7.drew.frozen? ⟨g,k*3+1,none⟩=false:=hf (k*3+1);obtain ⟨cv2,hc1⟩:=hc;have hc2:w7.drew.cell? ⟨g,k*3+1,none⟩=some cv2:=hc1;clear hf hg qD st st2 b8 a8 b7 a7 M7 N7 hc1 AR hoff;refine qaZ (S:=fun w'=>w'.cell? ⟨E,140,none⟩=some (.slice (some ⟨g,0,none⟩) e1.txs.length e1.cT)∧w'.rangeAt w.heap.size 0 p.cells) (by kernel_rfl) ?_ (fun qc=>?_)
  ·exact HS8.out
  iterate 6 refine jv ?_
  refine tk 6 (v:=.int .i64 p.lsn) rfl (Or.inl ⟨by rfl,?_⟩) qc ?_
  ·intro w' hSw;have hx:w'.cell? ⟨w.heap.size,0,none⟩=some (.int .i64 p.lsn):=hSw.2 0 _ rfl;go_simp<;>rfl
  try simp only [zz]
  iterate 2 refine jv ?_
  refine jc 9 (fun K hK=>?_);go_simp;rw [dQ.out,Py.out];refine qX hK qgQ.out fun qc=>?_
  clear hK K;try simp only [zz]
  refine qau (by kernel_rfl) ?_ _;have l11:=b11.cell 0 _ (show p.cells[0]? =some (.int .i64 p.lsn) from rfl);clear qc HS8 qgQ dQ Py hc2 f2;go_wp2;go_ret;exact ⟨jN XJ.out.1,_,Nk,HAT,M11⟩):P:=h
theorem qah (E:Nat) (e:qb) (q:ql) (w:World) (h:wu w E e) (hq:q.own w 0 w.heap.size) (hd:∀ k∈q.blocks,k∉e.blocks) (hE:E∉q.blocks) (hlen:e.log.recs.length+1≤68719476736) (hT:e.txs.length≤1099511627776):
  Calls prog 69 #[.pointer (some ⟨E,0,none⟩),.agg q.cells.toArray] w fun r w'=>r=.returned (.int .i64 ((e.log.recs.length:Int)+1))∧∃ e',Hid (e'.v=KJ e.v q.v)∧Hid (e'.aT=e.aT∧e'.cT=e.cT∧e'.log.recs=e.log.recs++[{ q with lsn:=(e.log.recs.length:Int)+1 }])∧zt E e q.blocks w e' w':=by
 obtain ⟨W,hW,b0,hbW,qD⟩:=qB w q.cells 124;obtain ⟨p,hp⟩:∃ p:ql,Hid ({ q with lsn:=(e.log.recs.length:Int)+1 }=p):=⟨_,rfl⟩;have Bb:Hid (p={ q with lsn:=(e.log.recs.length:Int)+1 }):=hp.out.symm;have HPB:Hid (p.blocks=q.blocks):=by rw [Hid,← hp.out];rfl
 have ay:Hid (p.v={ q.v with lsn:=(e.log.recs.length:Int)+1 }):=by rw [Hid,← hp.out];rfl
 have HPQ:Hid (p.lsn=(e.log.recs.length:Int)+1∧p.tx=q.tx):=by rw [Hid,← hp.out];exact ⟨rfl,rfl⟩
 have op:p.own w 0 w.heap.size:=by rw [← hp.out];exact ⟨hq.bf,hq.af,hq.txs,hq.apart⟩
 obtain ⟨W2,hW2,b2',hw2,hs2⟩:=jZ b0 0 (.int .i64 ((e.log.recs.length:Int)+1));have b2:Box W2 w.heap.size p.cells 124:=by rw [← hp.out];exact b2'
 have N2:qa w W2:=hbW.trans (hw2.below qg (by omega));have a1:=h.below hbW;have a2:=h.below N2;have op2:=op.below N2;have hlt2:w.heap.size<W2.heap.size:=b2.lt;have hEl:E<w.heap.size:=h.box.lt;have x0:W.cell? ⟨E,138,none⟩=some (.slice e.log.a e.log.recs.length e.log.c):=qb.xG a1.shape a1.box 2 _ rfl;have x1:=b0.cell 0 _ (show q.cells[0]? =some (.int .i64 q.lsn) from rfl);have xf:=b0.frozen 0;have HI:Hid ((prog.info? 124).map (·.size)=some p.cells.length):=uE p;clear qD hs2 hw2 b2' hp b0;go_enter func69,ntmps69;go_upto_region 1 with fail;rw [hW.out];clear hW;go_upto_region 2 with fail;rw [hW2.out];clear hW2 x0 x1 xf;have ND:qa W2 W2.drew:=(qab _ _).drew;have aD:=a2.below ND;have bD:=b2.below ND b2.lt;have y0:W2.drew.cell? ⟨E,138,none⟩=some (.slice e.log.a e.log.recs.length e.log.c):=qb.xG aD.shape aD.box 2 _ rfl;have r4:W2.drew.rangeAt w.heap.size 0 p.cells:=qN bD;refine qaZ (S:=fun w'=>w'.rangeAt w.heap.size 0 p.cells∧True) (by kernel_rfl) ?_ (fun qc=>?_)
 ·exact ⟨r4,trivial⟩
 iterate 5 refine jv ?_
 refine xB 6 p.cells (fun _ h=>h.1) underlying124 HI.out ?_;refine qde (rs:=[5,7]) (by kernel_rfl) (by simp) ?_;refine qcE rfl (fun K hK=>?_) (qcE rfl (fun K hK=>?_) qc9)
 ·go_simp;refine qX hK qc fun qc=>?_
  clear hK K;try simp only [zz]
  refine jc 7 (fun K hK=>?_);go_simp;simp only [ze,Yq,qeV,qfF,or_self,qf7];go_simp;obtain ⟨V5,WC,Zk,hb5,hs5⟩:=qB W2 p.cells 124;rw [WC.out];obtain ⟨W5,zS⟩:=qV V5.drew;rw [zS.out];have b5:Box W5 W2.heap.size p.cells 124:=by rw [← zS.out];exact Zk.drewN 1
  have gB:qa W2 W5:=by rw [← zS.out];exact hb5.drew
  have a5:=a2.below gB;have op5:=op2.below gB;have X8:=b2.below gB b2.lt;have r5:W5.rangeAt W2.heap.size 0 p.cells:=qN b5;have r25:W5.rangeAt w.heap.size 0 p.cells:=qN X8;have qgR:=gB.size;clear hs5 hb5 zS WC b5 Zk;refine qX hK (⟨r25,trivial⟩) fun qc=>?_
  clear hK K;try simp only [zz]
  clear y0 ND aD bD r4;exact bz
 ·go_simp;simp only [ze,Yq,qeV,qfF,or_self,qf7];go_simp;obtain ⟨V5,WC,Zk,hb5,hs5⟩:=qB W2 p.cells 124;rw [WC.out];obtain ⟨W5,zS⟩:=qV V5.drew;rw [zS.out];have b5:Box W5 W2.heap.size p.cells 124:=by rw [← zS.out];exact Zk.drewN 1
  have gB:qa W2 W5:=by rw [← zS.out];exact hb5.drew
  have a5:=a2.below gB;have op5:=op2.below gB;have X8:=b2.below gB b2.lt;have r5:W5.rangeAt W2.heap.size 0 p.cells:=qN b5;have r25:W5.rangeAt w.heap.size 0 p.cells:=qN X8;have qgR:=gB.size;clear hs5 hb5 zS WC b5 Zk;refine qX hK (⟨r25,trivial⟩) fun qc=>?_
  clear hK K;try simp only [zz]
  clear y0 ND aD bD r4;have y0:W5.cell? ⟨E,138,none⟩=some (.slice e.log.a e.log.recs.length e.log.c):=qb.xG a5.shape a5.box 2 _ rfl;refine jc 5 (fun K hK=>?_);go_simp;refine qX hK qc fun qc=>?_
  clear hK K;try simp only [zz]
  clear y0;exact bz
end
section
attribute [local go_sem ↓] Go.wp_at_zero Go.wp_at_succ
def qh.setSlot (s:qh) (j:Nat) (x:qj):qh:=match j with
 | 0=>{ s with s0:=x }
 | 1=>{ s with s1:=x }
 | 2=>{ s with s2:=x }
 | _=>{ s with s3:=x }
theorem Nl (s:qh) (j:Nat) (hj:j<4) (x:qj):(s.setSlot j x).ss=s.ss.set j x:=by
 match j,hj with
 | 0,_=>rfl
 | 1,_=>rfl
 | 2,_=>rfl
 | 3,_=>rfl
theorem rX (s:qh) (j:Nat) (hj:j<4) (x:qj):∃ pre old post,s.cells=pre++(old++post)∧(s.setSlot j x).cells=pre++(x.cells++post)∧pre.length=2+j*4∧old.length=4:=by
 match j,hj with
 | 0,_=>exact ⟨[.int .i64 s.no,.int .i64 s.lsn],s.s0.cells,s.s1.cells++(s.s2.cells++(s.s3.cells++[.bool s.dirty,.bool s.hot])),rfl,rfl,rfl,rfl⟩
 | 1,_=>exact ⟨.int .i64 s.no::.int .i64 s.lsn::s.s0.cells,s.s1.cells,s.s2.cells++(s.s3.cells++[.bool s.dirty,.bool s.hot]),rfl,rfl,rfl,rfl⟩
 | 2,_=>exact ⟨.int .i64 s.no::.int .i64 s.lsn::(s.s0.cells++s.s1.cells),s.s2.cells,s.s3.cells++[.bool s.dirty,.bool s.hot],rfl,rfl,rfl,rfl⟩
 | 3,_=>exact ⟨.int .i64 s.no::.int .i64 s.lsn::(s.s0.cells++(s.s1.cells++s.s2.cells)),s.s3.cells,[.bool s.dirty,.bool s.hot],rfl,rfl,rfl,rfl⟩
theorem Xu {s:qh} {j:Nat} (hj:j<4) {x:qj} {k:Nat} (h:k∈(s.setSlot j x).blocks):k∈s.blocks∨k∈x.blocks:=by
 unfold qh.blocks at h ⊢;rw [Nl s j hj] at h;obtain ⟨y,hy,hk⟩:=qag.1 h;rcases qcV hy with h1 | h1
 ·exact .inl (qag.2 ⟨y,h1,hk⟩)
 ·rw [h1] at hk;exact .inr hk
theorem SN {w:World} {lo hi:Nat} {s:qh} (h:s.own w lo hi) (j:Nat) (hj:j<4) {x:qj} (hx:x.own w lo hi) (hd:∀ k∈x.blocks,k∉s.blocks):(s.setSlot j x).own w lo hi:=by
 unfold qh.own;rw [Nl s j hj];have hlen:j<s.ss.length:=by show j<4;exact hj
 have e:s.ss.set j x=s.ss.take j++([x]++s.ss.drop (j+1)):=by rw [List.set_eq_take_append_cons_drop,qan hlen];rfl
 have e0:s.ss=s.ss.take j++([s.ss[j]]++s.ss.drop (j+1)):=by
  conv=>lhs;rw [← qdJ j s.ss,qcX hlen]
  rfl
 refine ⟨fun y hy=>?_,?_⟩
 ·rcases qcV hy with h1 | h1
  ·exact h.each y h1
  ·rw [h1];exact hx
 ·have ha:=h.apart;unfold qh.blocks at ha hd;rw [e];rw [e0] at ha hd;simp only [qcy] at ha hd ⊢;refine Xt ha (by simpa using qj.Q3 hx) (fun k hk hm=>hd k (by simpa using hk) (qaa.2 (.inl hm))) (fun k hk hm=>hd k (by simpa using hk) (qaa.2 (.inr (qaa.2 (.inr hm)))))
theorem OwnSts.PD {w:World} {lo hi g c:Nat} {A B:List qh} {z:qh} (h:OwnSts w lo hi (some ⟨g,0,none⟩) c (A++z::B)) (j:Nat) (hj:j<4) (x:qj) (hx:x.own w lo hi) (hd:∀ k∈x.blocks,k∉qF (some ⟨g,0,none⟩) c (A++z::B)):
  OwnSts (w.setCells g (A.length*20+(2+j*4)) x.cells) lo hi (some ⟨g,0,none⟩) c (A++z.setSlot j x::B)∧Touch [g] w (w.setCells g (A.length*20+(2+j*4)) x.cells)∧(w.setCells g (A.length*20+(2+j*4)) x.cells).heap.size=w.heap.size∧w.there g (A.length*20+(2+j*4)) 4:=by
 obtain ⟨pre,old,post,e1,e2,l1,l2⟩:=rX z j hj x;have hrow:=h.row;have hlen:(A++z.setSlot j x::B).length=(A++z::B).length:=by simp
 have c1:jH (A++z::B)=(jH A++pre)++(old++(post++jH B)):=by rw [yX,yf,e1];simp
 have c2:jH (A++z.setSlot j x::B)=(jH A++pre)++(x.cells++(post++jH B)):=by rw [yX,yf,e2];simp
 have hth:w.there g (A.length*20+(2+j*4)) 4:=fun i hi'=>by
  have hn:A.length*20+(2+j*4)+i<(A++z::B).length*20:=by simp;omega
  refine ⟨?_,hrow.frozenAt _⟩;rw [hrow.cellAt _ (by omega),qcG (by rw [uH];exact hn)];rfl
 rw [c1] at hrow;obtain ⟨h1,h2⟩:=KN x.cells (jH A++pre) old (post++jH B) w hrow (by rw [l2];rfl);have hpl:(jH A++pre).length=A.length*20+(2+j*4):=by rw [qai,uH,l1]
 rw [hpl] at h1 h2;have hsz:=JZ g x.cells (A.length*20+(2+j*4)) w;have ht:Touch [g] w (w.setCells g (A.length*20+(2+j*4)) x.cells):=Touch.jO h2 (fun k hk=>by cases hk;simp);have U8:∀ r∈A++z::B,g∉r.blocks:=fun r hr hk=>(qav.1 h.apart).2.2 g (by simp [Value.ownBlock]) g (qag.2 ⟨r,hr,hk⟩) rfl
 have hgx:g∉x.blocks:=fun hk=>hd g hk (by simp [qF,Value.ownBlock])
 have hz:(z.setSlot j x).own w lo hi:=SN (h.each z (by simp)) j hj hx (fun k hk hm=>hd k hk (qaa.2 (.inr (qag.2 ⟨z,by simp,hm⟩))));have tq:∀ r:qh,r.own w lo hi→g∉r.blocks→r.own (w.setCells g (A.length*20+(2+j*4)) x.cells) lo hi:=fun r hr hg=>hr.touch ht (fun k hk hk'=>hg (by rw [← qac.1 hk'];exact hk))
 refine ⟨⟨?_,?_,?_,fun r hr=>?_,?_⟩,ht,hsz,hth⟩
 ·rw [hlen,c2];exact h1
 ·rw [hsz];exact h.top
 ·rw [hlen];exact h.blk
 ·rcases qaa.1 hr with hr | hr
  ·exact tq r (h.each r (by simp [hr])) (U8 r (by simp [hr]))
  ·rcases qcv.1 hr with rfl | hr
   ·exact tq _ hz (fun hk=>(Xu hj hk).elim (U8 z (by simp)) hgx)
   ·exact tq r (h.each r (by simp [hr])) (U8 r (by simp [hr]))
 ·rw [hlen];have ha:=h.apart;simp only [qcy,qaY] at ha ⊢;rw [← qcJ] at ha ⊢;refine Xt ha hz.apart (fun k hk hm=>?_) (fun k hk hm=>?_)
  ·rcases Xu hj hk with h3 | h3
   ·exact (qav.1 ha).2.2 k hm k (qaa.2 (.inl h3)) rfl
   ·refine hd k h3 ?_;simp only [qF,qcy,qaY,qaa] at hm ⊢;rcases hm with hm | hm
    ·exact .inl hm
    ·exact .inr (.inl hm)
  ·rcases Xu hj hk with h3 | h3
   ·exact (qav.1 (qav.1 ha).2.1).2.2 k h3 k hm rfl
   ·refine hd k h3 ?_;simp only [qF,qcy,qaY,qaa];exact .inr (.inr (.inr hm))
theorem j3.PD {w:World} {E:Nat} {e:qb} (h:wu w E e) (k:Nat) (hk:k<e.seats.length) (j:Nat) (hj:j<4) (x:qj) (hx:x.own w 0 w.heap.size) (hd:∀ i∈x.blocks,i∉e.blocks) (hEx:E∉x.blocks):
  ∃ g W,e.aS=some ⟨g,0,none⟩∧g≠E∧g<w.heap.size∧Hid (w.setCells g (k*20+(2+j*4)) x.cells=W)∧w.there g (k*20+(2+j*4)) 4∧zt E e x.blocks w (e.jk (e.seats.set k ((e.seats.getD k qi).setSlot j x)) e.aS e.cS e.hand) W∧Touch [g] w W∧W.heap.size=w.heap.size:=by
 obtain ⟨g,hg⟩:∃ g,e.aS=some ⟨g,0,none⟩:=by
  rcases h.own.pool.row.2 with ⟨_,h0⟩ | ⟨g,cap',cur,hv,_⟩
  ·omega
  ·simp only [qcK] at hv;exact ⟨g,hv.1⟩
 have hmem:g∈qF e.aS e.cS e.seats:=by rw [hg];simp [qF,Value.ownBlock]
 have Za:g≠E:=fun e1=>h.off (by rw [← e1];exact qb.xU hmem)
 have ho:=h.own.pool;rw [hg,zu e.seats k hk] at ho;obtain ⟨o2,t2,hsz,hth⟩:=ho.PD j hj x hx (fun i hi hm=>hd i hi (qb.xU (by rw [hg,zu e.seats k hk];exact hm)));have hkl:(e.seats.take k).length=k:=by rw [qdm];omega
 rw [hkl,← Qa e.seats k _ hk] at o2;rw [hkl] at t2 hsz hth;have ap:=h.apart;have hE:∀ i∈e.blocks,i≠E:=fun i hi he=>h.off (he▸hi)
 have hf:∀ i∈qF (some ⟨g,0,none⟩) e.cS (e.seats.set k ((e.seats.getD k qi).setSlot j x)),i∈qF e.aS e.cS e.seats∨i∈x.blocks:=fun i hi=>by
  simp only [qF,qaa,qad,qcP] at hi;rcases hi with hi | hi
  ·exact .inl (by rw [hg];exact qaa.2 (.inl (qad.2 hi)))
  ·obtain ⟨r,hr,hi⟩:=qag.1 hi;rcases qcV hr with h1 | h1
   ·exact .inl (qaa.2 (.inr (qag.2 ⟨r,h1,hi⟩)))
   ·rw [h1] at hi;rcases Xu hj hi with h2 | h2
    ·exact .inl (qaa.2 (.inr (qag.2 ⟨_,xE e.seats k hk,h2⟩)))
    ·exact .inr h2
 have nt:∀ i∈e.blocks,i∉qF e.aS e.cS e.seats→i∉[g]:=fun i _ hn hm=>hn (by rw [qac.1 hm];exact hmem)
 refine ⟨g,_,hg,Za,h.lt g (qb.xU hmem),rfl,hth,⟨⟨?_,⟨h.shape.eight,h.shape.four⟩,⟨?_,?_,?_,?_,?_,?_⟩,?_⟩,?_,?_⟩,t2,hsz⟩
 ·have e1:(e.jk (e.seats.set k ((e.seats.getD k qi).setSlot j x)) e.aS e.cS e.hand).cells=e.cells:=by
   simp only [qb.cells,qb.tail,qb.jk,qcP]
  rw [e1];exact h.box.touch t2 (by simpa using fun e1=>Za e1.symm)
 ·exact (h.own.disk.touch t2 (fun i hi=>nt i (qb.wZ hi) (ap.dp i hi))).widen qg t2.size qg
 ·show OwnSts _ 0 _ e.aS e.cS _;rw [hg];exact o2.widen qg (qcF hsz.symm) qg
 ·exact (h.own.log.touch t2 (fun i hi=>nt i (qb.wY hi) (fun hp=>ap.pl i hp hi))).widen qg t2.size qg
 ·exact (h.own.txs.touch t2 (fun i hi=>nt i (qb.zL (qad.2 hi)) (fun hp=>ap.pt i hp (qad.2 hi)))).widen qg t2.size qg
 ·exact (h.own.holds.touch t2 (fun i hi=>nt i (qb.wJ (qad.2 hi)) (fun hp=>ap.ph i hp (qad.2 hi)))).widen qg t2.size qg
 ·have ha:=h.own.apart;simp only [qb.blocks,qb.jk] at ha ⊢;refine Xt ha (by rw [hg];exact o2.apart) (fun i hi hm=>?_) (fun i hi hm=>?_)
  ·rw [hg] at hi;rcases hf i hi with h1 | h1
   ·exact ap.dp i hm h1
   ·exact hd i h1 (qb.wZ hm)
  ·rw [hg] at hi;rcases hf i hi with h1 | h1
   ·simp only [qaa] at hm;rcases hm with hm | hm | hm
    ·exact ap.pl i h1 hm
    ·exact ap.pt i h1 hm
    ·exact ap.ph i h1 hm
   ·exact hd i h1 (by simp only [qb.blocks,qaa] at hm ⊢;exact .inr (.inr hm))
 ·intro hk';simp only [qb.blocks,qb.jk,qaa] at hk';have hoff:=h.off;simp only [qb.blocks,qaa] at hoff;rcases hk' with hk' | hk' | hk'
  ·exact hoff (.inl hk')
  ·rw [hg] at hk';rcases hf E hk' with h1 | h1
   ·exact hoff (.inr (.inl h1))
   ·exact hEx h1
  ·exact hoff (.inr (.inr hk'))
 ·exact t2.mono (fun i hi=>qcO _ (qaa.2 (.inl (qb.xU (by rw [qac.1 hi];exact hmem)))))
 ·intro i hi;simp only [qb.blocks,qb.jk,qaa] at hi ⊢;rcases hi with hi | hi | hi
  ·exact .inl (.inl hi)
  ·rw [hg] at hi;rcases hf i hi with h1 | h1
   ·exact .inl (.inr (.inl h1))
   ·exact .inr (.inl h1)
  ·exact .inl (.inr (.inr hi))
end
section
attribute [local go_sem ↓] Go.wp_at_zero Go.wp_at_succ
def Gr (s:q9) (j:Nat) (x:qO) (lsn:Int):q9:={ s with ss:=s.ss.set j x,lsn:=lsn,dirty:=true }
def Jj (e:qR) (oid:Nat) (x:qO) (lsn:Int):qR:=
 let f:=ko e (oid / 4)
 { f.1 with seats:=f.1.seats.set f.2.toNat (Gr (f.1.seats.getD f.2.toNat qy) (oid % 4) x lsn) }
theorem bH (x:qj):x.cells.toArray.all (·.oneCell')=true:=qaf (fun v hv=>by
 simp only [qj.cells,qcv,qdu,qfL] at hv;rcases hv with rfl | rfl | rfl | rfl<;>rfl)
theorem AU (ls:List qh) (k:Nat) (s:qh) (hk:k<ls.length):(ls.set k s).getD k qi=s:=by simp [List.getD,hk]
theorem qej (ls:List qh) (k j:Nat) (x:qj) (lsn:Int) (hk:k<ls.length) (hj:j<4):
  (((ls.set k ((ls.getD k qi).setSlot j x)).set k { ((ls.set k ((ls.getD k qi).setSlot j x)).getD k qi) with lsn:=lsn }).set k { (((ls.set k ((ls.getD k qi).setSlot j x)).set k { ((ls.set k ((ls.getD k qi).setSlot j x)).getD k qi) with lsn:=lsn }).getD k qi) with dirty:=true }).map qh.v=(ls.map qh.v).set k (Gr ((ls.map qh.v).getD k qy) j x.v lsn):=by
 simp only [List.set_set,AU _ _ _ hk,qeW,kM];congr 1
 match j,hj with
 | 0,_=>rfl
 | 1,_=>rfl
 | 2,_=>rfl
 | 3,_=>rfl
theorem SQ (E:Nat) (e:qb) (o:Nat) (s:qj) (lsn:Int) (w:World) (h:wu w E e) (hp:e.v.zZ) (h32:o<32) (hr:∀ u e',wu u E e'→e'.log.recs=e.log.recs→Touch (E::e.blocks) w u→s.reads u) (hl:Fit [s])
  (Aq:∃ k:Nat,(ko e.v (o / 4)).2=k∧k<(ko e.v (o / 4)).1.seats.length):
  Calls prog 70 #[.pointer (some ⟨E,0,none⟩),.int .i64 o,.agg s.cells.toArray,.int .i64 lsn] w fun r w'=>(∃ v,r=.returned v)∧∃ e',Hid (e'.v=Jj e.v o s.v lsn)∧Hid (e'.log.recs=e.log.recs)∧kC E e w e' w':=by
 obtain ⟨W,hW,b0,hbW,qD⟩:=qB w s.cells 45;have a1:=h.below hbW;have hoff:Off E e w.heap.size:=h.new qg;have C:=pX E e (o / 4) W a1 hp (by omega);go_enter func70,ntmps70;go_upto_region 1 with fail;rw [hW.out];clear hW;have C':Calls prog 67 #[.pointer (some ⟨E,0,none⟩),.int .i64 ((o:Int) / 4)] W fun r w'=>∃ (e':qb) (k:Int),r=.returned (.int .i64 k)∧Hid (ko e.v (o / 4)=(e'.v,k))∧Hid (e'.log.recs=e.log.recs)∧kC E e W e' w':=by
  rw [show (o:Int) / 4=((o / 4:Nat):Int) from by omega];exact C
 clear C;go_wp2_with fail;refine C'.mono ?_;clear C';rintro r w2 ⟨e1,k0,rfl,hf,hl1,s1⟩;obtain ⟨k,hk0,hkl⟩:=Aq;rw [hf.out] at hk0 hkl;simp only at hk0 hkl;subst hk0;have hk:k<e1.seats.length:=by simpa [qb.v] using hkl
 clear hkl;have hoW:Off E e w.heap.size:=hoff;have b2:=s1.boxes b0 hoff;have S1:kC E e w e1 w2:=ji.after hbW s1;have r2:s.reads w2:=hr w2 e1 s1.at' hl1.out S1.touch;have gY:=s1.off b0.lt hoff;have hlt2:w.heap.size<w2.heap.size:=b2.lt;have hs1:=S1.size;have ND:qa w2 w2.drew:=(qab _ _).drew;have a2:=s1.at'.below ND;have b2':=b2.below ND b2.lt;obtain ⟨g,hg⟩:∃ g,e1.aS=some ⟨g,0,none⟩:=by
  rcases s1.at'.own.pool.row.2 with ⟨_,h0⟩ | ⟨g,cap',cur,hv,_⟩
  ·omega
  ·simp only [qcK] at hv;exact ⟨g,hv.1⟩
 have kJ:Hid (∀ u (e':qb),wu u E e'→e'.aS=e1.aS→e'.seats.length=e1.seats.length→e'.cS=e1.cS→Box u w.heap.size s.cells 45→u.cell? ⟨E,136,none⟩=some (.slice (some ⟨g,0,none⟩) e1.seats.length e1.cS)∧u.rangeAt w.heap.size 0 s.cells):=fun u e' hu h1 h2 h3 hb=>⟨by
  have:=qb.xG hu.shape hu.box 0 _ rfl;rw [h1,h2,h3,hg] at this;exact this,qN hb⟩
 have HI:Hid ((prog.info? 45).map (·.size)=some s.cells.length):=by rw [Hid];kernel_rfl
 have hfI:=hl s (by simp);have C:=uB s w2.drew (r2.below ND) hfI.1 hfI.2;have Zh:Hid (ko e.v (o / 4)=(e1.v,(k:Int))):=hf.out;clear hf a1 s1 r2 hr qD hbW;have hkk:(k:Int)<(e1.seats.length:Int):=by omega
 have hk0:(0:Int)≤(k:Int):=by omega
 have ak:((o % 4:Nat):Int)<4:=by omega
 have ho0:(0:Int)≤((o % 4:Nat):Int):=by omega
 go_upto_region 2 with fail;refine qaZ (S:=fun w'=>w'.cell? ⟨E,136,none⟩=some (.slice (some ⟨g,0,none⟩) e1.seats.length e1.cS)∧w'.rangeAt w.heap.size 0 s.cells) (by kernel_rfl) ?_ (fun qc=>?_)
 ·exact kJ.out _ _ a2 rfl rfl rfl b2'
 iterate 7 refine jv ?_
 refine yt 7 (.int .i64 ((o % 4:Nat):Int)) ?_;refine Bo 8 rfl (qfK (by rfl) _ _ rfl _ _ rfl s.cells _ (fun _ h=>h.2) underlying45 rfl HI.out) ?_;refine yt 10 (.pointer (some ⟨g,k*20,none⟩)) ?_;refine yt 11 (.pointer (some ⟨g,k*20+1,none⟩)) ?_;refine yt 12 (.pointer (some ⟨g,k*20+1+1,none⟩)) ?_;refine qde (rs:=[9]) (by kernel_rfl) (by simp) ?_;refine qcE rfl (fun K hK=>?_) qc9;go_simp;refine C.mono ?_;clear C;rintro r w4 ⟨x,rfl,hxv,ox,hb4⟩;have N4:qa w2 w4:=ND.trans hb4;have a4:=S1.at'.below N4;have b4:=b2.below N4 b2.lt;have hs4:=N4.size;refine qX hK (kJ.out _ _ a4 rfl rfl rfl b4) fun qc=>?_
 clear hK K;try simp only [zz]
 obtain ⟨j,hj⟩:∃ j:Nat,Hid (o % 4=j):=⟨_,rfl⟩;have WJ:j<4:=by rw [← hj.out];omega
 have ox4:x.own w4 0 w4.heap.size:=ox.widen (qaw _) qg qg;have hxb:∀ i∈x.blocks,w2.heap.size≤i:=fun i hi=>(qj.qC ox i hi).1
 obtain ⟨g2,W5,hg2,Za,hgw,zS,hth,M5,t5,hs5⟩:=a4.PD k hk j WJ x ox4 (fun i hi hm=>by have:=hxb i hi;have:=S1.at'.lt i hm;omega) (fun hi=>by have:=hxb E hi;have:=S1.at'.box.lt;omega);obtain rfl:g2=g:=by rw [hg] at hg2;cases hg2;rfl
 have b5:=b4.touch t5 (by simp;exact fun e=>gY.2 (qb.xU (by rw [hg,e];simp [qF,Value.ownBlock])));have S5:kC E e w (e1.jk (e1.seats.set k ((e1.seats.getD k qi).setSlot j x)) e1.aS e1.cS e1.hand) W5:=zt.step (S1.below N4) M5 (fun i hi=>by have:=hxb i hi;omega);have V8:Hid (w4.setCells g2 (k*20+1+1+j*4) x.cells.toArray.toList=W5):=by rw [Hid,← zS.out];congr 1;omega
 have Av:Hid (w4.there g2 (k*20+1+1+j*4) x.cells.toArray.size):=by rw [show k*20+1+1+j*4=k*20+(2+j*4) by omega];exact hth
 have Tw:Hid ((prog.info? 45).map (·.size)=some x.cells.toArray.size):=by rw [Hid];kernel_rfl
 have ek:Hid (_∧_):=kJ.out _ _ S5.at' rfl (by simp [qb.jk]) rfl b5;have ej:(o:Int) % 4=(j:Int):=by have:=hj.out;omega
 rw [ej];clear ej ak ho0;have qmn:(j:Int)<4:=by omega
 have hj0:(0:Int)≤(j:Int):=by omega
 refine jg 13 ?_;refine jc 14 (fun K hK=>?_);rw [qan (by rfl)];refine qc7 45 (.tmp 26) (.tmp 22) rfl g2 (k*20+1+1+j*4) x.cells.toArray rfl rfl Av.out Tw.out (bH x) ?_;rw [V8.out];refine qX hK ek.out fun qc=>?_
 clear hK K;try simp only [Act.put,zA,zB,zC]
 refine qau (by kernel_rfl) ?_ _;clear qc V8 Av Tw ek zS hth t5 hs5 M5;obtain ⟨e5,bJ⟩:=qV (e1.jk (e1.seats.set k ((e1.seats.getD k qi).setSlot j x)) e1.aS e1.cS e1.hand);rw [bJ.out] at S5;have hk5:k<e5.seats.length:=by rw [← bJ.out];simpa [qb.jk] using hk
 have hl5:e5.seats.length=e1.seats.length:=by rw [← bJ.out];simp [qb.jk]
 have hc5:e5.cS=e1.cS:=by rw [← bJ.out];rfl
 have ha5:e5.aS=some ⟨g2,0,none⟩:=by rw [← bJ.out];exact hg
 obtain ⟨g3,W6,hg3,qlA,KA,hf6,hr6,eu,_,hs6⟩:=S5.at'.Pz k hk5 { (e5.seats.getD k qi) with lsn:=lsn } 1 (.int .i64 lsn) (by omega) rfl rfl;obtain rfl:g3=g2:=by rw [ha5] at hg3;cases hg3;rfl
 obtain ⟨e6,FJ⟩:∃ e6,Hid (e5.jk (e5.seats.set k { (e5.seats.getD k qi) with lsn:=lsn }) e5.aS e5.cS e5.hand=e6):=⟨_,rfl⟩;rw [FJ.out] at eu;have S6:=S5.trans eu;have Q6:k<e6.seats.length:=by rw [← FJ.out];simpa [qb.jk] using hk5
 have ha6:e6.aS=some ⟨g3,0,none⟩:=by rw [← FJ.out];exact ha5
 obtain ⟨g4,W7,hg4,qp0,J9,hf7,Lr,st7,_,hs7⟩:=S6.at'.Pz k Q6 { (e6.seats.getD k qi) with dirty:=true } 18 (.bool true) (by omega) rfl rfl;obtain rfl:g4=g3:=by rw [ha6] at hg4;cases hg4;rfl
 have S7:=S6.trans st7;have x5:W5.cell? ⟨E,136,none⟩=some (.slice (some ⟨g4,0,none⟩) e1.seats.length e1.cS):=by
  have:=qb.xG S5.at'.shape S5.at'.box 0 _ rfl;rw [ha5,hl5,hc5] at this;exact this
 have x6:W6.cell? ⟨E,136,none⟩=some (.slice (some ⟨g4,0,none⟩) e1.seats.length e1.cS):=by
  have:=qb.xG S6.at'.shape S6.at'.box 0 _ rfl;rw [ha6,← FJ.out] at this;simp only [qb.jk,qcP,hl5,hc5] at this;exact this
 have y5:=hr6 1 _ rfl;have y6:=Lr 18 _ rfl;have f5:=hf6 (k*20+1);have f6:=hf7 (k*20+18);have jr:Hid (∃ e',Hid (e'.v=Jj e.v o s.v lsn)∧Hid (e'.log.recs=e.log.recs)∧kC E e w e' W7):=by
  refine ⟨_,?_,?_,S7⟩
  ·rw [Hid,← FJ.out,← bJ.out,Jj,Zh.out,hj.out];have ha:=qej e1.seats k j x lsn hk WJ;rw [hxv.out] at ha;simp only [qb.v,qb.jk,ha,qcU]
  ·rw [Hid,← hl1.out,← FJ.out,← bJ.out];rfl
 clear hf6 hr6 hf7 Lr eu st7 S5 S6 S7 bJ FJ hl5 hc5 ha5 ha6 hg3 hg4 hs6 hs7 hg hg2;go_upto_region 4 with fail;rw [KA.out];clear KA x5 y5 f5;go_wp2_with fail;rw [J9.out];go_end0;exact ⟨⟨_,rfl⟩,jr.out⟩
end
theorem qaj (w:World):OwnL (w.alloc (.cells #[] 115)) w.heap.size (w.heap.size+1) (some ⟨w.heap.size,0,none⟩) 0 []:=
 ⟨World.ownsRow_lit w #[] 0 qg (by simp [maxLen]) rfl,by simp,fun k hk=>by cases hk;simp⟩
theorem qak (w:World):OwnH (w.alloc (.cells #[] 117)) w.heap.size (w.heap.size+1) (some ⟨w.heap.size,0,none⟩) 0 []:=
 ⟨World.ownsRow_lit w #[] 0 qg (by simp [maxLen]) rfl,by simp,fun k hk=>by cases hk;simp⟩
theorem tu {w u v:World} {n:Nat} {row:Option Nat} (hb:Below n w u) (hg:u.grownBy v row) (hr:∀ k,row=some k→n≤k) (hn:n≤u.heap.size):Below n w v:=
 ⟨hg.os.trans hb.os,hg.tape.trans hb.tape,hg.output.trans hb.output,qcx hb.size hg.size,fun k hk=>(hg.block k (by omega) (fun e=>by have:=hr k e.symm;omega)).trans (hb.block k hk)⟩
theorem AV {e:qb} {x:qR} (h:e.v=x):e.log.recs.length=x.log.recs.length:=by rw [← h];simp [qb.v,qI.v]
theorem Ar {e:qb} {x:qR} (h:e.v=x):e.txs=x.txs:=by rw [← h];rfl
theorem Pw {e:qb} {x:qR} (h:e.v=x):e.holds=x.holds:=by rw [← h];rfl
theorem bK (ls:List qM) (tx n:Int):(V3 ls tx n).length=ls.length:=by unfold V3;split<;>simp
def redoOk (n:Int) (vs:List qO) (r:xS):Bool:=xZ n vs && (xx r && ((r.kind == 1 || r.kind == 4) && decide (n<r.lsn)))
def zP (n:Int) (vs:List qO) (r:xS):Int × List qO:=if redoOk n vs r then (r.lsn,vs.set (r.oid % 4).toNat r.af) else (n,vs)
theorem bL {n:Int} {vs:List qO} {r:xS} (h:redoOk n vs r=false):zP n vs r=(n,vs):=by unfold zP;rw [qa2 (by rw [h];decide)]
theorem Ap {n:Int} {vs:List qO} {r:xS} (h:redoOk n vs r=true):zP n vs r=(r.lsn,vs.set (r.oid % 4).toNat r.af):=by unfold zP;rw [qan h]
theorem qek {r:xS} (h:xx r=true):∃ k:Nat,k<4∧r.oid % 4=(k:Int)∧r.oid.tmod 4=(k:Int)∧(r.oid % 4).toNat=k:=by
 have d:=(Ii h).oid;refine ⟨(r.oid % 4).toNat,by omega,by omega,?_,rfl⟩;rw [Int.tmod_eq_emod_of_nonneg d.1];omega
theorem qcc {n:Int} {vs:List qO} {r:xS} (h1:xx r=true) (h2:(r.kind == 1 || r.kind == 4)=true) (h3:n<r.lsn):zo n vs (r.oid % 4) r.af r.lsn=redoOk n vs r∧setOf n vs (r.oid % 4) r.af r.lsn=zP n vs r:=by
 have d:=Ii h1;have e:zo n vs (r.oid % 4) r.af r.lsn=redoOk n vs r:=by
  have e1:inB (r.oid % 4) 0 3=true:=by simp [inB];omega
  have e2:inB r.lsn n 1000000=true:=by have:=d.lsn;simp [inB];omega
  simp [zo,redoOk,h1,h2,h3,e1,e2,d.af]
 exact ⟨e,by unfold setOf zP;rw [e]⟩
theorem qgT {n:Int} {vs:List qO} {r:xS} (h:xx r=false):redoOk n vs r=false:=by simp [redoOk,h]
theorem qgU {n:Int} {vs:List qO} {r:xS} (h:(r.kind == 1)=false) (h':(r.kind == 4)=false):redoOk n vs r=false:=by simp [redoOk,h,h']
theorem qgV {n:Int} {vs:List qO} {r:xS} (h:r.lsn≤n):redoOk n vs r=false:=by simp [redoOk];omega
theorem Kg (q:qA) (h:q.ss.length=4):(prog.info? 48).map (·.size)=some q.cells.length:=by rw [jJ q h];kernel_rfl
theorem V9 {w:World} {B:Nat} {T:TypeId} (q:qA) (b:Box w B q.cells T):w.rangeAt B 0 q.cells:=qN b
theorem FK {w:World} {B:Nat} {T:TypeId} (r:ql) (b:Box w B r.cells T):w.rangeAt B 0 r.cells:=qN b
theorem bO {w:World} {C:Nat} (q:qA) (hq:q.ss.length=4) (bC:Box w C QL 48):
  ∃ WF,Hid (w.setCells C 0 q.cells=WF)∧Within C (C+1) w WF∧WF.heap.size=w.heap.size∧Hid (w.there C 0 q.cells.toArray.size)∧Hid ((loadVar 48 ⟨C,0,none⟩).run prog WF=.ok (.agg q.cells.toArray) WF)∧Box WF C q.cells 48:=
 page_out q hq QL rfl bC underlying48 rfl (by kernel_rfl)
def gZ (w w':World) (n:Int) (vs:List qO) (r:xS) (e:Ending):Prop:=∃ ts:List qj,e=.returned (.tuple #[.agg (qA.cells ⟨(zP n vs r).1,ts⟩).toArray,.bool (redoOk n vs r)])∧Hid (ts.map (·.v)=(zP n vs r).2)∧qP w' w.heap.size w'.heap.size ts∧qa w w'
theorem AX {w w':World} {n:Int} {vs:List qO} {r:xS} {ts:List qj} (h:redoOk n vs r=false) (hv:ts.map (·.v)=vs) (ho:qP w' w.heap.size w'.heap.size ts) (hb:qa w w'):gZ w w' n vs r (.returned (.tuple #[.agg (qA.cells ⟨n,ts⟩).toArray,.bool false])):=
 ⟨ts,by rw [bL h,h],by rw [Hid,bL h];exact hv,ho,hb⟩
theorem df {P:Program} {fn:Func} {s t u:Nat} {ty:TypeId} {tmps:Array Value} {w:World} {v a b:Value} {ad:Addr} (hf:fn.results=#[.tmp s,.cell t ty,.tmp u]) (ha:tmps[s]?.getD undef=a) (ht:tmps[t]?.getD undef=.pointer (some ad)) (hl:(loadVar ty ad).run P w=.ok v w) (hb:tmps[u]?.getD undef=b):(results fn tmps).run P w=.ok (.tuple #[a,v,b]) w:=by
 unfold results;rw [hf];simp [ht,asAddr,hl,hb,ha]
theorem qal {w:World} {B:Nat} {T:TypeId} {q:qj} (b:Box w B q.cells T):w.rangeAt B 0 q.cells:=qN b
theorem ZC:(prog.info? 45).map (·.size)=some 4:=by kernel_rfl
theorem FL (t:qj):t.cells.toArray.all (·.oneCell')=true:=qaf (by intro v hv;simp only [qj.cells,qcv,qdu,qfL] at hv;rcases hv with rfl | rfl | rfl | rfl<;>rfl)
theorem FM {w:World} {C:Nat} (q:qj) (old:List Value) (ho:old.length=4) (bC:Box w C old 45):
  ∃ WF,Hid (w.setCells C 0 q.cells=WF)∧Within C (C+1) w WF∧WF.heap.size=w.heap.size∧Hid (w.there C 0 q.cells.toArray.size)∧Hid ((loadVar 45 ⟨C,0,none⟩).run prog WF=.ok (.agg q.cells.toArray) WF)∧Box WF C q.cells 45:=by
 obtain ⟨WF,qK,bF,hwF,q8⟩:=jE [] old q.cells [] (by simpa using bC) (by rw [ho];rfl);have Jz:Box WF C q.cells 45:=by simpa using bF
 exact ⟨WF,qK,hwF,q8,bC.there 0 _ (by rw [ho];show 0+4≤4;decide),qeI (P:=prog) WF C 0 45 q.cells _ (qN Jz) underlying45 rfl ZC,Jz⟩
theorem eB {P:Prop} (h:P:=by
 have HW:Hid (W.drew.setCells w.heap.size 0 a.cells.toArray.toList=WF):=qK.out;rw [HW.out];refine hK.out _ _ ek.out (fun qc=>?_);clear hK K;simp only [Act.put,zA,zB,zC];refine jg 6 ?_;refine qau (by kernel_rfl) ?_ _;clear qc ek HW qK;go_wp2;exact qa3 (v:=.tuple #[.int .i64 oid,.agg a.cells.toArray,.bool true]) (df results164 rfl rfl xA.out rfl) rfl ⟨rfl,HB.out⟩):P:=h
theorem FN (tx prev oid:Int) (b a:qj) (w:World):Calls prog 164 #[wM (XM tx prev oid b a)] w fun e w'=>e=.returned (.tuple #[.int .i64 oid,.agg a.cells.toArray,.bool true])∧qa w w':=by
 obtain ⟨W,hW,b0,b1,hbW,qD⟩:=jK w [.bool false,.int .i64 0,.slice none 0 0,.slice none 0 0] [.int .i64 tx,.int .i64 prev,.int .i64 oid,.bool b.v.has,.int .i64 b.v.o.kind,.slice b.aI b.v.o.ints.length b.cI,.slice b.aR b.v.o.refs.length b.cR,.bool a.v.has,.int .i64 a.v.o.kind,.slice a.aI a.v.o.ints.length a.cI,.slice a.aR a.v.o.refs.length a.cR] 45 242;simp only [wM,XM];have a1:=fun W=>ZJ W (.agg #[.int .i64 tx,.int .i64 prev,.int .i64 oid,.bool b.v.has,.int .i64 b.v.o.kind,.slice b.aI b.v.o.ints.length b.cI,.slice b.aR b.v.o.refs.length b.cR,.bool a.v.has,.int .i64 a.v.o.kind,.slice a.aI a.v.o.ints.length a.cI,.slice a.aR a.v.o.refs.length a.cR])
 have HS:Hid (∀ w',Box w' (w.heap.size+1) [.int .i64 tx,.int .i64 prev,.int .i64 oid,.bool b.v.has,.int .i64 b.v.o.kind,.slice b.aI b.v.o.ints.length b.cI,.slice b.aR b.v.o.refs.length b.cR,.bool a.v.has,.int .i64 a.v.o.kind,.slice a.aI a.v.o.ints.length a.cI,.slice a.aR a.v.o.refs.length a.cR] 242→w'.cell? ⟨w.heap.size+1,0,none⟩=some (.int .i64 tx)∧w'.cell? ⟨w.heap.size+1,1,none⟩=some (.int .i64 prev)∧w'.cell? ⟨w.heap.size+1,2,none⟩=some (.int .i64 oid)∧w'.cell? ⟨w.heap.size+1,3,none⟩=some (.bool b.v.has)∧w'.cell? ⟨w.heap.size+1,4,none⟩=some (.int .i64 b.v.o.kind)∧w'.cell? ⟨w.heap.size+1,5,none⟩=some (.slice b.aI b.v.o.ints.length b.cI)∧w'.cell? ⟨w.heap.size+1,6,none⟩=some (.slice b.aR b.v.o.refs.length b.cR)∧w'.cell? ⟨w.heap.size+1,7,none⟩=some (.bool a.v.has)∧w'.cell? ⟨w.heap.size+1,8,none⟩=some (.int .i64 a.v.o.kind)∧w'.cell? ⟨w.heap.size+1,9,none⟩=some (.slice a.aI a.v.o.ints.length a.cI)∧w'.cell? ⟨w.heap.size+1,10,none⟩=some (.slice a.aR a.v.o.refs.length a.cR)):=fun w' b=>⟨b.cell 0 _ rfl,b.cell 1 _ rfl,b.cell 2 _ rfl,b.cell 3 _ rfl,b.cell 4 _ rfl,b.cell 5 _ rfl,b.cell 6 _ rfl,b.cell 7 _ rfl,b.cell 8 _ rfl,b.cell 9 _ rfl,b.cell 10 _ rfl⟩
 have hlt:=b1.lt;have b0d:=b0.below (qab _ _).drew b0.lt;have b1d:=b1.below (qab _ _).drew b1.lt;have hh:=HS.out _ b1;obtain ⟨WF,qK,hwF,q8,jI,xA,_⟩:=FM a _ rfl b0d;have HB:Hid (qa w WF):=hbW.drew.trans (hwF.below (by omega) (by have:=hbW.drew.size;omega));have ek:Hid (_):=HS.out _ (b1d.within hwF (by omega));clear qD b0 b1 b0d hwF;go_enter func164,ntmps164;go_wp2_with fail;rw [hW.out];clear hW;refine wU HS b1d fun qc=>?_
 iterate 5 refine jv ?_
 refine jc 5 (fun K hK=>?_);rw [qan (by rfl)];refine qc7 45 (.tmp 3) (.tmp 14) rfl w.heap.size 0 a.cells.toArray rfl rfl jI.out ZC (FL a) ?_;exact eB
theorem rY (tx prev oid:Int) (a:qj) (next:Int) (w:World):Calls prog 164 #[zG (JQ tx prev oid a next)] w fun e w'=>e=.returned (.tuple #[.int .i64 oid,.agg a.cells.toArray,.bool true])∧qa w w':=by
 obtain ⟨W,hW,b0,b1,hbW,qD⟩:=jK w [.bool false,.int .i64 0,.slice none 0 0,.slice none 0 0] [.int .i64 tx,.int .i64 prev,.int .i64 oid,.bool a.v.has,.int .i64 a.v.o.kind,.slice a.aI a.v.o.ints.length a.cI,.slice a.aR a.v.o.refs.length a.cR,.int .i64 next] 45 244;simp only [zG,JQ];have a1:=fun W=>yw W 244 (.agg #[.int .i64 tx,.int .i64 prev,.int .i64 oid,.bool a.v.has,.int .i64 a.v.o.kind,.slice a.aI a.v.o.ints.length a.cI,.slice a.aR a.v.o.refs.length a.cR,.int .i64 next]) (by decide)
 have a2:=fun W=>Yz W (.agg #[.int .i64 tx,.int .i64 prev,.int .i64 oid,.bool a.v.has,.int .i64 a.v.o.kind,.slice a.aI a.v.o.ints.length a.cI,.slice a.aR a.v.o.refs.length a.cR,.int .i64 next])
 have HS:Hid (∀ w',Box w' (w.heap.size+1) [.int .i64 tx,.int .i64 prev,.int .i64 oid,.bool a.v.has,.int .i64 a.v.o.kind,.slice a.aI a.v.o.ints.length a.cI,.slice a.aR a.v.o.refs.length a.cR,.int .i64 next] 244→w'.cell? ⟨w.heap.size+1,0,none⟩=some (.int .i64 tx)∧w'.cell? ⟨w.heap.size+1,1,none⟩=some (.int .i64 prev)∧w'.cell? ⟨w.heap.size+1,2,none⟩=some (.int .i64 oid)∧w'.cell? ⟨w.heap.size+1,3,none⟩=some (.bool a.v.has)∧w'.cell? ⟨w.heap.size+1,4,none⟩=some (.int .i64 a.v.o.kind)∧w'.cell? ⟨w.heap.size+1,5,none⟩=some (.slice a.aI a.v.o.ints.length a.cI)∧w'.cell? ⟨w.heap.size+1,6,none⟩=some (.slice a.aR a.v.o.refs.length a.cR)∧w'.cell? ⟨w.heap.size+1,7,none⟩=some (.int .i64 next)):=fun w' b=>⟨b.cell 0 _ rfl,b.cell 1 _ rfl,b.cell 2 _ rfl,b.cell 3 _ rfl,b.cell 4 _ rfl,b.cell 5 _ rfl,b.cell 6 _ rfl,b.cell 7 _ rfl⟩
 have hlt:=b1.lt;have b0d:=b0.below (qab _ _).drew b0.lt;have b1d:=b1.below (qab _ _).drew b1.lt;have hh:=HS.out _ b1;obtain ⟨WF,qK,hwF,q8,jI,xA,_⟩:=FM a _ rfl b0d;have HB:Hid (qa w WF):=hbW.drew.trans (hwF.below (by omega) (by have:=hbW.drew.size;omega));have ek:Hid (_):=HS.out _ (b1d.within hwF (by omega));clear qD b0 b1 b0d hwF;go_enter func164,ntmps164;go_wp2_with fail;rw [hW.out];clear hW;refine wU HS b1d fun qc=>?_
 iterate 5 refine jv ?_
 refine jc 5 (fun K hK=>?_);rw [qan (by rfl)];refine qc7 45 (.tmp 3) (.tmp 21) rfl w.heap.size 0 a.cells.toArray rfl rfl jI.out ZC (FL a) ?_;exact eB
theorem rZ (d:Value) (w:World) (h1:∀ W,(Instr.typeAssert d 210 242 true).run prog W=.ok (.tuple #[.agg #[.int .i64 0,.int .i64 0,.int .i64 0,.bool false,.int .i64 0,.slice none 0 0,.slice none 0 0,.bool false,.int .i64 0,.slice none 0 0,.slice none 0 0],.bool false]) W) (h2:∀ W,(Instr.typeAssert d 210 244 true).run prog W=.ok (.tuple #[.agg #[.int .i64 0,.int .i64 0,.int .i64 0,.bool false,.int .i64 0,.slice none 0 0,.slice none 0 0,.int .i64 0],.bool false]) W):
  Calls prog 164 #[d] w fun e w'=>e=.returned (.tuple #[.int .i64 0,.agg qw.cells.toArray,.bool false])∧qa w w':=by
 obtain ⟨W,hW,b0,hbW,qD⟩:=qB w [.bool false,.int .i64 0,.slice none 0 0,.slice none 0 0] 45;have HL:Hid ((loadVar 45 ⟨w.heap.size,0,none⟩).run prog W=.ok (.agg qw.cells.toArray) W):=qeI (P:=prog) W w.heap.size 0 45 qw.cells _ (qal b0) underlying45 rfl ZC;clear qD b0;go_enter func164,ntmps164;go_wp2;refine qa3 (v:=.tuple #[.int .i64 0,.agg qw.cells.toArray,.bool false]) (df results164 rfl rfl ?_ rfl) rfl ⟨rfl,?_⟩
 ·rw [show _=W from hW.out];exact HL.out
 ·rw [show _=W from hW.out];exact hbW
def qel (r:ql) (e:Ending):Prop:=((r.kind == 1 || r.kind == 4)=true∧e=.returned (.tuple #[.int .i64 r.oid,.agg r.af.cells.toArray,.bool true]))∨((r.kind == 1 || r.kind == 4)=false∧e=.returned (.tuple #[.int .i64 0,.agg qw.cells.toArray,.bool false]))
theorem FO (r:ql) (w:World):Calls prog 164 #[kW r] w fun e w'=>qel r e∧qa w w':=by
 cases k1:(r.kind == 1) with
 | true=>
  have e1:kW r=wM (XM r.tx r.prev r.oid r.bf r.af):=by simp [kW,k1]
  rw [e1];refine (FN r.tx r.prev r.oid r.bf r.af w).mono ?_;rintro e w' ⟨rfl,hb⟩;exact ⟨.inl ⟨by simp [k1],rfl⟩,hb⟩
 | false=>
  cases k4:(r.kind == 4) with
  | true=>
   have hk:r.kind=4:=by simpa using k4
   have e1:kW r=zG (JQ r.tx r.prev r.oid r.af r.next):=by simp [kW,hk]
   rw [e1];refine (rY r.tx r.prev r.oid r.af r.next w).mono ?_;rintro e w' ⟨rfl,hb⟩;exact ⟨.inl ⟨by simp [k4],rfl⟩,hb⟩
  | false=>
   refine (rZ (kW r) w (fun W=>?_) (fun W=>?_)).mono ?_
   ·unfold kW;rw [qa2 (by rw [k1];decide),qa2 (c:=(r.kind == 4)=true) (by rw [k4];decide)];split
    ·exact yw W _ _ (by decide)
    split
    ·exact yw W _ _ (by decide)
    split
    ·exact yw W _ _ (by decide)
    split
    ·exact yw W _ _ (by decide)
    ·exact ZK W
   ·unfold kW;rw [qa2 (by rw [k1];decide),qa2 (c:=(r.kind == 4)=true) (by rw [k4];decide)];split
    ·exact uq W _ _ (by decide)
    split
    ·exact uq W _ _ (by decide)
    split
    ·exact uq W _ _ (by decide)
    split
    ·exact uq W _ _ (by decide)
    ·exact YA W
   ·rintro e w' ⟨rfl,hb⟩;exact ⟨.inr ⟨by simp [k1,k4],rfl⟩,hb⟩
theorem PE {P:Prop} (h:P:=by
 have z2:=hbt.size;have Dp:=qa7 Kq.out h4;obtain ⟨WF,qK,hwF,q8,jI,xA,_⟩:=bO ⟨p.lsn,ts⟩ Dp (HX2.out _ M1);have HE:Hid (gZ w WF p.lsn (p.ss.map (·.v)) r.v (.returned (.tuple #[.agg (qA.cells ⟨p.lsn,ts⟩).toArray,.bool false]))):=AX kI.out Kq.out ((hot.within hwF (by omega)).widen (by omega) (by omega) qg) ((qf hbW M1).trans (hwF.below (by omega) (by omega)));clear hwF q8 rp;go_wp2_with (first | (guard_target=ja 4;refine jb 48 4 31 (w.heap.size+1+1) 0 (qA.cells ⟨p.lsn,ts⟩).toArray jI.out (jG (Kg _ Dp)) (qaf (uM _)) ?_) | fail);rw [qK.out];exact qa3 (v:=.tuple #[.agg (qA.cells ⟨p.lsn,ts⟩).toArray,.bool false]) (wH results135 rfl xA.out rfl) rfl HE.out):P:=h
theorem YY (p:qA) (h4:p.ss.length=4) (r:ql) (w:World) (hg:jR w) (hr:jS w p.ss) (hl:Fit p.ss) (hrr:r.reads w) (hlr:r.short 1099511627776):
  Calls prog 135 #[.agg p.cells.toArray,.agg r.cells.toArray] w fun e w'=>gZ w w' p.lsn (p.ss.map (·.v)) r.v e:=by
 obtain ⟨W,hW,b0,b1,b2,hbW,qD⟩:=yK w p.cells r.cells [.int .i64 0,.bool false,.int .i64 0,.slice none 0 0,.slice none 0 0,.bool false,.int .i64 0,.slice none 0 0,.slice none 0 0,.bool false,.int .i64 0,.slice none 0 0,.slice none 0 0,.bool false,.int .i64 0,.slice none 0 0,.slice none 0 0] 48 124 48;have b2':Box W (w.heap.size+1+1) QL 48:=b2;have HX0:Hid (∀ u,qa W u→Box u w.heap.size p.cells 48):=fun u hu=>b0.below hu b0.lt
 have HX1:Hid (∀ u,qa W u→Box u (w.heap.size+1) r.cells 124):=fun u hu=>b1.below hu b1.lt
 have HX2:Hid (∀ u,qa W u→Box u (w.heap.size+1+1) QL 48):=fun u hu=>b2'.below hu b2'.lt
 have HL:Hid (∀ u,qa W u→u.cell? ⟨w.heap.size,0,none⟩=some (.int .i64 p.lsn)∧u.cell? ⟨w.heap.size+1,0,none⟩=some (.int .i64 r.lsn)):=fun u hu=>⟨(HX0.out u hu).cell 0 _ rfl,(HX1.out u hu).cell 0 _ rfl⟩
 have hlt:=b2'.lt;have HR:Hid (xx r.v=false→redoOk p.lsn (p.ss.map (·.v)) r.v=false):=fun h=>qgT h
 have HK:Hid ((r.kind == 1 || r.kind == 4)=false→redoOk p.lsn (p.ss.map (·.v)) r.v=false):=fun h=>qgU (r:=r.v) ((Bool.or_eq_false_iff.1 h).1) ((Bool.or_eq_false_iff.1 h).2)
 have HN:Hid (r.lsn≤p.lsn→redoOk p.lsn (p.ss.map (·.v)) r.v=false):=fun h=>qgV (r:=r.v) h
 have HY:Hid (xx r.v=true→(r.kind == 1 || r.kind == 4)=true→p.lsn<r.lsn→zo p.lsn (p.ss.map (·.v)) (r.oid % 4) r.af.v r.lsn=redoOk p.lsn (p.ss.map (·.v)) r.v∧setOf p.lsn (p.ss.map (·.v)) (r.oid % 4) r.af.v r.lsn=zP p.lsn (p.ss.map (·.v)) r.v):=fun b c d=>qcc (r:=r.v) b c d
 clear qD b2 b2' b1 b0;go_enter func135,ntmps135;go_wp2_with (first | (guard_target=qp 10;refine qH 124 3 (w.heap.size+1) 0 r.cells (by rw [hW.out];exact FK r (HX1.out _ (qab _ _))) underlying124 (uE _) ?_) | fail);rw [hW.out];clear hW;refine (MS r W).mono ?_;rintro e w1 ⟨rfl,hb1⟩;have CC:=FO r w1;generalize kW r=D at*
 go_wp2_with fail;refine CC.mono ?_;clear CC;rintro e w2 ⟨hch,hb2'⟩;have hb2:qa W w2:=qf hb1 hb2';clear hb2' hb1;rcases hch with ⟨hk,rfl⟩ | ⟨hk,rfl⟩
 ·obtain ⟨W3,hW3,b3,FP,_⟩:=qB w2 r.af.cells 45;have hb3:=qf hb2 FP;have HX3:Hid (∀ u,qa W3 u→Box u w2.heap.size r.af.cells 45):=fun u hu=>b3.below hu b3.lt
  have r3:=FK r (HX1.out _ hb3);simp only [qj.cells] at hW3;simp only [qj.cells];clear FP b3;go_wp2_with (first | (guard_target=qp 19;refine jD (by rfl) 124 (.tmp 3) rfl (w.heap.size+1) 0 rfl r.cells _ (by rw [hW3.out];exact r3) underlying124 rfl (uE _) ?_) | fail);rw [hW3.out];clear hW3 r3;refine (XT r W3 (hg.keep (qf hbW hb3)) (hrr.below (qf hbW hb3)) hlr).mono ?_;rintro e w4 ⟨rfl,Gg⟩;have hb4:qa W w4:=qf hb3 Gg;have bA:=HX3.out _ Gg;clear Gg hb3 hb2 HX3;cases hok:xx r.v with
  | false=>
   have kI:Hid (redoOk p.lsn (p.ss.map (·.v)) r.v=false):=HR.out hok;clear HR HK HN HY hok hk;have rp:=V9 p (HX0.out _ hb4);go_wp2_with (first | (guard_target=qp 30;refine qH 48 2 w.heap.size 0 p.cells rp underlying48 (Kg p h4) ?_) | fail);refine (zU p h4 w4 (hr.below (qf hbW hb4)) hl).mono ?_;rintro e v1 ⟨ts,rfl,Kq,hot,hbt⟩;have M1:=qf hb4 hbt;have z1:=hb4.size;exact PE
  | true=>
  obtain ⟨c0,c1⟩:=HL.out _ hb4;by_cases hn:r.lsn≤p.lsn
  case pos=>
   have kI:Hid (redoOk p.lsn (p.ss.map (·.v)) r.v=false):=HN.out hn;clear HR HK HN HY hok hk;have rp:=V9 p (HX0.out _ hb4);go_wp2_with (first | (guard_target=qp 30;refine qH 48 2 w.heap.size 0 p.cells rp underlying48 (Kg p h4) ?_) | fail);refine (zU p h4 w4 (hr.below (qf hbW hb4)) hl).mono ?_;rintro e v1 ⟨ts,rfl,Kq,hot,hbt⟩;have M1:=qf hb4 hbt;have z1:=hb4.size;exact PE
  case neg=>
   have Mr:Hid (_∧_):=HY.out hok hk (by omega);obtain ⟨k,hk4,hm,hm2,hm3⟩:=qek hok;simp only [ql.v] at hm hm2;obtain ⟨y0,y1,y2,y3,_⟩:=bA.four;have rp:=V9 p (HX0.out _ hb4);have CS:=Ms p h4 (k:Int) r.af r.lsn w4 (hg.keep (qf hbW hb4)) (hr.below (qf hbW hb4)) hl (jd.below hrr.af (qf hbW hb4)) (ma hlr.af);rw [← hm,Mr.out.1,Mr.out.2] at CS;have HA:Hid (∀ v1 e,(∃ ts:List qj,e=Ending.returned (.tuple #[.agg (qA.cells ⟨(zP p.lsn (p.ss.map (·.v)) r.v).1,ts⟩).toArray,.bool (redoOk p.lsn (p.ss.map (·.v)) r.v)])∧Hid (ts.map (·.v)=(zP p.lsn (p.ss.map (·.v)) r.v).2)∧qP v1 w.heap.size v1.heap.size ts∧qa w v1)→gZ w v1 p.lsn (p.ss.map (·.v)) r.v e):=fun _ _ h=>h
   have HLEN:Hid ((zP p.lsn (p.ss.map (·.v)) r.v).2.length=4):=by
    rw [Hid];unfold zP;split<;>simp [h4]
   clear HR HK HN HY Mr hok hk hm3;generalize zP p.lsn (p.ss.map (·.v)) r.v=RO at*
   generalize redoOk p.lsn (p.ss.map (·.v)) r.v=RK at*
   simp only [qj.cells] at CS;rw [hm] at CS;go_wp2_with (first | (guard_target=qp 32;refine qH 48 2 w.heap.size 0 p.cells rp underlying48 (Kg p h4) ?_) | fail);refine CS.mono ?_;clear CS rp y0 y1 y2 y3 c0 c1;rintro e v1 ⟨ts,rfl,Kq,hot,hbt⟩;have M1:=qf hb4 hbt;have z1:=hb4.size;have z2:=hbt.size;have Dp:ts.length=4:=by have:=qcz List.length Kq.out;rw [qa4,HLEN.out] at this;exact this
   obtain ⟨WF,qK,hwF,q8,jI,xA,_⟩:=bO ⟨RO.1,ts⟩ Dp (HX2.out _ M1);have HE:Hid (_):=HA.out WF _ ⟨ts,rfl,Kq,(hot.within hwF (by omega)).widen (by omega) (by omega) qg,(qf hbW M1).trans (hwF.below (by omega) (by omega))⟩;clear hwF q8 HA;go_wp2_with (first | (guard_target=ja 4;refine jb 48 4 39 (w.heap.size+1+1) 0 (qA.cells ⟨RO.1,ts⟩).toArray jI.out (jG (Kg _ Dp)) (qaf (uM _)) ?_) | fail);rw [qK.out];exact qa3 (v:=.tuple #[.agg (qA.cells ⟨RO.1,ts⟩).toArray,.bool RK]) (wH results135 rfl xA.out rfl) rfl HE.out
 ·obtain ⟨W3,hW3,b3,FP,_⟩:=qB w2 [.bool false,.int .i64 0,.slice none 0 0,.slice none 0 0] 45;have hb3:=qf hb2 FP;clear FP b3 hb2;simp only [show qw.cells=[.bool false,.int .i64 0,.slice none 0 0,.slice none 0 0] from rfl];have kI:Hid (redoOk p.lsn (p.ss.map (·.v)) r.v=false):=HK.out hk;clear HR HK HN HY hk;have rp:=V9 p (HX0.out _ hb3);go_wp2_with (first | (guard_target=qp 30;refine qH 48 2 w.heap.size 0 p.cells (by rw [hW3.out];exact rp) underlying48 (Kg p h4) ?_) | fail);rw [hW3.out];clear hW3;refine (zU p h4 W3 (hr.below (qf hbW hb3)) hl).mono ?_;rintro e v1 ⟨ts,rfl,Kq,hot,hbt⟩;have M1:=qf hb3 hbt;have z1:=hb3.size;exact PE
end Go.Proofs.YtnfdccldabbobaaGreatDoor
