/- Several texts in one, in their order. -/
import Derived.Test.YtjkckhfddgeboaaGreatDoorPGetx5
import Derived.Test.YtjkckhfddgeboaaGreatDoorPGetx4
import Derived.Test.YtjkckhfddgeboaaGreatDoorShelf
import Derived.Test.YtjkckhfddgeboaaGreatDoorPGetx11
import Derived.Test.YtjkckhfddgeboaaGreatDoorPGetx12
import Derived.Test.YtjkckhfddgeboaaGreatDoorPGetx9
import Derived.Deep.Cut
import Derived.Test.YtjkckhfddgeboaaGreatDoorPGetx14
import Derived.Test.YtjkckhfddgeboaaGreatDoorPGetx1
set_option maxHeartbeats 8000000
set_option maxRecDepth 100000
namespace Go.Proofs.YtjkckhfddgeboaaGreatDoor
open Go.RowKit
def YJ (x:Int × Int):List Value:=[.int .i64 x.1,.int .i64 x.2]
def Yl (h:qJ):Int × Int:=(h.tx,h.oid)
def J9 (x:Int × Int):qJ:=⟨x.1,x.2⟩
theorem BF (hs:List qJ):(hs.map Yl).map J9=hs:=by rw [List.map_map];exact List.map_id'' (fun _=>rfl) hs
def XL (ms:List qW) (x:Int × Int):Int:=(kW x.2 ms).place
def RY (ms:List qW) (x y:Int × Int):Int:=XL ms x-XL ms y
theorem oH (ms:List qW) (x y:Int × Int):ltOf (RY ms) x y=decide (XL ms x<XL ms y):=by
 unfold ltOf RY;by_cases h:XL ms x<XL ms y
 ·rw [decide_eq_true h,decide_eq_true (by omega)]
 ·rw [decide_eq_false h,decide_eq_false (by omega)]
theorem qdL (ms:List qW):Go.Sort.SWO (ltOf (RY ms)):=
 ⟨fun x=>by rw [oH];simp,fun x y z h1 h2=>by rw [oH] at *;simp at *;omega,fun x y z h1 h2=>by rw [oH] at *;simp at *;omega⟩
theorem UI (hs:List qJ):Go.Sort.flatK YJ 2 (hs.map Yl).toArray=(jl hs).toArray:=by
 apply Array.ext_getElem?
 intro j;by_cases hj:j<hs.length*2
 ·have hat:=Q6 hs (j / 2) (j % 2) (by omega) (Nat.mod_lt _ (by omega));rw [show j / 2*2+j % 2=j by omega] at hat;have hr:(jl hs).toArray[j]? =(hs.getD (j / 2) qY).cells[j % 2]? :=by rw [← hat];simp
  have hs1:j<(Go.Sort.flatK YJ 2 (hs.map Yl).toArray).size:=by simpa using hj
  rw [hr,Array.getElem?_eq_getElem hs1,← getElem!_pos _ j hs1,Go.Sort.get_flatK _ _ _ _ (by simpa using hj)];have h2:j / 2<hs.length:=by omega
  have e1:(hs.map Yl).toArray[j / 2]! =Yl (hs.getD (j / 2) qY):=by simp [h2,List.getD]
  rw [e1];rcases (by omega:j % 2=0∨j % 2=1) with h | h<;>rw [h]<;>rfl
 ·rw [Array.getElem?_eq_none (by simp;omega),Array.getElem?_eq_none (by simp [wG];omega)]
theorem Ka {w:World} {g n:Nat} {os:Array Obj} (d:Array (Int × Int)) (k:Nat) (hk:k<w.heap.size) (hne:k≠g):(sortWorldK YJ 2 w g 0 n d os).heap[k]? =w.heap[k]? :=by
 unfold sortWorldK Go.Sort.putRowK;rw [Go.Sort.heap_grow_old _ _ (by simpa using hk)];have:g≠k:=fun e=>hne e.symm
 simp [Go.Sort.putRow,Go.Sort.mapBlock,Go.Sort.ahead,Array.getElem?_modify,this]
theorem RZ {w:World} {g n:Nat} {os:Array Obj} {cur:Array Value} {e:TypeId} {fr:Nat × Nat} (d:Array (Int × Int)) (hb:w.heap[g]? =some (.cells cur e fr)):
  (sortWorldK YJ 2 w g 0 n d os).heap[g]? =some (.cells (Go.Sort.putCells id 0 (Go.Sort.flatK YJ 2 d) cur) e fr):=by
 unfold sortWorldK Go.Sort.putRowK;have hg:g<w.heap.size:=(Array.getElem?_eq_some_iff.1 hb).1;rw [Go.Sort.heap_grow_old _ _ (by simpa using hg)];simp [Go.Sort.putRow,Go.Sort.mapBlock,Go.Sort.ahead,Array.getElem?_modify,hb,Go.Sort.onCells]
theorem Db {w:World} {g n:Nat} {os:Array Obj} (d:Array (Int × Int)):w.grownBy (sortWorldK YJ 2 w g 0 n d os) (some g):=
 ⟨rfl,rfl,rfl,by unfold sortWorldK Go.Sort.putRowK;simp,fun k hk hne=>Ka d k hk (fun e=>hne (by rw [e]))⟩
theorem eu (cur F:Array Value) (h:F.size≤cur.size):(Go.Sort.putCells id 0 F cur).toList.take F.size=F.toList:=by
 apply List.ext_getElem?
 intro j;by_cases hj:j<F.size
 ·rw [List.getElem?_take_of_lt hj,Array.getElem?_toList];simp [Go.Sort.putCells,hj,show j<cur.size by omega]
 ·rw [List.getElem?_take_eq_none (by omega),List.getElem?_eq_none (by simp;omega)]
theorem R5 (w:World):(isAgg 185).run Tryz.prog w=.ok true w:=by kernel_rfl
theorem BG (w:World):(Go.sizeOf 185).run Tryz.prog w=.ok 2 w:=by kernel_rfl
theorem R7 (PB R M g cap lo:Nat) (ms:List qW) (hs:List qJ) (w:World) (hp:w.cell? ⟨PB,0,none⟩=some (.pointer (some ⟨R,0,none⟩))) (hr:w.cell? ⟨R,144,none⟩=some (.map (some M))) (hm:MapAt w M ms) (h1:PB≠g) (h2:R≠g) (h3:M≠g)
  (hb:∀ k,0≤(kW k ms).place∧(kW k ms).place≤1099511627776) (own:OwnH w lo w.heap.size (some ⟨g,0,none⟩) cap hs) (hl:hs.length≤1099511627776):
  Calls Tryz.prog 257 #[.slice (some ⟨g,0,none⟩) hs.length cap,.func (.func 258) #[] #[.pointer (some ⟨PB,0,none⟩)]] w fun r w'=>r=.returned (.tuple #[])∧∃ ts:List qJ,Hid (ts.Perm hs∧ts.Pairwise (fun a b=>¬ (kW b.oid ms).place<(kW a.oid ms).place))∧OwnH w' lo w'.heap.size (some ⟨g,0,none⟩) cap ts∧w.grownBy w' (some g):=by
 rcases own.1.2 with ⟨hv,_⟩ | ⟨g',cap',cur,hv,hbase,hgt,hn,hcm,hcs,htk⟩
 ·cases hv
 cases hv;have hg:g<w.heap.size:=(Array.getElem?_eq_some_iff.1 hgt).1;obtain ⟨d,hd⟩:∃ d:Array (Int × Int),(hs.map Yl).toArray=d:=⟨_,rfl⟩;have hds:d.size=hs.length:=by rw [← hd];simp
 have hH:Go.Sort.HoldsK YJ 2 w g 0 d:=by
  rw [← hd];intro j hj;rw [UI] at hj ⊢;have hj':j<(jl hs).length:=by simpa using hj
  have e1:(jl hs).toArray[j]! =(jl hs)[j]:=by rw [getElem!_pos _ j (by simpa using hj')];simp
  rw [e1,Nat.zero_add];refine ⟨?_,own.1.frozenAt j⟩;rw [own.1.cellAt j (by rw [wG] at hj';exact hj'),List.getElem?_eq_getElem hj'];rfl
 have hcmp:CmpLays Tryz.prog 258 #[.pointer (some ⟨PB,0,none⟩)] YJ 2 (RY ms) g 0 d.size w:=fun m os dk _ x y=>by
  have bP:=Ka (n:=m) (os:=os) dk PB (World.block_lt_of_cell? w _ hp) h1;have bR:=Ka (n:=m) (os:=os) dk R (World.block_lt_of_cell? w _ hr) h2;have bM:=Ka (n:=m) (os:=os) dk M hm.lt h3;refine PW x y PB R M ms _ ?_ ?_ ?_ hb
  ·rw [World.cell?_of_block (a:=⟨PB,0,none⟩) bP];exact hp
  ·rw [World.cell?_of_block (a:=⟨R,144,none⟩) bR];exact hr
  ·obtain ⟨es,clock,q1,q2⟩:=hm;exact ⟨es,clock,by rw [bM];exact q1,q2⟩
 have eg:∀ args w,(callFunc 258 args).run Tryz.prog w=.ok (.enter 258 args) w:=enters_of Tryz.func258 (by kernel_rfl) rfl;have hcon:=AnyQ.slices_SortFunc Tryz.sortHold 2 R5 BG YJ (fun _=>rfl) (fun x v hv=>by simp [YJ] at hv;rcases hv with rfl | rfl<;>rfl) (RY ms) (qdL ms) 258 #[.pointer (some ⟨PB,0,none⟩)] g 0 cap d w eg hcmp hH hg (by omega)
 change Calls Tryz.prog 257 _ _ _ at hcon
 rw [hds] at hcon;refine hcon.mono ?_;rintro r w' ⟨rfl,d',n,os,⟨p1,_,p3⟩,hso,rfl⟩;refine ⟨rfl,d'.toList.map J9,⟨?_,?_⟩,?_,Db d'⟩
 ·have e1:d'.extract 0 hs.length=d':=by rw [← hds,← p1];simp
  have e2:d.extract 0 hs.length=d:=by rw [← hds];simp
  rw [e1,e2] at p3;have:=p3.map J9
  rwa [← hd,List.toList_toArray,BF] at this
 ·rw [List.pairwise_map,List.pairwise_iff_getElem];intro i j hi hj hij;have hj':j<hs.length:=by rw [← hds,← p1];simpa using hj
  have:=hso i j (Nat.zero_le _) hij hj';rw [oH] at this;have hi':i<d'.size:=by simpa using hi
  have hj2:j<d'.size:=by simpa using hj
  simp only [XL,getElem!_pos d' i hi',getElem!_pos d' j hj2,decide_eq_false_iff_not] at this
  simpa [J9] using this
 ·have hdd:((d'.toList.map J9).map Yl).toArray=d':=by
   rw [List.map_map,List.map_id'' (f:=Yl ∘ J9) (fun _=>rfl)]
  have hlen:(d'.toList.map J9).length=hs.length:=by rw [List.length_map,Array.length_toList,p1,hds]
  have hf:=UI (d'.toList.map J9);rw [hdd] at hf;have hrow:=RZ (n:=n) (os:=os) d' hgt;rw [hf] at hrow;have hcl:(jl (d'.toList.map J9)).toArray.size=hs.length*2:=by simp [wG,p1,hds]
  refine ⟨⟨wG _,.inr ⟨g,cap,_,by rw [hlen],hbase,hrow,by rw [hlen];exact hn,hcm,by simp [Go.Sort.putCells,hcs],?_⟩⟩,Nat.le_refl _,fun k hk=>?_⟩
  ·have:=eu cur (jl (d'.toList.map J9)).toArray (by rw [hcl,hcs];exact Nat.mul_le_mul_right _ hn);rw [hcl] at this;rw [hlen,this]
  ·cases hk;unfold sortWorldK Go.Sort.putRowK;simp;omega
theorem BH (fv:Value) (w:World):Calls Tryz.prog 257 #[.slice none 0 0,fv] w fun r w'=>r=.returned (.tuple #[])∧w'=w:=by
 have h:=AnyF.slices_SortFunc_none Tryz.sortHold none 0 fv w
 change Calls Tryz.prog 257 _ _ _ at h
 exact h
theorem Nw (off:Nat):∀ (vs A old R:List Value) (j:Nat),old.length=vs.length→A.length=off+j→
  (vs.zipIdx j).foldl (fun (cs:Array Value) (p:Value × Nat)=>cs.setIfInBounds (off+p.2) p.1) (A++(old++R)).toArray=(A++(vs++R)).toArray
 | [],A,old,R,j,h,hA=>by
  have:old=[]:=List.length_eq_zero_iff.1 h;rw [this];rfl
 | v::vs,A,[],R,j,h,hA=>by cases h
 | v::vs,A,o::old,R,j,h,hA=>by
  rw [List.zipIdx_cons,List.foldl_cons];have e1:(A++(o::old++R)).toArray.setIfInBounds (off+j) v=((A++[v])++(old++R)).toArray:=by
   rw [List.setIfInBounds_toArray,← hA,List.set_append_right _ _ (Nat.le_refl _),Nat.sub_self];simp
  have e2:=Nw off vs (A++[v]) old R (j+1) (by simpa using h) (by rw [List.length_append,hA];rfl);show List.foldl _ ((A++(o::old++R)).toArray.setIfInBounds (off+j) v) _=_;rw [e1,e2];simp
theorem R9 (vs A old R:List Value) (h:old.length=vs.length):vs.toArray.zipIdx.foldl (fun (cs:Array Value) (p:Value × Nat)=>cs.setIfInBounds (A.length+p.2) p.1) (A++(old++R)).toArray=(A++(vs++R)).toArray:=by
 rw [← Array.foldl_toList,Array.toList_zipIdx];exact Nw A.length vs A old R 0 h rfl
theorem VV (place:Nat→Option (Nat × Nat)) (A vs old R:List Value) (i:Nat) (v:Value) (rest:List (Nat × Value)) (hp:place i=some (A.length,vs.length)) (hv:v.cells=vs.toArray) (h:old.length=vs.length):
  Instr.fill place (A++(old++R)).toArray ((i,v)::rest)=Instr.fill place (A++(vs++R)).toArray rest:=by
 have e1:v.cells.size=vs.length:=by rw [hv];simp
 have e2:(A++(old++R)).toArray.size=A.length+(vs.length+R.length):=by simp [h]
 have e3:=R9 vs A old R h;rw [Instr.fill];simp only [hp,e1,e2];rw [if_neg (by simp),hv];exact congrArg (fun c=>Instr.fill place c rest) e3
def wm (cs:List Value) (M:Nat) (n:Int):List Value:=cs++[.map (some M),.int .i64 n]
theorem Sa (parts:List (Nat × Value)):Tryz.prog.built 140 parts=Instr.fill ((#[(0,144),(144,1),(145,1)]:Array (Nat × Nat))[·]?) (([]:List Value)++(zeroE.cells++[Value.map none,Value.int .i64 0])).toArray parts:=by kernel_rfl
theorem BI (w:World) (t:qa) (st:t.shape) (M:Nat) (n:Int):(Instr.build 140 #[(0,Value.agg t.cells.toArray),(1,Value.map (some M)),(2,Value.int .i64 n)]).run Tryz.prog w=.ok (.agg (wm t.cells M n).toArray) w:=by
 refine run_build w _ _ _ ?_;rw [Sa];have hl:=qa.xR st;have h0:zeroE.cells.length=t.cells.length:=by rw [hl,qa.xR yM]
 rw [show (#[(0,Value.agg t.cells.toArray),(1,Value.map (some M)),(2,Value.int .i64 n)]:Array (Nat × Value)).toList=[(0,Value.agg t.cells.toArray),(1,Value.map (some M)),(2,Value.int .i64 n)] from rfl];rw [VV _ [] t.cells zeroE.cells [Value.map none,Value.int .i64 0] 0 _ _ (by rw [hl];rfl) rfl h0];have e1:([]:List Value)++(t.cells++[Value.map none,Value.int .i64 0])=t.cells++([Value.map none]++[Value.int .i64 0]):=rfl;rw [e1,VV _ t.cells [Value.map (some M)] [Value.map none] [Value.int .i64 0] 1 _ _ (by rw [hl];rfl) rfl rfl];have e2:t.cells++([Value.map (some M)]++[Value.int .i64 0])=(t.cells++[Value.map (some M)])++([Value.int .i64 0]++[]):=by simp
 rw [e2,VV _ (t.cells++[Value.map (some M)]) [Value.int .i64 n] [Value.int .i64 0] [] 2 _ _ (by rw [List.length_append,hl];rfl) rfl rfl];unfold Instr.fill wm;simp
end Go.Proofs.YtjkckhfddgeboaaGreatDoor
namespace Go.Proofs.YtjkckhfddgeboaaGreatDoor
open Go.RowKit
attribute [local go_sem ↓] Go.wp_at_zero Go.wp_at_succ
def zg (e:ji) (s:jc):ji:={ e with log:=⟨e.log.recs,max e.log.sure (min s.lsn e.log.recs.length)⟩,disk:=e.disk.set s.no.toNat (s.lsn,s.ss) }
theorem qa.Gv {e:qa} (h:e.shape) (j:Nat) (v:Value):e.cells.set (136+j) v=qj e.disk++e.tail.set j v:=by
 rw [qa.cells,List.set_append_right _ _ (by rw [qa.xx h];omega),qa.xx h,show 136+j-136=j by omega]
theorem j6.AL {w:World} {E:Nat} {e e':qa} (h:wH w E e) (j:Nat) (v:Value) (hd:e'.disk=e.disk) (ht:e'.tail=e.tail.set j v):
  ∃ W,Hid (w.setCell ⟨E,136+j,none⟩ v=W)∧Box W E e'.cells TE∧Touch [E] w W∧W.heap.size=w.heap.size:=by
 obtain ⟨W,hW,b,hw,hs⟩:=jB h.box (136+j) v;rw [qa.Gv h.shape] at b;refine ⟨W,hW,by rw [qa.cells,hd,ht];exact b,⟨hw.os,hw.tape,hw.output,hw.size,fun k hk hn=>hw.block k hk (fun hh=>hn (by simp;omega))⟩,hs⟩
theorem qG.splice {w:World} {lo hi l u:Nat} {A X B Y:List qf} (h:qG w lo hi (A++(X++B))) (hy:qG w l u Y) (hl:hi≤l) (hlo:lo≤hi) (htop:max hi u≤w.heap.size):qG w lo (max hi u) (A++(Y++B)):=by
 have hap:=h.apart;have hb:=h.ql;have hyb:=hy.ql;refine ⟨fun x hx=>?_,?_⟩
 ·simp only [List.mem_append] at hx;rcases hx with hx | hx | hx
  ·exact (h.each x (by simp [hx])).widen (Nat.le_refl _) (by omega) htop
  ·exact (hy.each x hx).widen (by omega) (by omega) htop
  ·exact (h.each x (by simp [hx])).widen (Nat.le_refl _) (by omega) htop
 ·simp only [List.flatMap_append] at hap hb ⊢;refine K5 (n:=hi) hap hy.apart (fun k hk=>.inr (by have:=(hyb k hk).1;omega)) (fun k hk=>(hb k (by simp only [List.mem_append];exact .inl hk)).2) (fun k hk=>(hb k (by simp only [List.mem_append];exact .inr (.inr hk))).2)
theorem gY (ps:List qw) (k:Nat) (hk:k<ps.length) (q:qw):ps.set k q=ps.take k++q::ps.drop (k+1):=by rw [List.set_eq_take_append_cons_drop,if_pos hk]
theorem Dc (ps:List qw) (k:Nat) (hk:k<ps.length):ps=ps.take k++ps[k]::ps.drop (k+1):=by
 conv=>lhs;rw [← List.take_append_drop k ps,List.drop_eq_getElem_cons hk]
def qz.upTo (l:qz) (n:Int):qz:={ l with sure:=max l.sure (min n l.recs.length) }
theorem pW (E:Nat) (e:qa) (n:Int) (w:World) (h:wH w E e):
  Calls Tryz.prog 173 #[.pointer (some ⟨E,138,none⟩),.int .i64 n] w fun r w'=>(∃ v,r=.returned v)∧yH E e w (e.zo (e.log.upTo n)) w'∧Touch [E] w w':=by
 have c0:w.cell? ⟨E,138,none⟩=some (.slice e.log.a e.log.recs.length e.log.c):=qa.vV h.shape h.box 2 _ rfl;have c1:w.cell? ⟨E,138+1,none⟩=some (.int .i64 e.log.sure):=qa.vV h.shape h.box 3 _ rfl;refine (Hl E 138 e.log.a e.log.c e.log.recs.length e.log.sure n w c0 c1 (h.box.frozen _)).mono ?_;rintro r w' ⟨hv,hw⟩;refine ⟨hv,?_⟩;rcases hw with ⟨rfl,hm⟩ | rfl
 ·have e0:e.zo (e.log.upTo n)=e:=by
   simp only [qa.zo,qz.upTo,hm]
  rw [e0];exact ⟨q8.refl h,Touch.refl _ _⟩
 ·obtain ⟨W,hW,b,ht,hs⟩:=h.AL (e':=e.zo (e.log.upTo n)) 3 (.int .i64 (max e.log.sure (min n e.log.recs.length))) rfl rfl;have hW':w.setCell ⟨E,138+1,none⟩ (.int .i64 (max e.log.sure (min n e.log.recs.length)))=W:=hW.out;rw [hW'];refine ⟨h.logs (e.log.upTo n) b ?_ (ht.mono (by simp)) (fun k hk=>.inl hk),ht⟩;exact (h.own.log.touch ht (fun k hk hk'=>h.off (by rw [← List.mem_singleton.1 hk'];exact qa.J3 hk))).widen (Nat.le_refl _) ht.size (Nat.le_refl _)
theorem j6.fK {f:qa→List Value} {T:TypeId} {w:World} {E:Nat} {e:qa} (h:j6 f T w E e) (tl:qa→List Value) (hfc:∀ e:qa,f e=qj e.disk++tl e) (htl:∀ (e:qa) (ps:List qw),tl (e.vQ ps)=tl e) (n:Nat) (h8:n<8) (q:qw) (hq:q.ss.length=4) {l u:Nat} (oq:qG w l u q.ss) (w0:World) (hl:w0.heap.size≤l) (hlt:∀ k∈e.blocks,k<w0.heap.size) (hE:E<w0.heap.size) (hw0:w0.heap.size≤w.heap.size) (hu:u≤w.heap.size):
  ∃ W,Hid (w.setCells E (n*17) q.cells=W)∧Hid (w.there E (n*17) q.cells.toArray.size)∧j6 f T W E (e.vQ (e.disk.set n q))∧Touch [E] w W∧W.heap.size=w.heap.size∧(∀ k∈(e.vQ (e.disk.set n q)).blocks,k∈e.blocks∨l≤k):=by
 have hk:n<e.disk.length:=by rw [h.shape.eight];exact h8
 have lW:e.disk[n].ss.length=4:=h.shape.four _ (List.getElem_mem hk);have e1:f e=qj (e.disk.take n)++(e.disk[n].cells++(qj (e.disk.drop (n+1))++tl e)):=by rw [hfc,uA e.disk n hk];simp
 have b:=h.box;rw [e1] at b;obtain ⟨W,hW,b',hw,hs⟩:=jb _ _ q.cells _ b (by rw [jo _ hq,jo _ lW]);have hpl:(qj (e.disk.take n)).length=n*17:=by rw [jL _ (fun p hp=>h.shape.four p (List.mem_of_mem_take hp)),List.length_take,Nat.min_eq_left (Nat.le_of_lt hk)]
 rw [hpl] at hW;have e2:f (e.vQ (e.disk.set n q))=qj (e.disk.take n)++(q.cells++(qj (e.disk.drop (n+1))++tl e)):=by
  have e3:f (e.vQ (e.disk.set n q))=qj (e.disk.set n q)++tl e:=by rw [hfc,htl];rfl
  rw [e3,gY _ _ hk];simp [qj]
 rw [← e2] at b';have ht:Touch [E] w W:=⟨hw.os,hw.tape,hw.output,hw.size,fun k hk hn=>hw.block k hk (fun hh=>hn (by simp;omega))⟩;have uz:(e.disk.set n q).length=8:=by rw [List.length_set,h.shape.eight]
 have hb4:∀ p∈e.disk.set n q,p.ss.length=4:=fun p hp=>(List.mem_or_eq_of_mem_set hp).elim (h.shape.four p) (fun e=>by rw [e];exact hq)
 have d1:e.disk.flatMap (·.ss)=(e.disk.take n).flatMap (·.ss)++(e.disk[n].ss++(e.disk.drop (n+1)).flatMap (·.ss)):=by
  have e4:=congrArg (List.flatMap (fun x:qw=>x.ss)) (Dc e.disk n hk);rw [List.flatMap_append,List.flatMap_cons] at e4;exact e4
 have d2:(e.disk.set n q).flatMap (·.ss)=(e.disk.take n).flatMap (·.ss)++(q.ss++(e.disk.drop (n+1)).flatMap (·.ss)):=by rw [gY _ _ hk];simp
 have hod:qG w 0 w0.heap.size (e.disk.flatMap (·.ss)):=⟨fun x hx=>by
  have hx1:=h.own.disk.each x hx;have hxb:∀ k∈x.blocks,k<w0.heap.size:=fun k hk=>hlt k (qa.J4 (List.mem_flatMap.2 ⟨x,hx,hk⟩))
  exact ⟨⟨hx1.ints.1,hw0,fun k hk=>hxb k (List.mem_append.2 (.inl (Option.mem_toList.2 hk)))⟩,⟨hx1.refs.1,hw0,fun k hk=>hxb k (List.mem_append.2 (.inr (Option.mem_toList.2 hk)))⟩,hx1.apart⟩,h.own.disk.apart⟩
 have hos:qG w 0 (max w0.heap.size u) ((e.disk.set n q).flatMap (·.ss)):=by
  rw [d2];rw [d1] at hod;exact hod.splice oq hl (Nat.zero_le _) (by omega)
 have hfr:∀ k∈((e.disk.set n q).flatMap (·.ss)).flatMap qf.blocks,k∈e.JA∨l≤k:=fun k hk=>by
  rw [d2] at hk;unfold qa.JA;rw [d1];simp only [List.flatMap_append,List.mem_append] at hk ⊢;rcases hk with hk | hk | hk
  ·exact .inl (.inl hk)
  ·exact .inr (oq.ql k hk).1
  ·exact .inl (.inr (.inr hk))
 have qdM:qG W 0 W.heap.size ((e.disk.set n q).flatMap (·.ss)):=(hos.touch ht (fun k hk hk'=>by
  have hkE:=List.mem_singleton.1 hk';subst hkE;rcases hfr k hk with h1 | h1
  ·exact h.off (qa.J4 h1)
  ·omega)).widen (Nat.le_refl _) (by omega) (Nat.le_refl _)
 have ap:=h.apart;have oI:∀ k∈e.blocks,k∉[E]:=fun k hk hk'=>h.off (by rw [← List.mem_singleton.1 hk'];exact hk)
 refine ⟨W,hW,?_,⟨b',⟨uz,hb4⟩,⟨qdM,?_,?_,?_,?_,?_⟩,?_⟩,ht,hs,?_⟩
 ·exact h.box.there (n*17) _ (by rw [List.size_toArray,jo _ hq,hfc,List.length_append,qa.xx h.shape];omega)
 ·exact (h.own.pool.touch ht (fun k hk=>oI k (qa.wW hk))).widen (Nat.le_refl _) ht.size (Nat.le_refl _)
 ·exact (h.own.log.touch ht (fun k hk=>oI k (qa.J3 hk))).widen (Nat.le_refl _) ht.size (Nat.le_refl _)
 ·exact (h.own.txs.touch ht (fun k hk=>oI k (qa.Uq (Option.mem_toList.2 hk)))).widen (Nat.le_refl _) ht.size (Nat.le_refl _)
 ·exact (h.own.holds.touch ht (fun k hk=>oI k (qa.Ym (Option.mem_toList.2 hk)))).widen (Nat.le_refl _) ht.size (Nat.le_refl _)
 ·exact K5 (A:=[]) (P:=e.JA) (n:=l) (by rw [List.nil_append];exact h.own.apart) hos.apart hfr (by simp) (fun k hk=>Nat.lt_of_lt_of_le (hlt k (by simp only [qa.blocks,qa.vQ,List.mem_append] at hk ⊢;exact .inr hk)) hl)
 ·intro hk;have hoff:=h.off;simp only [qa.blocks,qa.vQ,List.mem_append] at hk hoff;rcases hk with hk | hk
  ·rcases hfr E hk with h1 | h1
   ·exact hoff (.inl h1)
   ·omega
  ·exact hoff (.inr hk)
 ·intro k hk;simp only [qa.blocks,qa.vQ,List.mem_append] at hk ⊢;rcases hk with hk | hk
  ·exact (hfr k hk).imp .inl id
  ·exact .inl (.inr hk)
theorem UJ (E:Nat) (e:qa) (s:qb) (w:World) (h:wH w E e) (n:Nat) (hn:s.no=(n:Int)) (h8:n<8) (hr:∀ u,Touch [E] w u→s.reads u) (hl:Fit s.ss):
  Calls Tryz.prog 231 #[.pointer (some ⟨E,0,none⟩),.agg s.cells.toArray] w fun r w'=>(∃ v,r=.returned v)∧∃ e',Hid (e'.v=zg e.v s.v)∧Hid (e'.log.recs=e.log.recs)∧yH E e w e' w':=by
 obtain ⟨W,hW,b0,hbW,qp⟩:=qx w s.cells 167;have a1:=h.below hbW;have hoff:Off E e w.heap.size:=h.new (Nat.le_refl _);have hws:w.heap.size<W.heap.size:=by omega
 have QA:Hid (∀ u,Box u w.heap.size s.cells 167→u.rangeAt w.heap.size 0 s.cells∧u.rangeAt w.heap.size 1 s.page.cells):=fun u bu=>⟨Box.range [] s.cells [] (by simpa using bu),by
  have e1:s.cells=[.int .i64 s.no]++(s.page.cells++[.bool s.dirty,.bool s.hot]):=by rw [qb.zG];rfl
  rw [e1] at bu;exact Box.range _ _ _ bu⟩
 have HI:Hid ((Tryz.prog.info? 31).map (·.size)=some s.page.cells.length):=by rw [Hid,jo s.page rfl];kernel_rfl
 clear qp;go_enter Tryz.func231,Tryz.ntmps231;go_upto_region 1 with fail;rw [hW.out];clear hW;have ND:Below W.heap.size W W.drew:=(Below.refl _ _).drew;have a2:=a1.below ND;have b2:=b0.below ND b0.lt;refine wp_region_held_drew (S:=fun w'=>w'.rangeAt w.heap.size 0 s.cells∧w'.rangeAt w.heap.size 1 s.page.cells) (by kernel_rfl) ?_ (fun hHeld=>?_)
 ·exact QA.out _ b2
 refine tr 0 (.pointer (some ⟨E,0,none⟩)) ?_;refine tr 1 (.pointer (some ⟨E,0,none⟩)) ?_;refine tr 2 (.pointer (some ⟨E,138,none⟩)) ?_;refine tr 3 (.pointer (some ⟨w.heap.size,1,none⟩)) ?_;refine tr 4 (.pointer (some ⟨w.heap.size,1,none⟩)) ?_;refine tk 5 (v:=.int .i64 s.lsn) rfl (Or.inl ⟨by rfl,?_⟩) hHeld ?_
 ·intro w' hSw;have hx:w'.cell? ⟨w.heap.size,1,none⟩=some (.int .i64 s.lsn):=hSw.1 1 _ rfl;go_simp<;>rfl
 try simp only [zz]
 refine wpAnyH_ready (rs:=[6]) (by kernel_rfl) (by simp) ?_;refine AllReadyH.cons rfl (fun K hK=>?_) AllReadyH.nil;go_simp;refine (pW E e s.lsn W.drew a2).mono ?_;rintro r w3 ⟨⟨v3,rfl⟩,s3,t3⟩;have b3:=s3.boxes b2 hoff;have N0:Below w.heap.size w W.drew:=hbW.trans (ND.mono hbW.size);have S3:yH E e w (e.zo (e.log.upTo s.lsn)) w3:=q8.after N0 s3;have r3:s.reads w3:=hr _ ((Touch.of_below N0).trans t3);have hs3:=S3.size;have U3:=s3.size;have hE:E<w.heap.size:=h.box.lt;have hb3:w.heap.size<w3.heap.size:=b3.lt;refine hK.out _ _ (QA.out _ b3) (fun hHeld=>?_);clear hK K;try simp only [zz]
 refine wpAnyH_done (by kernel_rfl) ?_ _;clear hHeld s3 a1 a2 b2 b0 t3 hr;have gZ:Below w3.heap.size w3 w3.drew:=(Below.refl _ _).drew;have a4:=S3.at'.below gZ;have b4:=b3.below gZ b3.lt;go_upto_region 2 with fail;refine wp_region_held_drew (S:=fun w'=>w'.rangeAt w.heap.size 0 s.cells∧w'.rangeAt w.heap.size 1 s.page.cells) (by kernel_rfl) ?_ (fun hHeld=>?_)
 ·exact QA.out _ b4
 refine tr 0 (.pointer (some ⟨E,0,none⟩)) ?_;refine tr 1 (.pointer (some ⟨w.heap.size,0,none⟩)) ?_;refine tk 2 (v:=.int .i64 s.no) rfl (Or.inl ⟨by rfl,?_⟩) hHeld ?_
 ·intro w' hSw;have hx:w'.cell? ⟨w.heap.size,0,none⟩=some (.int .i64 s.no):=hSw.1 0 _ rfl;go_simp<;>rfl
 try simp only [zz]
 refine tr 3 (.pointer (some ⟨w.heap.size,1,none⟩)) ?_;refine Go.Proofs.YtjkckhfddgeboaaGreatDoor.ts 4 rfl (yieldsIf_load_mid (by rfl) _ _ rfl _ _ rfl s.page.cells _ (fun _ h=>h.2) Tryz.underlying31 rfl HI.out) ?_;refine tr 6 (.pointer (some ⟨E,0,none⟩)) ?_;refine tr 7 (.pointer (some ⟨E,0,none⟩)) ?_;refine wpAnyH_ready (rs:=[5]) (by kernel_rfl) (by simp) ?_;refine AllReadyH.cons rfl (fun K hK=>?_) AllReadyH.nil;go_simp;refine (K6 s.page rfl w3.drew (r3.below gZ) hl).mono ?_;rintro r w5 ⟨ts,rfl,hts,gU,hb5⟩;have ma:Below w3.heap.size w3 w5:=gZ.trans hb5;have a5:=S3.at'.below ma;have b5:=b3.below ma b3.lt;have S5:=S3.below ma;have h4:ts.length=4:=by have:=congrArg List.length hts.out;simpa [qb.page,qb.ss] using this
 have hs5:=ma.size;refine hK.out _ _ (QA.out _ b5) (fun hHeld=>?_);clear hK K;try simp only [zz]
 obtain ⟨WF,qF,XX,aF,tF,qN,fF⟩:=a5.fK qa.tail (fun _=>rfl) (fun _ _=>rfl) n h8 ⟨s.lsn,ts⟩ h4 gU w3.drew (Nat.le_refl _) (fun k hk=>a4.lt k hk) a4.box.lt hb5.size (Nat.le_refl _);have zK:Hid (w5.setCells E (n*17) (qw.cells ⟨s.lsn,ts⟩).toArray.toList=WF):=qF.out;have bF:=b5.touch tF (by simp;omega);have I5:Hid ((Tryz.prog.info? 31).map (·.size)=some (qw.cells ⟨s.lsn,ts⟩).toArray.size):=by rw [Hid,List.size_toArray,jo _ h4];kernel_rfl
 have HS:Hid (∃ e',Hid (e'.v=zg e.v s.v)∧Hid (e'.log.recs=e.log.recs)∧yH E e w e' WF):=by
  refine ⟨_,?_,?_,aF,?_,?_⟩
  ·rw [Hid];simp only [qa.v,qa.vQ,qa.zo,zg,qz.upTo,qz.v,List.map_set,qb.v,hn,Int.toNat_natCast,hts.out,qb.page,List.length_map]
  ·rfl
  ·exact S5.touch.trans (tF.mono (by simp))
  ·intro k hk;rcases fF k hk with h1 | h1
   ·exact S5.fresh k h1
   ·exact .inr (by have:w3.drew.heap.size=w3.heap.size:=rfl;omega)
 clear qF aF tF qN fF;have Xi:(n:Int)<8:=by omega
 have hn0:(0:Int)≤(n:Int):=by omega
 refine tr 8 (.pointer (some ⟨E,n*17,none⟩)) ?_;refine wpAnyH_ready (rs:=[9]) (by kernel_rfl) (by simp) ?_;refine AllReadyH.cons rfl (fun K hK=>?_) AllReadyH.nil;rw [if_pos (by rfl)];refine wp_store_mid 31 (.tmp 19) (.tmp 16) rfl E (n*17) (qw.cells ⟨s.lsn,ts⟩).toArray rfl rfl XX.out I5.out (all_oneCell_toArray (Qx _)) ?_;rw [zK.out];refine hK.out _ _ (QA.out _ bF) (fun hHeld=>?_);clear hK K;try simp only [Act.put,zA,zB,zC]
 refine wpAnyH_done (by kernel_rfl) ?_ _;go_wp2;go_end0;exact ⟨⟨_,rfl⟩,HS.out⟩
end Go.Proofs.YtjkckhfddgeboaaGreatDoor
namespace Go.Proofs.YtjkckhfddgeboaaGreatDoor
open Go.RowKit
attribute [local go_sem ↓] Go.wp_at_zero Go.wp_at_succ
def sW (ss:List jy):Prop:=∀ s∈ss,s.o.ints.length≤1099511627776∧s.o.refs.length≤1099511627776
def aj (s:jc):jc:={ s with hot:=true }
def jF (e:ji) (n:Nat):ji × Int:=
 if 0≤qy e.seats n then ({ e with seats:=e.seats.set (qy e.seats n).toNat (aj (e.seats.getD (qy e.seats n).toNat qD)) },qy e.seats n)
 else
  let b:=jX e.seats e.hand.toNat ⟨n,(e.disk.getD n (0,[])).1,(e.disk.getD n (0,[])).2,false,true⟩
  let e1:ji:={ e with seats:=b.1,hand:=b.2.1 }
  let e2:=if b.2.2.2=true∧b.2.2.1.dirty=true then zg e1 b.2.2.1 else e1
  (e2,qy e2.seats n)
structure ji.QD (e:ji):Prop where
 len:e.seats.length≤3
 hand:∃ h:Nat,e.hand=h∧h<3
 nos:∀ s∈e.seats,∃ n:Nat,s.no=n∧n<8
 fitS:∀ s∈e.seats,sW s.ss
 eight:e.disk.length=8
 fitD:∀ p∈e.disk,sW p.2
theorem VR {ss:List qf} (h:sW (ss.map (·.v))):Fit ss:=fun s hs=>h s.v (List.mem_map_of_mem hs)
theorem De (no:Int) (ss:List jc) (k:Nat):jJ no ss k= -1∨∃ j,jJ no ss k=(k+j:Nat)∧j<ss.length∧(ss.getD j qD).no=no:=by
 induction ss generalizing k with
 | nil=>exact .inl rfl
 | cons s r ih=>
  rw [jJ];by_cases h:s.no=no
  ·rw [if_pos h];exact .inr ⟨0,rfl,by simp,by simpa using h⟩
  ·rw [if_neg h];rcases ih (k+1) with h1 | ⟨j,h1,h2,h3⟩
   ·exact .inl h1
   ·exact .inr ⟨j+1,by rw [h1];congr 1;omega,by simp;omega,by simpa using h3⟩
theorem QR (ss:List jc) (no:Int):qy ss no= -1∨∃ j:Nat,qy ss no=j∧j<ss.length∧(ss.getD j qD).no=no:=by
 rcases De no ss 0 with h | ⟨j,h1,h2,h3⟩
 ·exact .inl h
 ·exact .inr ⟨j,by rw [qy,h1];simp,h2,h3⟩
theorem qa.mh {e:qa} (h:e.shape) (j:Nat):e.cells[136+j]? =e.tail[j]? :=by
 rw [qa.cells,List.getElem?_append_right (by rw [qa.xx h];omega),qa.xx h,show 136+j-136=j by omega]
theorem j6.Sb {w:World} {E:Nat} {e:qa} (h:wH w E e):JB w 0 w.heap.size E 136 e.cells TE e.aS e.cS e.seats e.hand:=
 ⟨h.box,qa.mh h.shape 0,qa.mh h.shape 1,h.own.pool,fun hk=>h.off (qa.wW hk)⟩
theorem qa.BJ {e:qa} (h:e.shape) (ss:List qb) (a:Option Addr) (c:Nat) (hand:Int):(e.cells.set 136 (.slice a ss.length c)).set 137 (.int .i64 hand)=(e.qX ss a c hand).cells:=by
 have h1:e.cells.set 136 (.slice a ss.length c)=qj e.disk++e.tail.set 0 (.slice a ss.length c):=qa.Gv h 0 _;rw [h1,List.set_append_right _ _ (by rw [qa.xx h];omega),qa.xx h];rfl
theorem Xe.step {w w':World} {E:Nat} {e:qa} {ts:List qb} {a':Option Addr} {c' hand':Nat} {old:qb} (h:wH w E e) (b:Xe 0 E 136 e.cells TE e.aS e.cS e.seats w w' ts a' c' hand' old):yH E e w (e.qX ts a' c' hand') w':=by
 refine h.pool ts a' c' hand' ?_ b.pool.own b.touch b.fresh;have:=b.pool.box;rw [qa.BJ h.shape] at this;exact this
theorem j6.AO {w:World} {E:Nat} {e:qa} (h:wH w E e) (k:Nat) (hk:k<e.seats.length) (z':qb) (i:Nat) (v:Value) (hi:i<20) (hc:z'.cells=(e.seats.getD k qc).cells.set i v) (hss:z'.ss=(e.seats.getD k qc).ss):
  ∃ g W,e.aS=some ⟨g,0,none⟩∧g≠E∧Hid (w.setCell ⟨g,k*20+i,none⟩ v=W)∧(∀ j,w.frozen? ⟨g,j,none⟩=false)∧w.rangeAt g (k*20) (e.seats.getD k qc).cells∧yH E e w (e.qX (e.seats.set k z') e.aS e.cS e.hand) W∧Touch [g] w W∧W.heap.size=w.heap.size:=by
 obtain ⟨g,hg⟩:∃ g,e.aS=some ⟨g,0,none⟩:=by
  rcases h.own.pool.row.2 with ⟨_,h0⟩ | ⟨g,cap',cur,hv,_⟩
  ·omega
  ·simp only [Value.slice.injEq] at hv;exact ⟨g,hv.1⟩
 have hmem:g∈qo e.aS e.cS e.seats:=by rw [hg];simp [qo,Value.ownBlock]
 have I6:g≠E:=fun e1=>h.off (by rw [← e1];exact qa.wW hmem)
 have ho:=h.own.pool;rw [hg] at ho;have hr:=yf ho.row rfl k hk;have hf:∀ j,w.frozen? ⟨g,j,none⟩=false:=fun j=>ho.row.frozenAt j
 rw [wL e.seats k hk] at ho;obtain ⟨o2,t2⟩:=OwnSts.Jb (z':=z') ho i v hi hc hss;have hkl:(e.seats.take k).length=k:=by rw [List.length_take];omega
 rw [hkl,← Qc e.seats k z' hk] at o2;rw [hkl] at t2;have hsz:(w.setCell ⟨g,k*20+i,none⟩ v).heap.size=w.heap.size:=by simp
 have hbl:qo (some ⟨g,0,none⟩) e.cS (e.seats.set k z')=qo (some ⟨g,0,none⟩) e.cS e.seats:=by
  refine ZW (n:=e.seats.length) (by simp) rfl ?_;rw [Qc _ _ _ hk];conv=>rhs;rw [wL e.seats k hk]
  simp only [List.flatMap_append,List.flatMap_cons,qb.blocks,hss]
 refine ⟨g,_,hg,I6,rfl,hf,hr.1,?_,t2,hsz⟩;refine h.pool _ _ _ _ ?_ ?_ (t2.mono (fun j hj=>List.mem_cons_of_mem _ (by rw [List.mem_singleton.1 hj];exact hmem))) (fun j hj=>.inl ?_)
 ·have e1:(e.qX (e.seats.set k z') e.aS e.cS e.hand).cells=e.cells:=by
   simp only [qa.cells,qa.tail,qa.qX,List.length_set]
  rw [e1];exact h.box.touch t2 (by simpa using fun e1=>I6 e1.symm)
 ·rw [hg];exact o2.widen (Nat.le_refl _) (Nat.le_of_eq hsz.symm) (Nat.le_refl _)
 ·rw [hg] at hj ⊢;rw [hbl] at hj;exact hj
theorem q8.put {E X:Nat} {e e':qa} {w w' w'':World} (s:yH E e w e' w') (hw:Within X (X+1) w' w'') (ho:Off E e' X) (hX:w.heap.size≤X):yH E e w e' w'':=
 ⟨s.at'.within hw (fun h=>ho.1 (by omega)) (fun k hk h=>ho.2 (by have:k=X:=(by omega);rw [← this];exact hk)),
  ⟨hw.os.trans s.touch.os,hw.tape.trans s.touch.tape,hw.output.trans s.touch.output,Nat.le_trans s.size hw.size,fun k hk hn=>(hw.block k (Nat.lt_of_lt_of_le hk s.size) (by omega)).trans (s.touch.block k hk hn)⟩,s.fresh⟩
theorem gm (m:Nat) (ss:List jc) (h:Nat):∀ s∈(qL m ss h).1,∃ s0∈ss,s.no=s0.no∧s.ss=s0.ss∧s.lsn=s0.lsn∧s.dirty=s0.dirty:=by
 induction m generalizing ss h with
 | zero=>exact fun s hs=>⟨s,hs,rfl,rfl,rfl,rfl⟩
 | succ m ih=>
  intro s hs;rw [qL] at hs;split at hs
  ·next hh=>
   obtain ⟨s0,h0,e1,e2,e3,e4⟩:=ih _ _ s hs;rcases List.mem_or_eq_of_mem_set h0 with h1 | h1
   ·exact ⟨s0,h1,e1,e2,e3,e4⟩
   ·by_cases hlt:h<ss.length
    ·refine ⟨ss.getD h qD,?_,by rw [e1,h1];rfl,by rw [e2,h1];rfl,by rw [e3,h1];rfl,by rw [e4,h1];rfl⟩;simp only [List.getD,List.getElem?_eq_getElem hlt,Option.getD_some];exact List.getElem_mem hlt
    ·exfalso;have hge:ss.length≤h:=by omega
     simp only [List.getD,List.getElem?_eq_none hge,Option.getD_none] at hh;cases hh
  ·exact ⟨s,hs,rfl,rfl,rfl,rfl⟩
theorem Yb (ss:List jc) (h:Nat) (new:jc) (hl:ss.length≤3):(jX ss h new).1.length≤3:=by
 unfold jX;split
 ·simp;omega
 ·simp only [List.length_set,KY];exact hl
theorem Kn (ss:List jc) (h:Nat) (new:jc) (hw:(jX ss h new).2.2.2=true) (hh:h<3):∃ s0∈ss,(jX ss h new).2.2.1.no=s0.no∧(jX ss h new).2.2.1.ss=s0.ss:=by
 unfold jX at hw ⊢;split at hw
 ·cases hw
 ·next hl=>
  rw [if_neg hl];have hk:=(QE 4 ss h hh).2;have hlen:=KY 4 ss h;have hlt:(qL 4 ss h).2.2<(qL 4 ss h).1.length:=by omega
  obtain ⟨s0,h0,e1,e2,_,_⟩:=gm 4 ss h ((qL 4 ss h).1.getD (qL 4 ss h).2.2 qD) (by
   simp only [List.getD,List.getElem?_eq_getElem hlt,Option.getD_some];exact List.getElem_mem hlt)
  exact ⟨s0,h0,e1,e2⟩
theorem Df (E:Nat) (e:qa) (n:Nat) (w:World) (h:wH w E e) (hp:e.v.QD) (h8:n<8):
  Calls Tryz.prog 131 #[.pointer (some ⟨E,0,none⟩),.int .i64 n] w fun r w'=>∃ (e':qa) (k:Int),r=.returned (.int .i64 k)∧Hid (jF e.v n=(e'.v,k))∧Hid (e'.log.recs=e.log.recs)∧yH E e w e' w':=by
 have fH:Hid ((Tryz.prog.info? 35).map (·.size)=some [Value.slice e.aS e.seats.length e.cS,.int .i64 e.hand].length):=by rw [Hid];kernel_rfl
 have I7:Hid (∀ u (e1:qa),wH u E e1→u.rangeAt E 136 [.slice e1.aS e1.seats.length e1.cS,.int .i64 e1.hand]):=fun u e1 hu j v hv=>by
  match j,hv with
  | 0,hv=>cases hv;exact qa.vV hu.shape hu.box 0 _ rfl
  | 1,hv=>cases hv;exact qa.vV hu.shape hu.box 1 _ rfl
 have C1:=JX e.aS e.cS e.seats e.hand n w h.own.pool.reads (by have:=hp.len;simp only [qa.v,List.length_map] at this;omega);go_enter Tryz.func131,Tryz.ntmps131;go_wp2_with (first | (guard_target=wpList _ _ _ (Oper.mk (some 11) _ _ _ _ _::_) _ _;refine wpList_load_mid rfl 35 (.tmp 10) rfl E 136 rfl _ _ (I7.out w e h) Tryz.underlying35 rfl fH.out ?_) | fail);refine C1.mono ?_;clear C1;rintro r w1 ⟨rfl,hb1⟩;have a1:=h.below hb1;rcases QR (e.seats.map qb.v) n with hs | ⟨k,hs,hk,hno⟩
 ·have hneg:¬ (0:Int)≤qy (e.seats.map qb.v) n:=by rw [hs];omega
  obtain ⟨hd,hhd,Gg⟩:=hp.hand;have Bw:e.hand=(hd:Int):=hhd;have hlen:e.seats.length≤3:=by have:=hp.len;simpa [qa.v] using this
  have hdk:n<e.disk.length:=by rw [h.shape.eight];exact h8
  obtain ⟨pg,Y1⟩:∃ pg:qw,Hid (e.disk[n]=pg):=⟨e.disk[n],rfl⟩;have VQ:Hid (e.v.disk.getD n (0,[])=(pg.lsn,pg.ss.map (·.v))):=by
   rw [Hid,← Y1.out];simp [qa.v,List.getD,hdk]
  have h4:pg.ss.length=4:=by rw [← Y1.out];exact h.shape.four _ (List.getElem_mem hdk)
  have jR:Hid (∀ u (e1:qa),wH u E e1→e1.disk=e.disk→u.rangeAt E (n*17) pg.cells):=fun u e1 hu hd1=>by
   have h1:=qa.YT hu.shape hu.box n (by rw [hd1];exact hdk);simp only [hd1,Y1.out] at h1;exact h1
  have hfit:Fit pg.ss:=VR (by
   have:=hp.fitD (e.v.disk.getD n (0,[])) (by
    simp only [List.getD,qa.v,List.getElem?_map,List.getElem?_eq_getElem hdk,Option.map_some,Option.getD_some];exact List.mem_map_of_mem (List.getElem_mem hdk))
   rw [VQ.out] at this;exact this)
  have XY:Hid (∀ u,wH u E e→jK u pg.ss):=fun u hu s hs=>hu.own.disk.reads s (List.mem_flatMap.2 ⟨e.disk[n],List.getElem_mem hdk,by rw [Y1.out];exact hs⟩)
  have HI:Hid ((Tryz.prog.info? 31).map (·.size)=some pg.cells.length):=by rw [Hid,jo pg h4];kernel_rfl
  have I8:Hid (qy (e.seats.map qb.v) n= -1):=hs;have ND:Below w1.heap.size w1 w1.drew:=(Below.refl _ _).drew;have Xi:(n:Int)<8:=by omega
  have hn0:(0:Int)≤(n:Int):=by omega
  rw [hs];clear hs Y1 hdk;go_upto_region 5 with fail;refine wp_region_held_drew (S:=fun w'=>w'.rangeAt E (n*17) pg.cells∧True) (by kernel_rfl) ?_ (fun hHeld=>?_)
  ·exact ⟨jR.out _ e (a1.below ND) rfl,trivial⟩
  refine tr 0 (.pointer (some ⟨E,0,none⟩)) ?_;refine tr 1 (.pointer (some ⟨E,0,none⟩)) ?_;refine tr 2 (.pointer (some ⟨E,136,none⟩)) ?_;refine tr 3 (.int .i64 n) ?_;refine tr 4 (.pointer (some ⟨E,0,none⟩)) ?_;refine tr 5 (.int .i64 n) ?_;refine tr 6 (.pointer (some ⟨E,0,none⟩)) ?_;refine tr 7 (.pointer (some ⟨E,0,none⟩)) ?_;refine tr 8 (.pointer (some ⟨E,n*17,none⟩)) ?_;refine Go.Proofs.YtjkckhfddgeboaaGreatDoor.ts 9 rfl (yieldsIf_load_mid (by rfl) _ _ rfl _ _ rfl pg.cells _ (fun _ h=>h.1) Tryz.underlying31 rfl HI.out) ?_;refine wpAnyH_ready (rs:=[10,14]) (by kernel_rfl) (by simp) ?_;refine AllReadyH.cons rfl (fun K hK=>?_) (AllReadyH.cons rfl (fun K hK=>?_) AllReadyH.nil)
  ·have aP:=a1.below ND;have pP:=aP.Sb;rw [Bw] at pP;have C5:=UK 0 w1.drew.heap.size E 136 e.cells TE e.aS e.cS e.seats hd n pg w1.drew pP (Nat.zero_le _) hlen Gg h4 (XY.out _ aP) hfit;clear pP;go_simp;refine C5.mono ?_;clear C5;rintro r w5 ⟨ts,a',c',hand',old,went,rfl,hbv,br⟩;have s5:=br.step aP;have oJ:Hid (∀ j∈old.blocks,j≠E∧j<w1.heap.size):=fun j hj=>⟨fun e1=>h.off (qa.wW (by rw [← e1];exact br.wentB j hj)),a1.lt j (qa.wW (br.wentB j hj))⟩
   have Sc:=br.went;have q5:=jR.out _ _ s5.at' rfl;have hs5:=s5.size;refine hK.out _ _ (⟨q5,trivial⟩) (fun hHeld=>?_);clear hK K;try simp only [zz]
   refine tr 11 (.tuple #[.agg old.cells.toArray,.bool went]) ?_;refine tr 12 (.agg old.cells.toArray) ?_;refine tr 13 (.bool went) ?_;obtain ⟨W6,Yn,b6,hb6,hs6⟩:=qx w5 qc.cells 167;have pX:Hid (w5.alloc (.cells #[.int .i64 0,.int .i64 0,.bool false,.int .i64 0,.slice none 0 0,.slice none 0 0,.bool false,.int .i64 0,.slice none 0 0,.slice none 0 0,.bool false,.int .i64 0,.slice none 0 0,.slice none 0 0,.bool false,.int .i64 0,.slice none 0 0,.slice none 0 0,.bool false,.bool false] 167)=W6):=Yn.out;refine wpAnyH_ready (rs:=[14]) (by kernel_rfl) (by simp) ?_;refine AllReadyH.cons rfl (fun K hK=>?_) AllReadyH.nil;go_simp;rw [pX.out];have s6:=s5.below hb6;have oK:=s5.at'.new (Nat.le_refl w5.heap.size);obtain ⟨W8,Sd,hw8,lJ,mi,_,bo⟩:=kg old _ rfl b6;have S8:yH E e w (e.qX ts a' c' hand') W8:=q8.after (hb1.trans (ND.mono hb1.size)) (q8.put s6 hw8 oK hs5);have mo:old.own W8 0 w5.heap.size:=(Sc.below hb6).within hw8 (.inl (Nat.le_refl _));have gy:Hid (W8.rangeAt w5.heap.size 0 old.cells):=Box.range [] old.cells [] (by simpa using bo);have Ny:Hid (W6.setCells w5.heap.size 0 old.cells.toArray.toList=W8):=Sd.out;refine hK.out _ _ (⟨jR.out _ _ s6.at' rfl,trivial⟩) (fun hHeld=>?_);clear hK K;try simp only [zz]
   refine wpAnyH_ready (rs:=[15]) (by kernel_rfl) (by simp) ?_;refine AllReadyH.cons rfl (fun K hK=>?_) AllReadyH.nil;rw [if_pos (by rfl)];refine wp_store_mid 167 (.tmp 6) (.tmp 37) rfl w5.heap.size 0 old.cells.toArray rfl rfl mi.out (jI old) (ko old) ?_;rw [Ny.out];refine hK.out _ _ (⟨jR.out _ _ S8.at' rfl,trivial⟩) (fun hHeld=>?_);clear hK K;try simp only [Act.put,zA,zB,zC]
   refine tr 16 (.bool went) ?_;refine wpAnyH_done (by kernel_rfl) ?_ _;clear Ny Sd hw8 lJ mi s6 b6 hb6 hs6 Yn pX s5 q5 br aP Sc ND;generalize w5.heap.size=X at*
   have r8:=gy.out;have d8:=bo.cell 18 _ (show old.cells[18]? =some (.bool old.dirty) from rfl);have Kv:Hid (jF e.v n=((if went=true∧old.v.dirty=true then zg (e.qX ts a' c' hand').v old.v else (e.qX ts a' c' hand').v),qy (if went=true∧old.v.dirty=true then zg (e.qX ts a' c' hand').v old.v else (e.qX ts a' c' hand').v).seats n)):=by
    rw [Hid,jF,if_neg (by rw [show e.v.seats=e.seats.map qb.v from rfl,I8.out];omega)];have e1:e.v.seats=e.seats.map qb.v:=rfl;have e2:e.v.hand.toNat=hd:=by rw [hhd];rfl
    have e3:e.v.disk.getD n (0,[])=(pg.lsn,pg.ss.map (·.v)):=VQ.out;simp only [e1,e2,e3,hbv.out];rfl
   have KU:Hid (∀ u (e1:qa),wH u E e1→e1.seats.length≤3→Calls Tryz.prog 155 #[.agg #[.slice e1.aS e1.seats.length e1.cS,.int .i64 e1.hand],.int .i64 n] u fun r w'=>r=.returned (.int .i64 (qy (e1.seats.map qb.v) n))∧Below u.heap.size u w'):=fun u e1 hu hl1=>JX e1.aS e1.cS e1.seats e1.hand n u hu.own.pool.reads (by omega)
   have Zc:Hid (ts.length≤3):=by
    have h1:=Yb (e.seats.map qb.v) hd ⟨n,pg.lsn,pg.ss.map (·.v),false,true⟩ (by rw [List.length_map];exact hlen);rw [hbv.out] at h1;rw [Hid]
    simpa using h1
   have yA:Hid (went=true→∃ m:Nat,old.no=m∧m<8∧Fit old.ss):=fun hwt=>by
    have h1:=Kn (e.seats.map qb.v) hd ⟨n,pg.lsn,pg.ss.map (·.v),false,true⟩ (by rw [hbv.out];exact hwt) Gg;rw [hbv.out] at h1;obtain ⟨s0,hs0,e1,e2⟩:=h1;obtain ⟨m,hm,Nz⟩:=hp.nos s0 hs0;exact ⟨m,by rw [← hm,← e1];rfl,Nz,VR (by have:=hp.fitS s0 hs0;rw [← e2] at this;exact this)⟩
   have mq:Hid (∀ u,Touch [E] W8 u→old.reads u):=fun u hu=>(mo.touch hu (fun j hj hk=>(oJ.out j hj).1 (List.mem_singleton.1 hk))).reads
   have NA:Hid ((Tryz.prog.info? 35).map (·.size)=some [Value.slice a' ts.length c',.int .i64 (hand':Int)].length):=by rw [Hid];kernel_rfl
   have Wn:Hid (∀ u (e1:qa),wH u E e1→u.rangeAt E 136 [.slice e1.aS e1.seats.length e1.cS,.int .i64 e1.hand]):=I7;clear gy hHeld bo;by_cases hw:went=true
   ·subst hw;by_cases hdi:old.dirty=true
    ·rw [hdi] at d8;obtain ⟨m,hm,Nz,hfit⟩:=yA.out rfl;have C7:=UJ E (e.qX ts a' c' hand') old W8 S8.at' m hm Nz mq.out hfit;clear yA mq hm;go_wp2_with (first | (guard_target=wpList _ _ _ (Oper.mk (some 45) _ _ _ _ _::_) _ _;refine wpList_load_mid rfl 167 (.tmp 6) rfl X 0 rfl old.cells _ r8 Tryz.underlying167 rfl (jI old) ?_) | fail);refine C7.mono ?_;clear C7 d8 r8;rintro r w9 ⟨⟨v9,rfl⟩,e9,Sg,I9,s9⟩;have S9:=S8.trans s9;have hq:e9.seats.length≤3:=by
      have h1:=congrArg (fun x:ji=>x.seats.length) Sg.out;simp only [qa.v,zg,qa.qX,List.length_map] at h1;have:=Zc.out;omega
     have C9:=KU.out w9 e9 s9.at' hq;have La:Hid ((Tryz.prog.info? 35).map (·.size)=some [Value.slice e9.aS e9.seats.length e9.cS,.int .i64 e9.hand].length):=by rw [Hid];kernel_rfl
     have r9:=Wn.out w9 e9 s9.at';have VW:Hid (jF e.v n=(e9.v,qy (e9.seats.map qb.v) n)):=by
      rw [Hid,Kv.out,if_pos (by first | exact ⟨rfl,hdi⟩ | exact ⟨trivial,hdi⟩),← Sg.out];rfl
     clear Kv KU Zc s9 S8 mo hdi;go_wp2_with (first | (guard_target=wpList _ _ _ (Oper.mk (some 50) _ _ _ _ _::_) _ _;refine wpList_load_mid rfl 35 (.tmp 49) rfl E 136 rfl _ _ r9 Tryz.underlying35 rfl La.out ?_) | fail);refine C9.mono ?_;rintro r Q4 ⟨rfl,zn⟩;go_wp2;go_ret;exact ⟨e9,_,rfl,VW,I9,S9.below zn⟩
    ·have hdf:old.dirty=false:=by simpa using hdi
     rw [hdf] at d8;have C9:=KU.out W8 _ S8.at' Zc.out;have r9:=Wn.out W8 _ S8.at';have VW:Hid (jF e.v n=((e.qX ts a' c' hand').v,qy (ts.map qb.v) n)):=by
      rw [Hid,Kv.out,if_neg (fun hh=>hdi hh.2)];rfl
     clear Kv KU Zc mo hdi hdf yA mq r8;go_wp2_with (first | (guard_target=wpList _ _ _ (Oper.mk (some 50) _ _ _ _ _::_) _ _;refine wpList_load_mid rfl 35 (.tmp 49) rfl E 136 rfl _ _ r9 Tryz.underlying35 rfl NA.out ?_) | fail);refine C9.mono ?_;rintro r Q4 ⟨rfl,zn⟩;go_wp2;go_ret;exact ⟨_,_,rfl,VW,rfl,S8.below zn⟩
   ·have hwf:went=false:=by simpa using hw
    subst hwf;have C9:=KU.out W8 _ S8.at' Zc.out;have r9:=Wn.out W8 _ S8.at';have VW:Hid (jF e.v n=((e.qX ts a' c' hand').v,qy (ts.map qb.v) n)):=by
     rw [Hid,Kv.out,if_neg (fun hh=>by cases hh.1)];rfl
    clear Kv KU Zc mo yA mq r8 d8;go_wp2_with (first | (guard_target=wpList _ _ _ (Oper.mk (some 50) _ _ _ _ _::_) _ _;refine wpList_load_mid rfl 35 (.tmp 49) rfl E 136 rfl _ _ r9 Tryz.underlying35 rfl NA.out ?_) | fail);refine C9.mono ?_;rintro r Q4 ⟨rfl,zn⟩;go_wp2;go_ret;exact ⟨_,_,rfl,VW,rfl,S8.below zn⟩
  ·obtain ⟨V6,hV6,b6',Lb,hs6⟩:=qx w1 qc.cells 167;have Lc:Hid (w1.alloc (.cells #[.int .i64 0,.int .i64 0,.bool false,.int .i64 0,.slice none 0 0,.slice none 0 0,.bool false,.int .i64 0,.slice none 0 0,.slice none 0 0,.bool false,.int .i64 0,.slice none 0 0,.slice none 0 0,.bool false,.int .i64 0,.slice none 0 0,.slice none 0 0,.bool false,.bool false] 167)=V6):=hV6.out;obtain ⟨W6,Yn⟩:∃ W6,Hid (V6.drew=W6):=⟨_,rfl⟩;go_simp;rw [Lc.out,Yn.out];have b6:Box W6 w1.heap.size qc.cells 167:=by rw [← Yn.out];exact b6'.drewN 1
   have N6:Below w1.heap.size w1 W6:=by rw [← Yn.out];exact Lb.drew
   have aP:=a1.below N6;have eB:=a1.new (Nat.le_refl w1.heap.size);refine hK.out _ _ (⟨jR.out _ _ aP rfl,trivial⟩) (fun hHeld=>?_);clear hK K hV6 Lc Yn b6' Lb hs6;try simp only [zz]
   have pP:=aP.Sb;rw [Bw] at pP;have C5:=UK 0 W6.heap.size E 136 e.cells TE e.aS e.cS e.seats hd n pg W6 pP (Nat.zero_le _) hlen Gg h4 (XY.out _ aP) hfit;clear pP;refine wpAnyH_ready (rs:=[10]) (by kernel_rfl) (by simp) ?_;refine AllReadyH.cons rfl (fun K hK=>?_) AllReadyH.nil;go_simp;refine C5.mono ?_;clear C5;rintro r w5 ⟨ts,a',c',hand',old,went,rfl,hbv,br⟩;have s5:=br.step aP;have oJ:Hid (∀ j∈old.blocks,j≠E∧j<w1.heap.size):=fun j hj=>⟨fun e1=>h.off (qa.wW (by rw [← e1];exact br.wentB j hj)),a1.lt j (qa.wW (br.wentB j hj))⟩
   have Sc:=br.went;have q5:=jR.out _ _ s5.at' rfl;have hs5:=s5.size;have Yh:=s5.boxes b6 eB;have oK:=s5.off b6.lt eB;refine hK.out _ _ (⟨q5,trivial⟩) (fun hHeld=>?_);clear hK K;try simp only [zz]
   refine tr 11 (.tuple #[.agg old.cells.toArray,.bool went]) ?_;refine tr 12 (.agg old.cells.toArray) ?_;refine tr 13 (.bool went) ?_;obtain ⟨W8,Sd,hw8,lJ,mi,_,bo⟩:=kg old _ rfl Yh;have s51:yH E e w1 (e.qX ts a' c' hand') w5:=q8.after N6 s5;have S8:yH E e w (e.qX ts a' c' hand') W8:=q8.after hb1 (q8.put s51 hw8 oK (Nat.le_refl _));have tX:Touch [w1.heap.size] w5 W8:=⟨hw8.os,hw8.tape,hw8.output,hw8.size,fun j hj hn=>hw8.block j hj (fun hh=>hn (by simp;omega))⟩;have mo:old.own W8 0 w5.heap.size:=Sc.touch tX (fun j hj hk=>by have:=(oJ.out j hj).2;have:=List.mem_singleton.1 hk;omega);have gy:Hid (W8.rangeAt w1.heap.size 0 old.cells):=Box.range [] old.cells [] (by simpa using bo);have Ny:Hid (w5.setCells w1.heap.size 0 old.cells.toArray.toList=W8):=Sd.out;refine wpAnyH_ready (rs:=[15]) (by kernel_rfl) (by simp) ?_;refine AllReadyH.cons rfl (fun K hK=>?_) AllReadyH.nil;rw [if_pos (by rfl)];refine wp_store_mid 167 (.tmp 6) (.tmp 37) rfl w1.heap.size 0 old.cells.toArray rfl rfl mi.out (jI old) (ko old) ?_;rw [Ny.out];refine hK.out _ _ (⟨jR.out _ _ S8.at' rfl,trivial⟩) (fun hHeld=>?_);clear hK K;try simp only [Act.put,zA,zB,zC]
   refine tr 16 (.bool went) ?_;refine wpAnyH_done (by kernel_rfl) ?_ _;clear Ny Sd hw8 lJ mi b6 Yh s5 s51 q5 br aP Sc ND tX oK eB N6;generalize w1.heap.size=X at*
   have r8:=gy.out;have d8:=bo.cell 18 _ (show old.cells[18]? =some (.bool old.dirty) from rfl);have Kv:Hid (jF e.v n=((if went=true∧old.v.dirty=true then zg (e.qX ts a' c' hand').v old.v else (e.qX ts a' c' hand').v),qy (if went=true∧old.v.dirty=true then zg (e.qX ts a' c' hand').v old.v else (e.qX ts a' c' hand').v).seats n)):=by
    rw [Hid,jF,if_neg (by rw [show e.v.seats=e.seats.map qb.v from rfl,I8.out];omega)];have e1:e.v.seats=e.seats.map qb.v:=rfl;have e2:e.v.hand.toNat=hd:=by rw [hhd];rfl
    have e3:e.v.disk.getD n (0,[])=(pg.lsn,pg.ss.map (·.v)):=VQ.out;simp only [e1,e2,e3,hbv.out];rfl
   have KU:Hid (∀ u (e1:qa),wH u E e1→e1.seats.length≤3→Calls Tryz.prog 155 #[.agg #[.slice e1.aS e1.seats.length e1.cS,.int .i64 e1.hand],.int .i64 n] u fun r w'=>r=.returned (.int .i64 (qy (e1.seats.map qb.v) n))∧Below u.heap.size u w'):=fun u e1 hu hl1=>JX e1.aS e1.cS e1.seats e1.hand n u hu.own.pool.reads (by omega)
   have Zc:Hid (ts.length≤3):=by
    have h1:=Yb (e.seats.map qb.v) hd ⟨n,pg.lsn,pg.ss.map (·.v),false,true⟩ (by rw [List.length_map];exact hlen);rw [hbv.out] at h1;rw [Hid]
    simpa using h1
   have yA:Hid (went=true→∃ m:Nat,old.no=m∧m<8∧Fit old.ss):=fun hwt=>by
    have h1:=Kn (e.seats.map qb.v) hd ⟨n,pg.lsn,pg.ss.map (·.v),false,true⟩ (by rw [hbv.out];exact hwt) Gg;rw [hbv.out] at h1;obtain ⟨s0,hs0,e1,e2⟩:=h1;obtain ⟨m,hm,Nz⟩:=hp.nos s0 hs0;exact ⟨m,by rw [← hm,← e1];rfl,Nz,VR (by have:=hp.fitS s0 hs0;rw [← e2] at this;exact this)⟩
   have mq:Hid (∀ u,Touch [E] W8 u→old.reads u):=fun u hu=>(mo.touch hu (fun j hj hk=>(oJ.out j hj).1 (List.mem_singleton.1 hk))).reads
   have NA:Hid ((Tryz.prog.info? 35).map (·.size)=some [Value.slice a' ts.length c',.int .i64 (hand':Int)].length):=by rw [Hid];kernel_rfl
   have Wn:Hid (∀ u (e1:qa),wH u E e1→u.rangeAt E 136 [.slice e1.aS e1.seats.length e1.cS,.int .i64 e1.hand]):=I7;clear gy hHeld bo;by_cases hw:went=true
   ·subst hw;by_cases hdi:old.dirty=true
    ·rw [hdi] at d8;obtain ⟨m,hm,Nz,hfit⟩:=yA.out rfl;have C7:=UJ E (e.qX ts a' c' hand') old W8 S8.at' m hm Nz mq.out hfit;clear yA mq hm;go_wp2_with (first | (guard_target=wpList _ _ _ (Oper.mk (some 45) _ _ _ _ _::_) _ _;refine wpList_load_mid rfl 167 (.tmp 6) rfl X 0 rfl old.cells _ r8 Tryz.underlying167 rfl (jI old) ?_) | fail);refine C7.mono ?_;clear C7 d8 r8;rintro r w9 ⟨⟨v9,rfl⟩,e9,Sg,I9,s9⟩;have S9:=S8.trans s9;have hq:e9.seats.length≤3:=by
      have h1:=congrArg (fun x:ji=>x.seats.length) Sg.out;simp only [qa.v,zg,qa.qX,List.length_map] at h1;have:=Zc.out;omega
     have C9:=KU.out w9 e9 s9.at' hq;have La:Hid ((Tryz.prog.info? 35).map (·.size)=some [Value.slice e9.aS e9.seats.length e9.cS,.int .i64 e9.hand].length):=by rw [Hid];kernel_rfl
     have r9:=Wn.out w9 e9 s9.at';have VW:Hid (jF e.v n=(e9.v,qy (e9.seats.map qb.v) n)):=by
      rw [Hid,Kv.out,if_pos (by first | exact ⟨rfl,hdi⟩ | exact ⟨trivial,hdi⟩),← Sg.out];rfl
     clear Kv KU Zc s9 S8 mo hdi;go_wp2_with (first | (guard_target=wpList _ _ _ (Oper.mk (some 50) _ _ _ _ _::_) _ _;refine wpList_load_mid rfl 35 (.tmp 49) rfl E 136 rfl _ _ r9 Tryz.underlying35 rfl La.out ?_) | fail);refine C9.mono ?_;rintro r Q4 ⟨rfl,zn⟩;go_wp2;go_ret;exact ⟨e9,_,rfl,VW,I9,S9.below zn⟩
    ·have hdf:old.dirty=false:=by simpa using hdi
     rw [hdf] at d8;have C9:=KU.out W8 _ S8.at' Zc.out;have r9:=Wn.out W8 _ S8.at';have VW:Hid (jF e.v n=((e.qX ts a' c' hand').v,qy (ts.map qb.v) n)):=by
      rw [Hid,Kv.out,if_neg (fun hh=>hdi hh.2)];rfl
     clear Kv KU Zc mo hdi hdf yA mq r8;go_wp2_with (first | (guard_target=wpList _ _ _ (Oper.mk (some 50) _ _ _ _ _::_) _ _;refine wpList_load_mid rfl 35 (.tmp 49) rfl E 136 rfl _ _ r9 Tryz.underlying35 rfl NA.out ?_) | fail);refine C9.mono ?_;rintro r Q4 ⟨rfl,zn⟩;go_wp2;go_ret;exact ⟨_,_,rfl,VW,rfl,S8.below zn⟩
   ·have hwf:went=false:=by simpa using hw
    subst hwf;have C9:=KU.out W8 _ S8.at' Zc.out;have r9:=Wn.out W8 _ S8.at';have VW:Hid (jF e.v n=((e.qX ts a' c' hand').v,qy (ts.map qb.v) n)):=by
     rw [Hid,Kv.out,if_neg (fun hh=>by cases hh.1)];rfl
    clear Kv KU Zc mo yA mq r8 d8;go_wp2_with (first | (guard_target=wpList _ _ _ (Oper.mk (some 50) _ _ _ _ _::_) _ _;refine wpList_load_mid rfl 35 (.tmp 49) rfl E 136 rfl _ _ r9 Tryz.underlying35 rfl NA.out ?_) | fail);refine C9.mono ?_;rintro r Q4 ⟨rfl,zn⟩;go_wp2;go_ret;exact ⟨_,_,rfl,VW,rfl,S8.below zn⟩
 ·have HF:Hid (jF e.v n=({ e.v with seats:=(e.seats.map qb.v).set k (aj (e.seats.getD k qc).v) },(k:Int))):=by
   have e1:e.v.seats=e.seats.map qb.v:=rfl;rw [Hid,jF,e1,hs,if_pos (by omega),Int.toNat_natCast,jZ]
  rw [List.length_map] at hk;obtain ⟨g,W,hg,I6,hW,hf,hr,st,tW,qp⟩:=a1.AO k hk { (e.seats.getD k qc) with hot:=true } 19 (.bool true) (by omega) rfl rfl;have x0:w1.cell? ⟨E,136,none⟩=some (.slice (some ⟨g,0,none⟩) e.seats.length e.cS):=by rw [← hg];exact qa.vV a1.shape a1.box 0 _ rfl
  have x1:=hr 19 _ rfl;have f1:=hf (k*20+19);have hkk:(k:Int)<(e.seats.length:Int):=by omega
  have hk0:(0:Int)≤(k:Int):=by omega
  have HS:Hid (∃ (e':qa) (k':Int),Ending.returned (.int .i64 (k:Int))=.returned (.int .i64 k')∧Hid (jF e.v n=(e'.v,k'))∧Hid (e'.log.recs=e.log.recs)∧yH E e w e' W):=by
   refine ⟨_,k,rfl,?_,?_,q8.after hb1 st⟩;rotate_left
   ·rfl
   rw [Hid,HF.out];simp only [qa.v,qa.qX,List.map_set];rfl
  have hs':qy (e.seats.map qb.v) n=(k:Int):=hs;clear hs hg hr hf tW qp st HF;rw [hs'];clear hs' hno;go_wp2_with fail;rw [hW.out];go_ret;exact HS.out
end Go.Proofs.YtjkckhfddgeboaaGreatDoor
namespace Go.Proofs.YtjkckhfddgeboaaGreatDoor
open Go.RowKit
end Go.Proofs.YtjkckhfddgeboaaGreatDoor
namespace Go.Proofs.YtjkckhfddgeboaaGreatDoor
open Go.RowKit
attribute [local go_sem ↓] Go.wp_at_zero Go.wp_at_succ
structure J5 (E:Nat) (e:qa) (Q:List Nat) (w:World) (e':qa) (w':World):Prop where
 at':wH w' E e'
 touch:Touch (E::(e.blocks++Q)) w w'
 fresh:∀ k∈e'.blocks,k∈e.blocks∨k∈Q∨w.heap.size≤k
theorem J5.then {E:Nat} {Q:List Nat} {e e1 e2:qa} {w w1 w2:World} (m:J5 E e Q w e1 w1) (s:yH E e1 w1 e2 w2):J5 E e Q w e2 w2:=by
 refine ⟨s.at',⟨s.touch.os.trans m.touch.os,s.touch.tape.trans m.touch.tape,s.touch.output.trans m.touch.output,Nat.le_trans m.touch.size s.size,fun k hk hn=>?_⟩,fun k hk=>?_⟩
 ·have hn1:k∉E::e1.blocks:=fun h=>by
   rcases List.mem_cons.1 h with h | h
   ·exact hn (by simp [h])
   ·rcases m.fresh k h with h | h | h
    ·exact hn (List.mem_cons_of_mem _ (List.mem_append.2 (.inl h)))
    ·exact hn (List.mem_cons_of_mem _ (List.mem_append.2 (.inr h)))
    ·omega
  exact (s.touch.block k (Nat.lt_of_lt_of_le hk m.touch.size) hn1).trans (m.touch.block k hk hn)
 ·rcases s.fresh k hk with h | h
  ·exact m.fresh k h
  ·exact .inr (.inr (Nat.le_trans m.touch.size h))
theorem J5.step {E:Nat} {Q:List Nat} {e0 e e':qa} {w0 w w':World} (s:yH E e0 w0 e w) (m:J5 E e Q w e' w') (hQ:∀ k∈Q,w0.heap.size≤k):yH E e0 w0 e' w':=by
 refine ⟨m.at',⟨m.touch.os.trans s.touch.os,m.touch.tape.trans s.touch.tape,m.touch.output.trans s.touch.output,Nat.le_trans s.size m.touch.size,fun k hk hn=>?_⟩,fun k hk=>?_⟩
 ·have hn1:k∉E::(e.blocks++Q):=fun h=>by
   rcases List.mem_cons.1 h with h | h
   ·exact hn (by simp [h])
   ·rcases List.mem_append.1 h with h | h
    ·rcases s.fresh k h with h | h
     ·exact hn (List.mem_cons_of_mem _ h)
     ·omega
    ·have:=hQ k h;omega
  exact (m.touch.block k (Nat.lt_of_lt_of_le hk s.size) hn1).trans (s.touch.block k hk hn)
 ·rcases m.fresh k hk with h | h | h
  ·exact s.fresh k h
  ·exact .inr (hQ k h)
  ·exact .inr (Nat.le_trans s.size h)
theorem J5.off {E B:Nat} {Q:List Nat} {e e':qa} {w w':World} (m:J5 E e Q w e' w') (hB:B<w.heap.size) (ho:Off E e B) (hQ:B∉Q):Off E e' B:=
 ⟨ho.1,fun hk=>(m.fresh B hk).elim ho.2 (fun h=>h.elim hQ (fun h=>by omega))⟩
end Go.Proofs.YtjkckhfddgeboaaGreatDoor
namespace Go.Proofs.YtjkckhfddgeboaaGreatDoor
open Go.RowKit
attribute [local go_sem ↓] Go.wp_at_zero Go.wp_at_succ
end Go.Proofs.YtjkckhfddgeboaaGreatDoor
namespace Go.Proofs.YtjkckhfddgeboaaGreatDoor
open Go.RowKit
attribute [local go_sem ↓] Go.wp_at_zero Go.wp_at_succ
end Go.Proofs.YtjkckhfddgeboaaGreatDoor
namespace Go.Proofs.YtjkckhfddgeboaaGreatDoor
open Go.RowKit
theorem Si (w:World):OwnL (w.alloc (.cells #[] 118)) w.heap.size (w.heap.size+1) (some ⟨w.heap.size,0,none⟩) 0 []:=
 ⟨World.ownsRow_lit w #[] 0 (Nat.le_refl _) (by simp [maxLen]) rfl,by simp,fun k hk=>by cases hk;simp⟩
theorem Sj (w:World):OwnH (w.alloc (.cells #[] 185)) w.heap.size (w.heap.size+1) (some ⟨w.heap.size,0,none⟩) 0 []:=
 ⟨World.ownsRow_lit w #[] 0 (Nat.le_refl _) (by simp [maxLen]) rfl,by simp,fun k hk=>by cases hk;simp⟩
theorem NB {w u v:World} {n:Nat} {row:Option Nat} (hb:Below n w u) (hg:u.grownBy v row) (hr:∀ k,row=some k→n≤k) (hn:n≤u.heap.size):Below n w v:=
 ⟨hg.os.trans hb.os,hg.tape.trans hb.tape,hg.output.trans hb.output,Nat.le_trans hb.size hg.size,fun k hk=>(hg.block k (by omega) (fun e=>by have:=hr k e.symm;omega)).trans (hb.block k hk)⟩
def yl (ms:List qW):Nat→List qJ
 | 0=>[]
 | k+1=>yl ms k++(match yo ((k:Int)+1) ms with | some c=>[⟨c.tx,(k:Int)+1⟩] | none=>[])
theorem Sk (ms:List qW) (k:Nat):(yl ms k).length≤k:=by
 induction k with
 | zero=>simp [yl]
 | succ k ih=>rw [yl,List.length_append];split<;>simp<;>omega
theorem VX {ms:List qW} {k:Nat} {c:qW} (h:yo ((k:Int)+1) ms=some c):yl ms (k+1)=yl ms k++[⟨c.tx,(k:Int)+1⟩]:=by rw [yl,h]
theorem Wo {ms:List qW} {k:Nat} (h:yo ((k:Int)+1) ms=none):yl ms (k+1)=yl ms k:=by rw [yl,h,List.append_nil]
theorem Wp {ms:List qW} {k:Int} {c:qW} (h:yo k ms=some c):kW k ms=c:=by rw [kW,h];rfl
theorem Sl (R M:Nat) (cs:List Value) (n:Int) (ms:List qW) (w:World) (b:Box w R (wm cs M n) 140) (hcs:cs.length=144) (hm:MapAt w M ms) (hb:∀ k,0≤(kW k ms).place∧(kW k ms).place≤1099511627776):
  Calls Tryz.prog 181 #[.pointer (some ⟨R,0,none⟩)] w fun r w'=>∃ (hs:List qJ) (a:Option Addr) (c:Nat),r=.returned (.slice a hs.length c)∧Hid (hs.Perm (yl ms 31)∧hs.Pairwise (fun a b=>¬ (kW b.oid ms).place<(kW a.oid ms).place))∧OwnH w' w.heap.size w'.heap.size a c hs∧Below w.heap.size w w':=by
 obtain ⟨W,hW,b0,hbW,qp⟩:=qx w [.pointer (some ⟨R,0,none⟩)] 121;have hRl:=b.lt;have hMl:=hm.lt;have HF:Hid (∀ u,Below W.heap.size W u→u.cell? ⟨w.heap.size,0,none⟩=some (.pointer (some ⟨R,0,none⟩))∧u.cell? ⟨R,144,none⟩=some (.map (some M))∧MapAt u M ms):=fun u hu=>by
  have n0:=hbW.trans (hu.mono hbW.size);exact ⟨(b0.below hu b0.lt).cell 0 _ rfl,(b.below n0 b.lt).cell 144 _ (by rw [wm,List.getElem?_append_right (by omega),hcs];rfl),hm.below n0⟩
 have qR:Hid (∀ u,Below W.heap.size W u→Below w.heap.size w u):=fun u hu=>hbW.trans (hu.mono hbW.size)
 have hw0:w.heap.size<W.heap.size:=by omega
 have HB:Hid (∀ k,0≤(kW k ms).place∧(kW k ms).place≤1099511627776):=hb;clear b0 qp hb b hm hbW;go_enter Tryz.func181,Tryz.ntmps181;go_wp2_with fail;rw [hW.out];clear hW;go_loopw [3,4,5,6] (fun s i _ _ wr=>∃ (k:Nat) (a:Option Addr) (c:Nat),k≤31∧i=.int .i64 ((k:Int)+1)∧s=.slice a (yl ms k).length c∧OwnH wr W.heap.size wr.heap.size a c (yl ms k)∧Below W.heap.size W wr) (fun _ i _ _ _=>32-(intOf i).toNat)
 case atStart=>exact ⟨0,none,0,Nat.zero_le _,rfl,rfl,U7 _ _ _ (Nat.le_refl _),Below.refl _ _⟩
 case round=>
  obtain ⟨k,a,c,hk,rfl,rfl,ho,hN⟩:=hrel;have hlen:=Sk ms k;obtain ⟨f0,f1,f2⟩:=HF.out _ hN;by_cases hlt:k<31
  ·have hki:(k:Int)+1≤31:=by omega
   have hlk:=Zv f2 ((k:Int)+1) true;cases hgc:yo ((k:Int)+1) ms with
   | none=>
    have HL:Hid (yl ms (k+1)=yl ms k):=Wo hgc;have HAT:Hid (kW ((k:Int)+1) ms=⟨(k:Int)+1,0,0⟩):=by rw [Hid,kW,hgc];rfl
    rw [hgc,HAT.out] at hlk;have wB:Below wr.heap.size wr (wr.alloc (.cells #[.int .i64 0,.int .i64 0] 200)):=(Below.refl _ _).alloc (Nat.le_refl _) _;have HN:Hid (Below W.heap.size W (wr.alloc (.cells #[.int .i64 0,.int .i64 0] 200))∧OwnH (wr.alloc (.cells #[.int .i64 0,.int .i64 0] 200)) W.heap.size (wr.alloc (.cells #[.int .i64 0,.int .i64 0] 200)).heap.size a c (yl ms k)):=⟨hN.trans (wB.mono hN.size),(ho.below wB).widen (Nat.le_refl _) wB.size (Nat.le_refl _)⟩;clear wB;go_wp2_with fail;go_roundw
    case rel=>exact ⟨k+1,a,c,by omega,by go_num,by rw [HL.out],by rw [HL.out];exact HN.out.2,HN.out.1⟩
    case measure=>simp [intOf];omega
   | some m=>
    have HL:Hid (yl ms (k+1)=yl ms k++[⟨m.tx,(k:Int)+1⟩]):=VX hgc;have HAT:Hid (kW ((k:Int)+1) ms=m):=Wp hgc;rw [hgc,HAT.out] at hlk;obtain ⟨V,hV,bV,wB,Xu⟩:=qx wr [.int .i64 m.tx,.int .i64 m.place] 200;have N1:Below W.heap.size W V:=hN.trans (wB.mono hN.size);have ho1:=(ho.below wB).widen (Nat.le_refl _) wB.size (Nat.le_refl _);have x0:=bV.cell 0 _ rfl;have zV:=N1.size;have ho2:=ho1.below ((Below.refl _ _).alloc (Nat.le_refl _) (.cells #[.int .i64 m.tx,.int .i64 ((k:Int)+1)] 185));go_upto_region 7 with fail;rw [hV.out];clear hV bV wB Xu f0 f1 f2 hlk hgc ho HAT;go_wp2_with (at_builtin;refine Vs rfl _ _ rfl W.heap.size V.heap.size a c (yl ms k) rfl ho2 _ _ [⟨m.tx,(k:Int)+1⟩] rfl (BK V ⟨m.tx,(k:Int)+1⟩ _) (fun h=>by cases h) (by simp;omega) (by simp;omega) ?_;intro a3 c3 y3 w3 hy3 ho3 hg3);have HY:Hid (y3=yl ms (k+1)):=by rw [Hid,hy3.out,HL.out]
    have HN:Hid (Below W.heap.size W w3):=NB (N1.trans ((Below.refl _ _).alloc zV _)) hg3 (fun j hj=>(ho1.lt j hj).1) (by simp;omega);clear hy3 hg3 ho1 ho2 N1;go_roundw
    case rel=>exact ⟨k+1,a3,c3,by omega,by go_num,by rw [HY.out],by rw [← HY.out];exact ho3,HN.out⟩
    case measure=>simp [intOf];omega
  ·obtain rfl:k=31:=by omega
   have hki:¬ ((31:Nat):Int)+1≤31:=by omega
   generalize hL:yl ms 31=L at*
   cases a with
   | none=>
    have hnl:L=[]:=by
     rcases ho.1.2 with ⟨_,h0⟩ | ⟨g,cap,cur,hv,_⟩
     ·exact List.length_eq_zero_iff.1 h0
     ·cases hv
    subst hnl;have hc0:c=0:=ho.XZ rfl;subst hc0;have C:=BH (.func (.func 258) #[] #[.pointer (some ⟨w.heap.size,0,none⟩)]) wr;have HE:Hid (_):=qR.out _ hN;go_wp2_with fail;refine C.mono ?_;rintro r w' ⟨rfl,rfl⟩;go_wp2;go_ret;exact ⟨[],none,0,rfl,⟨by simp,by simp⟩,U7 _ _ _ (Nat.le_refl _),HE.out⟩
   | some ad=>
    obtain ⟨g,rfl⟩:∃ g,ad=⟨g,0,none⟩:=by
     rcases ho.1.2 with ⟨hv,_⟩ | ⟨g,cap,cur,hv,_⟩
     ·cases hv
     ·simp only [Value.slice.injEq,Option.some.injEq] at hv;exact ⟨g,hv.1⟩
    have hgl:=ho.lt g rfl;have C:=R7 w.heap.size R M g c W.heap.size ms L wr f0 f1 f2 (by omega) (by omega) (by omega) HB.out ho (by omega);go_wp2_with fail;refine C.mono ?_;clear C;rintro r w' ⟨rfl,ts,HP,ot,hg⟩;have HE:Hid (Below w.heap.size w w'∧OwnH w' w.heap.size w'.heap.size (some ⟨g,0,none⟩) c ts):=⟨qR.out _ (hN.grown hg hN.size (fun j hj=>by cases hj;omega)),ot.widen (by omega) (Nat.le_refl _) (Nat.le_refl _)⟩;have ZL:Hid (ts.length=L.length):=HP.out.1.length_eq;rw [← ZL.out];clear hg ot ho f0 f1 f2;go_wp2;go_ret;exact ⟨ts,_,c,rfl,HP,HE.out.2,HE.out.1⟩
theorem KH {B:Nat} {w w':World} (h:Within B (B+1) w w'):Touch [B] w w':=⟨h.os,h.tape,h.output,h.size,fun k hk hn=>h.block k hk (fun hh=>hn (List.mem_singleton.2 (by omega)))⟩
theorem Sm {w:World} {e:qa} {lo hi m:Nat} {hs:List qJ} {a:Option Addr} {c:Nat} (h:e.own w lo hi) (ho:OwnH w m w.heap.size a c hs) (h1:lo≤hi) (h2:hi≤m) (h3:m≤w.heap.size):({ e with holds:=hs,aH:=a,cH:=c }:qa).own w lo w.heap.size:=by
 refine ⟨h.disk.widen (Nat.le_refl _) (by omega) (Nat.le_refl _),h.pool.widen (Nat.le_refl _) (by omega) (Nat.le_refl _),h.log.widen (Nat.le_refl _) (by omega) (Nat.le_refl _),h.txs.widen (Nat.le_refl _) (by omega) (Nat.le_refl _),ho.widen (by omega) (Nat.le_refl _) (Nat.le_refl _),?_⟩;have hb:=h.ql;have ap:=h.apart;simp only [qa.blocks,List.mem_append] at hb;simp only [qa.blocks,List.nodup_append,List.mem_append] at ap;simp only [qa.blocks,List.nodup_append,List.mem_append];obtain ⟨a1,⟨a2,⟨a3,⟨a4,_,_⟩,a5⟩,a6⟩,a7⟩:=ap;have nr:∀ o:Option Nat,o.toList.Nodup:=fun o=>by cases o<;>simp
 have hn:∀ k∈rowOf a hs.length c,m≤k:=fun k hk=>(ho.lt k (Option.mem_toList.1 hk)).1
 refine ⟨a1,⟨a2,⟨a3,⟨a4,nr _,fun x hx y hy q=>?_⟩,fun x hx y hy=>?_⟩,fun x hx y hy=>?_⟩,fun x hx y hy=>?_⟩
 ·have:=hb x (.inr (.inr (.inr (.inl hx))));have:=hn y hy;omega
 ·rcases hy with hy | hy
  ·exact a5 x hx y (.inl hy)
  ·have:=hb x (.inr (.inr (.inl hx)));have:=hn y hy;omega
 ·rcases hy with hy | hy | hy
  ·exact a6 x hx y (.inl hy)
  ·exact a6 x hx y (.inr (.inl hy))
  ·have:=hb x (.inr (.inl hx));have:=hn y hy;omega
 ·rcases hy with hy | hy | hy | hy
  ·exact a7 x hx y (.inl hy)
  ·exact a7 x hx y (.inr (.inl hy))
  ·exact a7 x hx y (.inr (.inr (.inl hy)))
  ·have:=hb x (.inl hx);have:=hn y hy;omega
theorem Sn (R M:Nat) (e:qa) (se:e.shape) (n:Int) (ms:List qW) (w:World) (lo hi:Nat) (b:Box w R (wm e.cells M n) 140) (hm:MapAt w M ms) (hb:∀ k,0≤(kW k ms).place∧(kW k ms).place≤1099511627776) (own:e.own w lo hi) (hR:R∉e.blocks) (h1:lo≤hi) (h2:hi≤w.heap.size):
  Calls Tryz.prog 79 #[.pointer (some ⟨R,0,none⟩)] w fun r w'=>∃ (hs:List qJ) (a:Option Addr) (c:Nat),r=.returned (.agg ({ e with holds:=hs,aH:=a,cH:=c }:qa).cells.toArray)∧Hid (hs.Perm (yl ms 31)∧hs.Pairwise (fun a b=>¬ (kW b.oid ms).place<(kW a.oid ms).place))∧({ e with holds:=hs,aH:=a,cH:=c }:qa).own w' lo w'.heap.size∧Touch [R] w w'∧Hid (∀ k∈rowOf a hs.length c,w.heap.size≤k):=by
 obtain ⟨Z,hZ⟩:∃ Z,Hid (zeroE=Z):=⟨_,rfl⟩;have sZ:Z.shape:=by rw [← hZ.out];exact yM
 have HZ:=Tryz.JV;rw [hZ.out] at HZ;have hRl:=b.lt;obtain ⟨W,hW,bZ,hbW,qp⟩:=qx w Z.cells 42;have b1:=b.below hbW b.lt;have Ld:=own.below hbW;have zW:=hbW.size;have hlZ:=bZ.lt;have C:=Sl R M e.cells n ms W b1 (qa.xR se) (hm.below hbW) hb;have HA:Hid ((qj e.disk).length=136):=qa.xx se;clear b hm hb qp own;go_enter Tryz.func79,Tryz.ntmps79;go_wp2_with (first | (guard_target=wpList _ _ _ (Oper.mk _ (Op.alloc _) _ _ _ _::_) _ _;refine z8 42 Z.cells HZ ?_) | fail);rw [hW.out];clear hW;refine C.mono ?_;clear C;rintro r w1 ⟨hs,a,c,rfl,HP,oh,hb1⟩;have z1:=hb1.size;replace b1:=b1.below hb1 b1.lt;have b2:Box w1 R (qj e.disk++[.slice e.aS e.seats.length e.cS,.int .i64 e.hand,.slice e.log.a e.log.recs.length e.log.c,.int .i64 e.log.sure,.slice e.aT e.txs.length e.cT,.slice e.aH e.holds.length e.cH,.int .i64 e.next,.bool e.down,.map (some M),.int .i64 n]) 140:=by unfold wm qa.cells at b1;rw [List.append_assoc] at b1;exact b1
 have Le:=Ld.below hb1;have bZ2:=bZ.below hb1 bZ.lt;have f0:=b2.frozen 141;have x0:=b2.cell 141 (.slice e.aH e.holds.length e.cH) (by rw [List.getElem?_append_right (by rw [HA.out];omega),HA.out];rfl);obtain ⟨w2,h2',c2,t2,s2⟩:=uZ b2 HA.out 5 (.slice a hs.length c);have z2:=t2.size;obtain ⟨T,hT⟩:∃ T:qa,Hid (({ e with holds:=hs,aH:=a,cH:=c }:qa)=T):=⟨_,rfl⟩;have sT:T.shape:=by rw [← hT.out];exact ⟨se.eight,se.four⟩
 have c3:Box w2 R ([]++(T.cells++[.map (some M),.int .i64 n])) 140:=by
  rw [← hT.out,List.nil_append,qa.cells,List.append_assoc];exact c2
 have rT:w2.rangeAt R 0 T.cells:=Box.range [] T.cells _ c3;have eD:e.own w2 lo hi:=Le.touch (KH t2) (fun k hk hm=>hR (by rw [← List.mem_singleton.1 hm];exact hk));have oL:OwnH w2 W.heap.size w2.heap.size a c hs:=(oh.within t2 (.inr (by omega))).widen (Nat.le_refl _) (by omega) (Nat.le_refl _);have oT:T.own w2 lo w2.heap.size:=by rw [← hT.out];exact Sm eD oL h1 (by omega) (by omega)
 have bZ3:=bZ2.within t2 (by omega);obtain ⟨WF,qF,hwF,qN,kz,bF⟩:=Qj sT sZ bZ3;have yG:Hid (_=_):=Xn sT bF;have fM:Touch [R] w w2:=(Touch.of_below (hbW.trans (hb1.mono hbW.size))).trans (KH t2);have qdN:Hid (∀ k∈rowOf a hs.length c,w.heap.size≤k):=fun k hk=>by have:=(oL.lt _ (Option.mem_toList.1 hk)).1;omega
 have qR:Hid (T.own WF lo WF.heap.size∧Touch [R] w WF):=⟨(oT.touch (KH hwF) (fun k hk hm=>?_)).widen (Nat.le_refl _) hwF.size (Nat.le_refl _),⟨hwF.os.trans fM.os,hwF.tape.trans fM.tape,hwF.output.trans fM.output,Nat.le_trans fM.size hwF.size,fun k hk hn=>(hwF.block k (by omega) (by omega)).trans (fM.block k hk hn)⟩⟩;rotate_left
 ·rw [List.mem_singleton.1 hm,← hT.out] at hk;simp only [qa.blocks,List.mem_append] at hk;have hb2:=eD.ql;simp only [qa.blocks,List.mem_append] at hb2;rcases hk with hk | hk | hk | hk | hk
  ·have:=hb2 _ (.inl hk);omega
  ·have:=hb2 _ (.inr (.inl hk));omega
  ·have:=hb2 _ (.inr (.inr (.inl hk)));omega
  ·have:=hb2 _ (.inr (.inr (.inr (.inl hk))));omega
  ·have:=(oL.lt _ (Option.mem_toList.1 hk)).1;omega
 have HI:=kI sT;have HO:=all_oneCell_toArray (JW T);have h2n:Hid (w1.setCell ⟨R,141,none⟩ (.slice a hs.length c)=w2):=h2'.out;clear h2' c2 c3 b1 b2 Ld Le eD oh oL oT bZ bZ2 bZ3 hwF qN bF t2 s2 fM hb1 hbW;go_upto_region 2 with fail;rw [h2n.out];clear h2n f0 x0;go_wp2_with (first | (guard_target=wpList _ _ _ (Oper.mk (some 12) _ _ _ _ _::_) _ _;refine wpList_load_mid rfl 42 (.tmp 11) rfl R 0 rfl (T.cells) _ rT Tryz.underlying42 rfl HI ?_) | (guard_target=wpList _ _ _ (Oper.mk none (Op.store _ (Operand.tmp 2) _) _ _ _ _::_) _ _;refine wpList_store_mid rfl 42 (.tmp 2) (.tmp 12) rfl w.heap.size 0 (T.cells).toArray rfl rfl kz.out (by rw [List.size_toArray];exact HI) HO ?_) | fail);rw [qF.out];exact bodyPost_ret (v:=.agg T.cells.toArray) (jk Tryz.results79 rfl yG.out) rfl ⟨hs,a,c,by rw [hT.out],HP,by rw [hT.out];exact qR.out.1,qR.out.2,qdN⟩
theorem Sq {P:Program} {w w':World} {m:Sem Value} {v:Value} (h:m.run P w=.ok v w'):(do let r ← m;pure (Next.value r):Sem Next).run P w=.ok (.value v) w':=by simp only [Sem.run_bind,h,Result.andThen_ok,Sem.run_pure]
theorem Ar (e:qa) (se:e.shape) (w:World) (re:e.reads w) (hl:e.short 1048576) (hc:e.KA):
  Calls Tryz.prog 75 #[.agg e.cells.toArray] w fun r w'=>∃ (t:qa) (M R:Nat),r=.returned (.pointer (some ⟨R,0,none⟩))∧t.shape∧Hid (t.v=e.v)∧t.own w' w.heap.size M∧M<R∧R<w'.heap.size∧w.heap.size≤M∧
   MapAt w' M (q9 e.holds e.holds.length)∧Box w' R (wm t.cells M (e.holds.length:Int)) 140∧Below w.heap.size w w':=by
 have CE:=fun u (hr:e.reads u)=>YZ e se u hr hl hc
 have hlh:=hl.holds;have HI:=kI se;obtain ⟨W,hW,b0,hbW,qp⟩:=qx w e.cells 42;have HB:Hid (∀ u,Below W.heap.size W u→Box u w.heap.size e.cells 42):=fun u hu=>b0.below hu b0.lt
 have HR:Hid (∀ u,Below W.heap.size W u→e.reads u):=fun u hu=>(re.below hbW).below hu
 have qR:Hid (∀ u,Below W.heap.size W u→Below w.heap.size w u):=fun u hu=>hbW.trans (hu.mono hbW.size)
 have hw0:w.heap.size<W.heap.size:=by omega
 have N:Below W.heap.size W W:=Below.refl _ _;clear b0 qp;have XA:Hid (∀ u,Below W.heap.size W u→Calls Tryz.prog 165 #[.slice e.aH e.holds.length e.cH] u fun r w'=>r=.returned (.map (some u.heap.size))∧MapAt w' u.heap.size (q9 e.holds e.holds.length)∧Below u.heap.size u w'):=fun u hu=>Vz e.aH e.cH e.holds u (HR.out _ hu).holds (by omega)
 have HS:Hid (∀ u,Below W.heap.size W u→(u.rangeAt w.heap.size 0 e.cells∧u.cell? ⟨w.heap.size,141,none⟩=some (.slice e.aH e.holds.length e.cH))):=fun u hu=>⟨Box.range [] e.cells [] (by simpa using HB.out u hu),(qH se (HB.out u hu)).2.2.2.2.1⟩
 clear re hl;go_enter Tryz.func75,Tryz.ntmps75;go_upto_region 1 with fail;rw [hW.out];clear hW;have D0:Below W.heap.size W W.drew:=N.drew;have C1:=CE W.drew (HR.out _ D0);refine wp_region_held_drew (S:=fun u=>(u.rangeAt w.heap.size 0 e.cells∧u.cell? ⟨w.heap.size,141,none⟩=some (.slice e.aH e.holds.length e.cH))) (by kernel_rfl) (HS.out _ D0) (fun hHeld=>?_);generalize W.drew=d0 at*
 refine Go.Proofs.YtjkckhfddgeboaaGreatDoor.ts 0 rfl (yieldsIf_load_mid (by rfl) _ _ rfl _ _ rfl (e.cells) _ (fun _ h=>h.1) Tryz.underlying42 rfl HI) ?_;refine tr 2 (.pointer (some ⟨w.heap.size,141,none⟩)) ?_;refine tk 3 (v:=.slice e.aH e.holds.length e.cH) rfl (Or.inl ⟨by rfl,?_⟩) hHeld ?_
 ·intro w' hSw;have hx:=hSw.2;go_simp<;>rfl
 try simp only [zz]
 refine tr 5 (.pointer (some ⟨w.heap.size,141,none⟩)) ?_;refine tk 6 (v:=.slice e.aH e.holds.length e.cH) rfl (Or.inl ⟨by rfl,?_⟩) hHeld ?_
 ·intro w' hSw;have hx:=hSw.2;go_simp<;>rfl
 try simp only [zz]
 refine tr 7 (.int .i64 (e.holds.length:Int)) ?_;refine wpAnyH_ready (rs:=[1]) (by kernel_rfl) (by simp) ?_;refine AllReadyH.cons rfl (fun K hK=>?_) AllReadyH.nil;go_simp;refine C1.mono ?_;clear C1;rintro r d1 ⟨t,rfl,st,hv,ot,hb1⟩;have D1:Below W.heap.size W d1:=D0.trans (hb1.mono D0.size);have z1:=hb1.size;have zd:=D0.size;refine hK.out _ _ (HS.out _ D1) (fun hHeld=>?_);clear hK K hb1;try simp only [zz]
 refine wpAnyH_ready (rs:=[4]) (by kernel_rfl) (by simp) ?_;refine AllReadyH.cons rfl (fun K hK=>?_) AllReadyH.nil;go_simp;refine (XA.out _ D1).mono ?_;rintro r d2 ⟨rfl,hm2,hb2⟩;have D2:Below W.heap.size W d2:=D1.trans (hb2.mono D1.size);have z2:=hb2.size;have hmL:=hm2.lt;replace ot:=ot.below hb2;refine hK.out _ _ (HS.out _ D2) (fun hHeld=>?_);clear hK K hb2;try simp only [zz]
 refine tk 8 (v:=.agg (wm t.cells d1.heap.size (e.holds.length:Int)).toArray) rfl (Or.inl ⟨by rfl,?_⟩) hHeld ?_
 ·intro w' hSw;have e8:=BI w' t st d1.heap.size (e.holds.length:Int);refine Sq ?_;simp only [List.map_toArray,List.map_cons,List.map_nil];exact e8
 try simp only [zz]
 obtain ⟨d3,hd3,bR,hb3,hs3⟩:=qx d2 (wm t.cells d1.heap.size (e.holds.length:Int)) 140;have D3:Below W.heap.size W d3:=D2.trans (hb3.mono D2.size);have Q7:=bR.lt;have z3:=hb3.size;replace hm2:=hm2.below hb3;replace ot:=ot.below hb3;refine wpAnyH_ready (rs:=[9]) (by kernel_rfl) (by simp) ?_;refine AllReadyH.cons rfl (fun K hK=>?_) AllReadyH.nil;go_simp;rw [hd3.out];refine hK.out _ _ (HS.out _ D3) (fun hHeld=>?_);clear hK K hb3 hd3 hs3;try simp only [zz]
 refine tr 10 (.pointer (some ⟨d2.heap.size,0,none⟩)) ?_;refine wpAnyH_done (by kernel_rfl) ?_ _;clear hHeld;have HE:Hid (_∧_∧_∧_∧_∧_∧_∧_∧_):=⟨st,hv,ot.widen (show w.heap.size≤d0.heap.size by omega) (Nat.le_refl _) (by omega),hmL,Q7,(show w.heap.size≤d1.heap.size by omega),hm2,bR,qR.out _ D3⟩;go_wp2;go_ret;exact ⟨t,d1.heap.size,d2.heap.size,rfl,HE.out⟩
end Go.Proofs.YtjkckhfddgeboaaGreatDoor
namespace Go.Proofs.YtjkckhfddgeboaaGreatDoor
structure vN (ms:List qW) (hs:List qJ):Prop where
 got:∀ h∈hs,∃ c,yo h.oid ms=some c∧c.tx=h.tx
 only:∀ k c,1≤k→k≤31→yo k ms=some c→⟨c.tx,k⟩∈hs
 oids:∀ h∈hs,1≤h.oid∧h.oid≤31
 up:hs.Pairwise (fun a b=>(kW a.oid ms).place<(kW b.oid ms).place)
theorem Gw (ms:List qW) (h:qJ):∀ k:Nat,h∈yl ms k ↔ ∃ c,yo h.oid ms=some c∧c.tx=h.tx∧1≤h.oid∧h.oid≤(k:Int):=by
 intro k
 induction k with
 | zero=>
  constructor
  ·intro hh;cases hh
  ·rintro ⟨c,_,_,h1,h2⟩;omega
 | succ k ih=>
  cases hg:yo ((k:Int)+1) ms with
  | none=>
   rw [Wo hg,ih];refine ⟨fun ⟨c,a,b,d,e⟩=>⟨c,a,b,d,by omega⟩,fun ⟨c,a,b,d,e⟩=>⟨c,a,b,d,?_⟩⟩;by_cases q:h.oid=(k:Int)+1
   ·rw [q,hg] at a;cases a
   ·omega
  | some m=>
   rw [VX hg,List.mem_append,ih,List.mem_singleton];constructor
   ·rintro (⟨c,a,b,d,e⟩ | rfl)
    ·exact ⟨c,a,b,d,by omega⟩
    ·exact ⟨m,hg,rfl,by show (1:Int)≤(k:Int)+1;omega,by show (k:Int)+1≤_;omega⟩
   ·rintro ⟨c,a,b,d,e⟩;by_cases q:h.oid=(k:Int)+1
    ·rw [q,hg] at a;cases a;refine .inr ?_;obtain ⟨t,o⟩:=h;simp only at b q;rw [b,q]
    ·exact .inl ⟨c,a,b,d,by omega⟩
theorem Dg (ms:List qW):∀ k:Nat,(yl ms k).Nodup:=by
 intro k
 induction k with
 | zero=>exact List.nodup_nil
 | succ k ih=>
  cases hg:yo ((k:Int)+1) ms with
  | none=>rw [Wo hg];exact ih
  | some m=>
   rw [VX hg,List.nodup_append];refine ⟨ih,by simp,fun x hx y hy q=>?_⟩;obtain ⟨c,_,_,_,h4⟩:=(Gw ms x k).1 hx;rw [q,List.mem_singleton.1 hy] at h4;simp only at h4;omega
theorem vN.nodup {ms:List qW} {hs:List qJ} (h:vN ms hs):hs.Nodup:=h.up.imp (fun q e=>by rw [e] at q;omega)
theorem vN.perm {ms:List qW} {hs:List qJ} (h:vN ms hs):hs.Perm (yl ms 31):=by
 refine (List.perm_ext_iff_of_nodup h.nodup (Dg ms 31)).2 (fun x=>?_);rw [Gw];constructor
 ·intro hx;obtain ⟨c,h1,h2⟩:=h.got x hx;exact ⟨c,h1,h2,(h.oids x hx).1,by have:=(h.oids x hx).2;omega⟩
 ·rintro ⟨c,h1,h2,h3,h4⟩;have:=h.only x.oid c h3 (by omega) h1;rw [h2] at this;exact this
theorem vN.sorted {ms:List qW} {hs ts:List qJ} (h:vN ms hs) (hp:ts.Perm (yl ms 31)) (ho:ts.Pairwise (fun a b=>¬ (kW b.oid ms).place<(kW a.oid ms).place)):ts=hs:=by
 have hpt:ts.Perm hs:=hp.trans h.perm.symm;refine List.Perm.eq_of_pairwise (le:=fun a b=>¬ (kW b.oid ms).place<(kW a.oid ms).place) ?_ ho (h.up.imp (fun q=>by omega)) hpt;intro a b ha hb h1 h2;have ha':a∈hs:=hpt.mem_iff.1 ha;have he:(kW a.oid ms).place=(kW b.oid ms).place:=by omega
 obtain ⟨i,hi,rfl⟩:=List.mem_iff_getElem.1 ha';obtain ⟨j,hj,rfl⟩:=List.mem_iff_getElem.1 hb;have up:=List.pairwise_iff_getElem.1 h.up;rcases Nat.lt_trichotomy i j with q | q | q
 ·have:=up i j hi hj q;omega
 ·subst q;rfl
 ·have:=up j i hj hi q;omega
theorem BL (hs:List qJ):∀ n,(∀ i,i<n→∀ j,j<i→(hs.getD j qY).oid≠(hs.getD i qY).oid)→∀ j,j<n→yo (hs.getD j qY).oid (q9 hs n)=some ⟨(hs.getD j qY).oid,(hs.getD j qY).tx,(j:Int)⟩:=by
 intro n
 induction n with
 | zero=>intro _ j hj;omega
 | succ n ih=>
  intro hd j hj;rw [q9,U8];by_cases e:j=n
  ·subst e;rw [if_pos rfl]
  ·rw [if_neg (hd n (by omega) j (by omega))];exact ih (fun i hi j hj=>hd i (by omega) j hj) j (by omega)
theorem Dh {hs:List qJ} (hd:∀ i,i<hs.length→∀ j,j<i→(hs.getD j qY).oid≠(hs.getD i qY).oid) (ho:∀ h∈hs,1≤h.oid∧h.oid≤31):vN (q9 hs hs.length) hs:=by
 have hg:=BL hs hs.length hd;have at':∀ i (hi:i<hs.length),yo hs[i].oid (q9 hs hs.length)=some ⟨hs[i].oid,hs[i].tx,(i:Int)⟩:=fun i hi=>by
  have:=hg i hi
  simpa [List.getD,hi] using this
 refine ⟨fun h hh=>?_,fun k c h1 h2 hk=>?_,ho,?_⟩
 ·obtain ⟨i,hi,rfl⟩:=List.mem_iff_getElem.1 hh;exact ⟨_,at' i hi,rfl⟩
 ·have hne:yo k (q9 hs hs.length)≠none:=by rw [hk];simp
  have:∃ j,j<hs.length∧(hs.getD j qY).oid=k:=by
   apply Classical.byContradiction;intro hc;exact hne ((YF hs k hs.length).2 (fun j hj e=>hc ⟨j,hj,e⟩))
  obtain ⟨j,hj,rfl⟩:=this;rw [hg j hj] at hk;cases hk;have:hs.getD j qY=hs[j]:=by simp [List.getD,hj]
  rw [this];exact List.getElem_mem hj
 ·rw [List.pairwise_iff_getElem];intro i j hi hj hij;rw [Wp (at' i hi),Wp (at' j hj)];show (i:Int)<(j:Int);omega
theorem NC (hs:List qJ) (k:Int):∀ n,0≤(kW k (q9 hs n)).place∧(kW k (q9 hs n)).place≤(n:Int):=by
 intro n
 induction n with
 | zero=>exact ⟨Int.le_refl _,Int.le_refl _⟩
 | succ n ih=>
  unfold kW at ih ⊢;rw [q9,U8];by_cases e:k=(hs.getD n qY).oid
  ·rw [if_pos e];simp only [Option.getD_some];omega
  ·rw [if_neg e];omega
end Go.Proofs.YtjkckhfddgeboaaGreatDoor