/- Several texts in one, in their order. -/
import Derived.Test.YtfehemepdoomdaaGreatDoorPCommitx14
import Derived.Test.YtfehemepdoomdaaGreatDoorPCommitx5
import Derived.Test.YtfehemepdoomdaaGreatDoorPCommitx4
import Derived.Test.YtfehemepdoomdaaGreatDoorShelf
import Derived.Test.YtfehemepdoomdaaGreatDoorPCommitx11
import Derived.Deep.Cut
import Derived.Test.YtfehemepdoomdaaGreatDoorPCommitx1
set_option maxHeartbeats 8000000
set_option maxRecDepth 100000
namespace Go.Proofs.YtfehemepdoomdaaGreatDoor
open Go.RowKit
theorem short_val {t:EngA} {m:Nat} (hd:∀ p∈t.v.disk,∀ x∈p.2,x.o.ints.length≤m∧x.o.refs.length≤m) (hs:t.v.seats.length≤m) (hp:∀ s∈t.v.seats,∀ x∈s.ss,x.o.ints.length≤m∧x.o.refs.length≤m) (hl:t.log.short m) (ht:t.txs.length≤m) (hh:t.holds.length≤m):t.short m:=by
 refine ⟨fun p hp' x hx=>hd _ (List.mem_map.2 ⟨p,hp',rfl⟩) x.v (List.mem_map.2 ⟨x,hx,rfl⟩),⟨by show t.seats.length≤m;simpa [EngA.v] using hs,fun s hs' x hx=>hp s.v (List.mem_map.2 ⟨s,hs',rfl⟩) x.v ?_⟩,hl,ht,hh⟩
 exact List.mem_map.2 ⟨x,hx,rfl⟩
theorem val_disk {e:EngA} {m:Nat} (h:e.short m):∀ p∈e.v.disk,∀ x∈p.2,x.o.ints.length≤m∧x.o.refs.length≤m:=fun p hp x hx=>by
 obtain ⟨q,hq,rfl⟩:=List.mem_map.1 hp
 obtain ⟨y,hy,rfl⟩:=List.mem_map.1 hx
 exact h.disk q hq y hy
theorem val_pool {e:EngA} {m:Nat} (h:e.short m):∀ s∈e.v.seats,∀ x∈s.ss,x.o.ints.length≤m∧x.o.refs.length≤m:=fun s hs x hx=>by
 obtain ⟨q,hq,rfl⟩:=List.mem_map.1 hs
 obtain ⟨y,hy,rfl⟩:=List.mem_map.1 hx
 exact h.pool.each q hq y hy
def RecV.shortV (r:RecV) (m:Nat):Prop:=(r.bf.o.ints.length≤m∧r.bf.o.refs.length≤m)∧(r.af.o.ints.length≤m∧r.af.o.refs.length≤m)∧r.txs.length≤m
theorem rec_shortV {r:RecA} {m:Nat} (h:r.short m):r.v.shortV m:=⟨h.bf,h.af,h.txs⟩
theorem rec_ofV {r:RecA} {m:Nat} (h:r.v.shortV m):r.short m:=⟨h.1,h.2.1,h.2.2⟩
theorem log_shortV {e:EngA} {m:Nat} (h:e.short m):∀ r∈e.v.log.recs,r.shortV m:=fun r hr=>by
 obtain ⟨q,hq,rfl⟩:=List.mem_map.1 hr
 exact rec_shortV (h.log.each q hq)
theorem log_ofV {t:EngA} {m:Nat} (hn:t.v.log.recs.length≤m) (h:∀ r∈t.v.log.recs,r.shortV m):t.log.short m:=
 ⟨by simpa [EngA.v,LogA.v] using hn,fun r hr=>rec_ofV (h r.v (List.mem_map.2 ⟨r,hr,rfl⟩))⟩
def encH (x:Int × Int):List Value:=[.int .i64 x.1,.int .i64 x.2]
def pairH (h:HoldV):Int × Int:=(h.tx,h.oid)
def holdP (x:Int × Int):HoldV:=⟨x.1,x.2⟩
theorem holdP_pair (hs:List HoldV):(hs.map pairH).map holdP=hs:=by rw [List.map_map];exact List.map_id'' (fun _=>rfl) hs
def placeC (ms:List ClaimV) (x:Int × Int):Int:=(atC x.2 ms).place
def cfH (ms:List ClaimV) (x y:Int × Int):Int:=placeC ms x-placeC ms y
theorem ltH (ms:List ClaimV) (x y:Int × Int):ltOf (cfH ms) x y=decide (placeC ms x<placeC ms y):=by
 unfold ltOf cfH
 by_cases h:placeC ms x<placeC ms y
 ·rw [decide_eq_true h,decide_eq_true (by omega)]
 ·rw [decide_eq_false h,decide_eq_false (by omega)]
theorem swoH (ms:List ClaimV):Go.Sort.SWO (ltOf (cfH ms)):=
 ⟨fun x=>by rw [ltH];simp,fun x y z h1 h2=>by rw [ltH] at *;simp at *;omega,fun x y z h1 h2=>by rw [ltH] at *;simp at *;omega⟩
theorem cells_flatH (hs:List HoldV):Go.Sort.flatK encH 2 (hs.map pairH).toArray=(cellsH hs).toArray:=by
 apply Array.ext_getElem?
 intro j
 by_cases hj:j<hs.length*2
 ·have hat:=cellsH_at hs (j / 2) (j % 2) (by omega) (Nat.mod_lt _ (by omega))
  rw [show j / 2*2+j % 2=j by omega] at hat
  have hr:(cellsH hs).toArray[j]? =(hs.getD (j / 2) zeroH).cells[j % 2]? :=by rw [← hat];simp
  have hs1:j<(Go.Sort.flatK encH 2 (hs.map pairH).toArray).size:=by simpa using hj
  rw [hr,Array.getElem?_eq_getElem hs1,← getElem!_pos _ j hs1,Go.Sort.get_flatK _ _ _ _ (by simpa using hj)]
  have h2:j / 2<hs.length:=by omega
  have e1:(hs.map pairH).toArray[j / 2]! =pairH (hs.getD (j / 2) zeroH):=by simp [h2,List.getD]
  rw [e1]
  rcases (by omega:j % 2=0∨j % 2=1) with h | h<;>rw [h]<;>rfl
 ·rw [Array.getElem?_eq_none (by simp;omega),Array.getElem?_eq_none (by simp [cellsH_len];omega)]
theorem sortW_block {w:World} {g n:Nat} {os:Array Obj} (d:Array (Int × Int)) (k:Nat) (hk:k<w.heap.size) (hne:k≠g):(sortWorldK encH 2 w g 0 n d os).heap[k]? =w.heap[k]? :=by
 unfold sortWorldK Go.Sort.putRowK
 rw [Go.Sort.heap_grow_old _ _ (by simpa using hk)]
 have:g≠k:=fun e=>hne e.symm
 simp [Go.Sort.putRow,Go.Sort.mapBlock,Go.Sort.ahead,Array.getElem?_modify,this]
theorem sortW_row {w:World} {g n:Nat} {os:Array Obj} {cur:Array Value} {e:TypeId} {fr:Nat × Nat} (d:Array (Int × Int)) (hb:w.heap[g]? =some (.cells cur e fr)):
  (sortWorldK encH 2 w g 0 n d os).heap[g]? =some (.cells (Go.Sort.putCells id 0 (Go.Sort.flatK encH 2 d) cur) e fr):=by
 unfold sortWorldK Go.Sort.putRowK
 have hg:g<w.heap.size:=(Array.getElem?_eq_some_iff.1 hb).1
 rw [Go.Sort.heap_grow_old _ _ (by simpa using hg)]
 simp [Go.Sort.putRow,Go.Sort.mapBlock,Go.Sort.ahead,Array.getElem?_modify,hb,Go.Sort.onCells]
theorem sortW_grown {w:World} {g n:Nat} {os:Array Obj} (d:Array (Int × Int)):w.grownBy (sortWorldK encH 2 w g 0 n d os) (some g):=
 ⟨rfl,rfl,rfl,by unfold sortWorldK Go.Sort.putRowK;simp,fun k hk hne=>sortW_block d k hk (fun e=>hne (by rw [e]))⟩
theorem take_put (cur F:Array Value) (h:F.size≤cur.size):(Go.Sort.putCells id 0 F cur).toList.take F.size=F.toList:=by
 apply List.ext_getElem?
 intro j
 by_cases hj:j<F.size
 ·rw [List.getElem?_take_of_lt hj,Array.getElem?_toList]
  simp [Go.Sort.putCells,hj,show j<cur.size by omega]
 ·rw [List.getElem?_take_eq_none (by omega),List.getElem?_eq_none (by simp;omega)]
theorem isAggHold (w:World):(isAgg 110).run Tryz.prog w=.ok true w:=by kernel_rfl
theorem sizeOfHold (w:World):(Go.sizeOf 110).run Tryz.prog w=.ok 2 w:=by kernel_rfl
theorem sortH_any (PB R M g cap lo:Nat) (ms:List ClaimV) (hs:List HoldV) (w:World) (hp:w.cell? ⟨PB,0,none⟩=some (.pointer (some ⟨R,0,none⟩))) (hr:w.cell? ⟨R,144,none⟩=some (.map (some M))) (hm:MapAt w M ms) (h1:PB≠g) (h2:R≠g) (h3:M≠g)
  (hb:∀ k,0≤(atC k ms).place∧(atC k ms).place≤1099511627776) (own:OwnH w lo w.heap.size (some ⟨g,0,none⟩) cap hs) (hl:hs.length≤1099511627776):
  Calls Tryz.prog 102 #[.slice (some ⟨g,0,none⟩) hs.length cap,.func (.func 103) #[] #[.pointer (some ⟨PB,0,none⟩)]] w fun r w'=>r=.returned (.tuple #[])∧∃ ts:List HoldV,Hid (ts.Perm hs∧ts.Pairwise (fun a b=>¬ (atC b.oid ms).place<(atC a.oid ms).place))∧OwnH w' lo w'.heap.size (some ⟨g,0,none⟩) cap ts∧w.grownBy w' (some g):=by
 rcases own.1.2 with ⟨hv,_⟩ | ⟨g',cap',cur,hv,hbase,hgt,hn,hcm,hcs,htk⟩
 ·cases hv
 cases hv
 have hg:g<w.heap.size:=(Array.getElem?_eq_some_iff.1 hgt).1
 obtain ⟨d,hd⟩:∃ d:Array (Int × Int),(hs.map pairH).toArray=d:=⟨_,rfl⟩
 have hds:d.size=hs.length:=by rw [← hd];simp
 have hH:Go.Sort.HoldsK encH 2 w g 0 d:=by
  rw [← hd]
  intro j hj
  rw [cells_flatH] at hj ⊢
  have hj':j<(cellsH hs).length:=by simpa using hj
  have e1:(cellsH hs).toArray[j]! =(cellsH hs)[j]:=by rw [getElem!_pos _ j (by simpa using hj')];simp
  rw [e1,Nat.zero_add]
  refine ⟨?_,own.1.frozenAt j⟩
  rw [own.1.cellAt j (by rw [cellsH_len] at hj';exact hj'),List.getElem?_eq_getElem hj']
  rfl
 have hcmp:CmpLays Tryz.prog 103 #[.pointer (some ⟨PB,0,none⟩)] encH 2 (cfH ms) g 0 d.size w:=fun m os dk _ x y=>by
  have bP:=sortW_block (n:=m) (os:=os) dk PB (World.block_lt_of_cell? w _ hp) h1
  have bR:=sortW_block (n:=m) (os:=os) dk R (World.block_lt_of_cell? w _ hr) h2
  have bM:=sortW_block (n:=m) (os:=os) dk M hm.lt h3
  refine cmpHold_any x y PB R M ms _ ?_ ?_ ?_ hb
  ·rw [World.cell?_of_block (a:=⟨PB,0,none⟩) bP];exact hp
  ·rw [World.cell?_of_block (a:=⟨R,144,none⟩) bR];exact hr
  ·obtain ⟨es,clock,q1,q2⟩:=hm
   exact ⟨es,clock,by rw [bM];exact q1,q2⟩
 have eg:∀ args w,(callFunc 103 args).run Tryz.prog w=.ok (.enter 103 args) w:=enters_of Tryz.func103 (by kernel_rfl) rfl
 have hcon:=AnyQ.slices_SortFunc Tryz.sortHold 2 isAggHold sizeOfHold encH (fun _=>rfl) (fun x v hv=>by simp [encH] at hv;rcases hv with rfl | rfl<;>rfl) (cfH ms) (swoH ms) 103 #[.pointer (some ⟨PB,0,none⟩)] g 0 cap d w eg hcmp hH hg (by omega)
 change Calls Tryz.prog 102 _ _ _ at hcon
 rw [hds] at hcon
 refine hcon.mono ?_
 rintro r w' ⟨rfl,d',n,os,⟨p1,_,p3⟩,hso,rfl⟩
 refine ⟨rfl,d'.toList.map holdP,⟨?_,?_⟩,?_,sortW_grown d'⟩
 ·have e1:d'.extract 0 hs.length=d':=by rw [← hds,← p1];simp
  have e2:d.extract 0 hs.length=d:=by rw [← hds];simp
  rw [e1,e2] at p3
  have:=p3.map holdP
  rwa [← hd,List.toList_toArray,holdP_pair] at this
 ·rw [List.pairwise_map,List.pairwise_iff_getElem]
  intro i j hi hj hij
  have hj':j<hs.length:=by rw [← hds,← p1];simpa using hj
  have:=hso i j (Nat.zero_le _) hij hj'
  rw [ltH] at this
  have hi':i<d'.size:=by simpa using hi
  have hj2:j<d'.size:=by simpa using hj
  simp only [placeC,getElem!_pos d' i hi',getElem!_pos d' j hj2,decide_eq_false_iff_not] at this
  simpa [holdP] using this
 ·have hdd:((d'.toList.map holdP).map pairH).toArray=d':=by
   rw [List.map_map,List.map_id'' (f:=pairH ∘ holdP) (fun _=>rfl)]
  have hlen:(d'.toList.map holdP).length=hs.length:=by rw [List.length_map,Array.length_toList,p1,hds]
  have hf:=cells_flatH (d'.toList.map holdP)
  rw [hdd] at hf
  have hrow:=sortW_row (n:=n) (os:=os) d' hgt
  rw [hf] at hrow
  have hcl:(cellsH (d'.toList.map holdP)).toArray.size=hs.length*2:=by simp [cellsH_len,p1,hds]
  refine ⟨⟨cellsH_len _,.inr ⟨g,cap,_,by rw [hlen],hbase,hrow,by rw [hlen];exact hn,hcm,by simp [Go.Sort.putCells,hcs],?_⟩⟩,Nat.le_refl _,fun k hk=>?_⟩
  ·have:=take_put cur (cellsH (d'.toList.map holdP)).toArray (by rw [hcl,hcs];exact Nat.mul_le_mul_right _ hn)
   rw [hcl] at this
   rw [hlen,this]
  ·cases hk
   unfold sortWorldK Go.Sort.putRowK
   simp
   omega
theorem sortH_none (fv:Value) (w:World):Calls Tryz.prog 102 #[.slice none 0 0,fv] w fun r w'=>r=.returned (.tuple #[])∧w'=w:=by
 have h:=AnyF.slices_SortFunc_none Tryz.sortHold none 0 fv w
 change Calls Tryz.prog 102 _ _ _ at h
 exact h
theorem fold_seg (off:Nat):∀ (vs A old R:List Value) (j:Nat),old.length=vs.length→A.length=off+j→
  (vs.zipIdx j).foldl (fun (cs:Array Value) (p:Value × Nat)=>cs.setIfInBounds (off+p.2) p.1) (A++(old++R)).toArray=(A++(vs++R)).toArray
 | [],A,old,R,j,h,hA=>by
  have:old=[]:=List.length_eq_zero_iff.1 h
  rw [this];rfl
 | v::vs,A,[],R,j,h,hA=>by cases h
 | v::vs,A,o::old,R,j,h,hA=>by
  rw [List.zipIdx_cons,List.foldl_cons]
  have e1:(A++(o::old++R)).toArray.setIfInBounds (off+j) v=((A++[v])++(old++R)).toArray:=by
   rw [List.setIfInBounds_toArray,← hA,List.set_append_right _ _ (Nat.le_refl _),Nat.sub_self]
   simp
  have e2:=fold_seg off vs (A++[v]) old R (j+1) (by simpa using h) (by rw [List.length_append,hA];rfl)
  show List.foldl _ ((A++(o::old++R)).toArray.setIfInBounds (off+j) v) _=_
  rw [e1,e2]
  simp
theorem fold_seg0 (vs A old R:List Value) (h:old.length=vs.length):vs.toArray.zipIdx.foldl (fun (cs:Array Value) (p:Value × Nat)=>cs.setIfInBounds (A.length+p.2) p.1) (A++(old++R)).toArray=(A++(vs++R)).toArray:=by
 rw [← Array.foldl_toList,Array.toList_zipIdx]
 exact fold_seg A.length vs A old R 0 h rfl
theorem fill_step (place:Nat→Option (Nat × Nat)) (A vs old R:List Value) (i:Nat) (v:Value) (rest:List (Nat × Value)) (hp:place i=some (A.length,vs.length)) (hv:v.cells=vs.toArray) (h:old.length=vs.length):
  Instr.fill place (A++(old++R)).toArray ((i,v)::rest)=Instr.fill place (A++(vs++R)).toArray rest:=by
 have e1:v.cells.size=vs.length:=by rw [hv];simp
 have e2:(A++(old++R)).toArray.size=A.length+(vs.length+R.length):=by simp [h]
 have e3:=fold_seg0 vs A old R h
 rw [Instr.fill]
 simp only [hp,e1,e2]
 rw [if_neg (by simp),hv]
 exact congrArg (fun c=>Instr.fill place c rest) e3
def runCells (cs:List Value) (M:Nat) (n:Int):List Value:=cs++[.map (some M),.int .i64 n]
theorem built_run (parts:List (Nat × Value)):Tryz.prog.built 120 parts=Instr.fill ((#[(0,144),(144,1),(145,1)]:Array (Nat × Nat))[·]?) (([]:List Value)++(zeroE.cells++[Value.map none,Value.int .i64 0])).toArray parts:=by kernel_rfl
theorem run_buildR (w:World) (t:EngA) (st:t.shape) (M:Nat) (n:Int):(Instr.build 120 #[(0,Value.agg t.cells.toArray),(1,Value.map (some M)),(2,Value.int .i64 n)]).run Tryz.prog w=.ok (.agg (runCells t.cells M n).toArray) w:=by
 refine run_build w _ _ _ ?_
 rw [built_run]
 have hl:=EngA.cells_len st
 have h0:zeroE.cells.length=t.cells.length:=by rw [hl,EngA.cells_len zeroE_shape]
 rw [show (#[(0,Value.agg t.cells.toArray),(1,Value.map (some M)),(2,Value.int .i64 n)]:Array (Nat × Value)).toList=[(0,Value.agg t.cells.toArray),(1,Value.map (some M)),(2,Value.int .i64 n)] from rfl]
 rw [fill_step _ [] t.cells zeroE.cells [Value.map none,Value.int .i64 0] 0 _ _ (by rw [hl];rfl) rfl h0]
 have e1:([]:List Value)++(t.cells++[Value.map none,Value.int .i64 0])=t.cells++([Value.map none]++[Value.int .i64 0]):=rfl
 rw [e1,fill_step _ t.cells [Value.map (some M)] [Value.map none] [Value.int .i64 0] 1 _ _ (by rw [hl];rfl) rfl rfl]
 have e2:t.cells++([Value.map (some M)]++[Value.int .i64 0])=(t.cells++[Value.map (some M)])++([Value.int .i64 0]++[]):=by simp
 rw [e2,fill_step _ (t.cells++[Value.map (some M)]) [Value.int .i64 n] [Value.int .i64 0] [] 2 _ _ (by rw [List.length_append,hl];rfl) rfl rfl]
 unfold Instr.fill runCells
 simp
def listC (ms:List ClaimV):Nat→List HoldV
 | 0=>[]
 | k+1=>listC ms k++(match getC ((k:Int)+1) ms with | some c=>[⟨c.tx,(k:Int)+1⟩] | none=>[])
theorem listC_len (ms:List ClaimV) (k:Nat):(listC ms k).length≤k:=by
 induction k with
 | zero=>simp [listC]
 | succ k ih=>rw [listC,List.length_append];split<;>simp<;>omega
theorem listC_yes {ms:List ClaimV} {k:Nat} {c:ClaimV} (h:getC ((k:Int)+1) ms=some c):listC ms (k+1)=listC ms k++[⟨c.tx,(k:Int)+1⟩]:=by rw [listC,h]
theorem listC_no {ms:List ClaimV} {k:Nat} (h:getC ((k:Int)+1) ms=none):listC ms (k+1)=listC ms k:=by rw [listC,h,List.append_nil]
theorem atC_some {ms:List ClaimV} {k:Int} {c:ClaimV} (h:getC k ms=some c):atC k ms=c:=by rw [atC,h];rfl
theorem holds_any (R M:Nat) (cs:List Value) (n:Int) (ms:List ClaimV) (w:World) (b:Box w R (runCells cs M n) 120) (hcs:cs.length=144) (hm:MapAt w M ms) (hb:∀ k,0≤(atC k ms).place∧(atC k ms).place≤1099511627776):
  Calls Tryz.prog 67 #[.pointer (some ⟨R,0,none⟩)] w fun r w'=>∃ (hs:List HoldV) (a:Option Addr) (c:Nat),r=.returned (.slice a hs.length c)∧Hid (hs.Perm (listC ms 31)∧hs.Pairwise (fun a b=>¬ (atC b.oid ms).place<(atC a.oid ms).place))∧OwnH w' w.heap.size w'.heap.size a c hs∧Below w.heap.size w w':=by
 obtain ⟨W,hW,b0,hbW,hsW⟩:=boxes1 w [.pointer (some ⟨R,0,none⟩)] 79
 have hRl:=b.lt
 have hMl:=hm.lt
 have HF:Hid (∀ u,Below W.heap.size W u→u.cell? ⟨w.heap.size,0,none⟩=some (.pointer (some ⟨R,0,none⟩))∧u.cell? ⟨R,144,none⟩=some (.map (some M))∧MapAt u M ms):=fun u hu=>by
  have n0:=hbW.trans (hu.mono hbW.size)
  exact ⟨(b0.below hu b0.lt).cell 0 _ rfl,(b.below n0 b.lt).cell 144 _ (by rw [runCells,List.getElem?_append_right (by omega),hcs];rfl),hm.below n0⟩
 have HEND:Hid (∀ u,Below W.heap.size W u→Below w.heap.size w u):=fun u hu=>hbW.trans (hu.mono hbW.size)
 have hw0:w.heap.size<W.heap.size:=by omega
 have HB:Hid (∀ k,0≤(atC k ms).place∧(atC k ms).place≤1099511627776):=hb
 clear b0 hsW hb b hm hbW
 go_enter Tryz.func67,Tryz.ntmps67
 go_wp2_with fail
 rw [hW.out]
 clear hW
 go_loopw [3,4,5,6] (fun s i _ _ wr=>∃ (k:Nat) (a:Option Addr) (c:Nat),k≤31∧i=.int .i64 ((k:Int)+1)∧s=.slice a (listC ms k).length c∧OwnH wr W.heap.size wr.heap.size a c (listC ms k)∧Below W.heap.size W wr) (fun _ i _ _ _=>32-(intOf i).toNat)
 case atStart=>exact ⟨0,none,0,Nat.zero_le _,rfl,rfl,ownH_nil _ _ _ (Nat.le_refl _),Below.refl _ _⟩
 case round=>
  obtain ⟨k,a,c,hk,rfl,rfl,ho,hN⟩:=hrel
  have hlen:=listC_len ms k
  obtain ⟨f0,f1,f2⟩:=HF.out _ hN
  by_cases hlt:k<31
  ·have hki:(k:Int)+1≤31:=by omega
   have hlk:=run_look_c f2 ((k:Int)+1) true
   cases hgc:getC ((k:Int)+1) ms with
   | none=>
    have HL:Hid (listC ms (k+1)=listC ms k):=listC_no hgc
    have HAT:Hid (atC ((k:Int)+1) ms=⟨(k:Int)+1,0,0⟩):=by rw [Hid,atC,hgc];rfl
    rw [hgc,HAT.out] at hlk
    have hbV:Below wr.heap.size wr (wr.alloc (.cells #[.int .i64 0,.int .i64 0] 152)):=(Below.refl _ _).alloc (Nat.le_refl _) _
    have HN:Hid (Below W.heap.size W (wr.alloc (.cells #[.int .i64 0,.int .i64 0] 152))∧OwnH (wr.alloc (.cells #[.int .i64 0,.int .i64 0] 152)) W.heap.size (wr.alloc (.cells #[.int .i64 0,.int .i64 0] 152)).heap.size a c (listC ms k)):=⟨hN.trans (hbV.mono hN.size),(ho.below hbV).widen (Nat.le_refl _) hbV.size (Nat.le_refl _)⟩
    clear hbV
    go_wp2_with fail
    go_roundw
    case rel=>exact ⟨k+1,a,c,by omega,by go_num,by rw [HL.out],by rw [HL.out];exact HN.out.2,HN.out.1⟩
    case measure=>simp [intOf];omega
   | some m=>
    have HL:Hid (listC ms (k+1)=listC ms k++[⟨m.tx,(k:Int)+1⟩]):=listC_yes hgc
    have HAT:Hid (atC ((k:Int)+1) ms=m):=atC_some hgc
    rw [hgc,HAT.out] at hlk
    obtain ⟨V,hV,bV,hbV,hsV⟩:=boxes1 wr [.int .i64 m.tx,.int .i64 m.place] 152
    have N1:Below W.heap.size W V:=hN.trans (hbV.mono hN.size)
    have ho1:=(ho.below hbV).widen (Nat.le_refl _) hbV.size (Nat.le_refl _)
    have x0:=bV.cell 0 _ rfl
    have zV:=N1.size
    have ho2:=ho1.below ((Below.refl _ _).alloc (Nat.le_refl _) (.cells #[.int .i64 m.tx,.int .i64 ((k:Int)+1)] 110))
    go_upto_region 7 with fail
    rw [hV.out]
    clear hV bV hbV hsV f0 f1 f2 hlk hgc ho HAT
    go_wp2_with (at_builtin;refine append_holds rfl _ _ rfl W.heap.size V.heap.size a c (listC ms k) rfl ho2 _ _ [⟨m.tx,(k:Int)+1⟩] rfl (readsH_one V ⟨m.tx,(k:Int)+1⟩ _) (fun h=>by cases h) (by simp;omega) (by simp;omega) ?_;intro a3 c3 y3 w3 hy3 ho3 hg3)
    have HY:Hid (y3=listC ms (k+1)):=by rw [Hid,hy3.out,HL.out]
    have HN:Hid (Below W.heap.size W w3):=grown_belowE (N1.trans ((Below.refl _ _).alloc zV _)) hg3 (fun j hj=>(ho1.lt j hj).1) (by simp;omega)
    clear hy3 hg3 ho1 ho2 N1
    go_roundw
    case rel=>exact ⟨k+1,a3,c3,by omega,by go_num,by rw [HY.out],by rw [← HY.out];exact ho3,HN.out⟩
    case measure=>simp [intOf];omega
  ·obtain rfl:k=31:=by omega
   have hki:¬ ((31:Nat):Int)+1≤31:=by omega
   generalize hL:listC ms 31=L at*
   cases a with
   | none=>
    have hnl:L=[]:=by
     rcases ho.1.2 with ⟨_,h0⟩ | ⟨g,cap,cur,hv,_⟩
     ·exact List.length_eq_zero_iff.1 h0
     ·cases hv
    subst hnl
    have hc0:c=0:=ho.nocap rfl
    subst hc0
    have C:=sortH_none (.func (.func 103) #[] #[.pointer (some ⟨w.heap.size,0,none⟩)]) wr
    have HE:Hid (_):=HEND.out _ hN
    go_wp2_with fail
    refine C.mono ?_
    rintro r w' ⟨rfl,rfl⟩
    go_wp2
    go_ret
    exact ⟨[],none,0,rfl,⟨by simp,by simp⟩,ownH_nil _ _ _ (Nat.le_refl _),HE.out⟩
   | some ad=>
    obtain ⟨g,rfl⟩:∃ g,ad=⟨g,0,none⟩:=by
     rcases ho.1.2 with ⟨hv,_⟩ | ⟨g,cap,cur,hv,_⟩
     ·cases hv
     ·simp only [Value.slice.injEq,Option.some.injEq] at hv;exact ⟨g,hv.1⟩
    have hgl:=ho.lt g rfl
    have C:=sortH_any w.heap.size R M g c W.heap.size ms L wr f0 f1 f2 (by omega) (by omega) (by omega) HB.out ho (by omega)
    go_wp2_with fail
    refine C.mono ?_
    clear C
    rintro r w' ⟨rfl,ts,HP,ot,hg⟩
    have HE:Hid (Below w.heap.size w w'∧OwnH w' w.heap.size w'.heap.size (some ⟨g,0,none⟩) c ts):=⟨HEND.out _ (hN.grown hg hN.size (fun j hj=>by cases hj;omega)),ot.widen (by omega) (Nat.le_refl _) (Nat.le_refl _)⟩
    have HLN:Hid (ts.length=L.length):=HP.out.1.length_eq
    rw [← HLN.out]
    clear hg ot ho f0 f1 f2
    go_wp2
    go_ret
    exact ⟨ts,_,c,rfl,HP,HE.out.2,HE.out.1⟩
theorem within_touchR {B:Nat} {w w':World} (h:Within B (B+1) w w'):Touch [B] w w':=⟨h.os,h.tape,h.output,h.size,fun k hk hn=>h.block k hk (fun hh=>hn (List.mem_singleton.2 (by omega)))⟩
theorem own_holds {w:World} {e:EngA} {lo hi m:Nat} {hs:List HoldV} {a:Option Addr} {c:Nat} (h:e.own w lo hi) (ho:OwnH w m w.heap.size a c hs) (h1:lo≤hi) (h2:hi≤m) (h3:m≤w.heap.size):({ e with holds:=hs,aH:=a,cH:=c }:EngA).own w lo w.heap.size:=by
 refine ⟨h.disk.widen (Nat.le_refl _) (by omega) (Nat.le_refl _),h.pool.widen (Nat.le_refl _) (by omega) (Nat.le_refl _),h.log.widen (Nat.le_refl _) (by omega) (Nat.le_refl _),h.txs.widen (Nat.le_refl _) (by omega) (Nat.le_refl _),ho.widen (by omega) (Nat.le_refl _) (Nat.le_refl _),?_⟩
 have hb:=h.blocks_lt
 have ap:=h.apart
 simp only [EngA.blocks,List.mem_append] at hb
 simp only [EngA.blocks,List.nodup_append,List.mem_append] at ap
 simp only [EngA.blocks,List.nodup_append,List.mem_append]
 obtain ⟨a1,⟨a2,⟨a3,⟨a4,_,_⟩,a5⟩,a6⟩,a7⟩:=ap
 have nr:∀ o:Option Nat,o.toList.Nodup:=fun o=>by cases o<;>simp
 have hn:∀ k∈rowOf a hs.length c,m≤k:=fun k hk=>(ho.lt k (Option.mem_toList.1 hk)).1
 refine ⟨a1,⟨a2,⟨a3,⟨a4,nr _,fun x hx y hy q=>?_⟩,fun x hx y hy=>?_⟩,fun x hx y hy=>?_⟩,fun x hx y hy=>?_⟩
 ·have:=hb x (.inr (.inr (.inr (.inl hx))));have:=hn y hy;omega
 ·rcases hy with hy | hy
  ·exact a5 x hx y (.inl hy)
  ·have:=hb x (.inr (.inr (.inl hx)));have:=hn y hy;omega
 ·rcases hy with hy | hy | hy
  ·exact a6 x hx y (.inl hy)
  ·exact a6 x hx y (.inr (.inl hy))
  ·have:=hb x (.inr (.inl hx));have:=hn y hy;omega
 ·rcases hy with hy | hy | hy | hy
  ·exact a7 x hx y (.inl hy)
  ·exact a7 x hx y (.inr (.inl hy))
  ·exact a7 x hx y (.inr (.inr (.inl hy)))
  ·have:=hb x (.inl hx);have:=hn y hy;omega
theorem rest_any (R M:Nat) (e:EngA) (se:e.shape) (n:Int) (ms:List ClaimV) (w:World) (lo hi:Nat) (b:Box w R (runCells e.cells M n) 120) (hm:MapAt w M ms) (hb:∀ k,0≤(atC k ms).place∧(atC k ms).place≤1099511627776) (own:e.own w lo hi) (hR:R∉e.blocks) (h1:lo≤hi) (h2:hi≤w.heap.size):
  Calls Tryz.prog 27 #[.pointer (some ⟨R,0,none⟩)] w fun r w'=>∃ (hs:List HoldV) (a:Option Addr) (c:Nat),r=.returned (.agg ({ e with holds:=hs,aH:=a,cH:=c }:EngA).cells.toArray)∧Hid (hs.Perm (listC ms 31)∧hs.Pairwise (fun a b=>¬ (atC b.oid ms).place<(atC a.oid ms).place))∧({ e with holds:=hs,aH:=a,cH:=c }:EngA).own w' lo w'.heap.size∧Touch [R] w w':=by
 obtain ⟨Z,hZ⟩:∃ Z,Hid (zeroE=Z):=⟨_,rfl⟩
 have sZ:Z.shape:=by rw [← hZ.out];exact zeroE_shape
 have HZ:=Tryz.zeroEng
 rw [hZ.out] at HZ
 have hRl:=b.lt
 obtain ⟨W,hW,bZ,hbW,hsW⟩:=boxes1 w Z.cells 58
 have b1:=b.below hbW b.lt
 have own1:=own.below hbW
 have zW:=hbW.size
 have hlZ:=bZ.lt
 have C:=holds_any R M e.cells n ms W b1 (EngA.cells_len se) (hm.below hbW) hb
 have HA:Hid ((cellsPs e.disk).length=136):=EngA.disk_len se
 clear b hm hb hsW own
 go_enter Tryz.func27,Tryz.ntmps27
 go_wp2_with (first | (guard_target=wpList _ _ _ (Oper.mk _ (Op.alloc _) _ _ _ _::_) _ _;refine alloc_of 58 Z.cells HZ ?_) | fail)
 rw [hW.out]
 clear hW
 refine C.mono ?_
 clear C
 rintro r w1 ⟨hs,a,c,rfl,HP,oh,hb1⟩
 have z1:=hb1.size
 replace b1:=b1.below hb1 b1.lt
 have b2:Box w1 R (cellsPs e.disk++[.slice e.aS e.seats.length e.cS,.int .i64 e.hand,.slice e.log.a e.log.recs.length e.log.c,.int .i64 e.log.sure,.slice e.aT e.txs.length e.cT,.slice e.aH e.holds.length e.cH,.int .i64 e.next,.bool e.down,.map (some M),.int .i64 n]) 120:=by unfold runCells EngA.cells at b1;rw [List.append_assoc] at b1;exact b1
 have own2:=own1.below hb1
 have bZ2:=bZ.below hb1 bZ.lt
 have f0:=b2.frozen 141
 have x0:=b2.cell 141 (.slice e.aH e.holds.length e.cH) (by rw [List.getElem?_append_right (by rw [HA.out];omega),HA.out];rfl)
 obtain ⟨w2,h2',c2,t2,s2⟩:=tail_fill b2 HA.out 5 (.slice a hs.length c)
 have z2:=t2.size
 obtain ⟨T,hT⟩:∃ T:EngA,Hid (({ e with holds:=hs,aH:=a,cH:=c }:EngA)=T):=⟨_,rfl⟩
 have sT:T.shape:=by rw [← hT.out];exact ⟨se.eight,se.four⟩
 have c3:Box w2 R ([]++(T.cells++[.map (some M),.int .i64 n])) 120:=by
  rw [← hT.out,List.nil_append,EngA.cells,List.append_assoc];exact c2
 have rT:w2.rangeAt R 0 T.cells:=Box.range [] T.cells _ c3
 have own3:e.own w2 lo hi:=own2.touch (within_touchR t2) (fun k hk hm=>hR (by rw [← List.mem_singleton.1 hm];exact hk))
 have oh3:OwnH w2 W.heap.size w2.heap.size a c hs:=(oh.within t2 (.inr (by omega))).widen (Nat.le_refl _) (by omega) (Nat.le_refl _)
 have oT:T.own w2 lo w2.heap.size:=by rw [← hT.out];exact own_holds own3 oh3 h1 (by omega) (by omega)
 have bZ3:=bZ2.within t2 (by omega)
 obtain ⟨WF,hWF,hwF,hsF,HTF,bF⟩:=eng_out sT sZ bZ3
 have HLF:Hid (_=_):=eng_load sT bF
 have T12:Touch [R] w w2:=(Touch.of_below (hbW.trans (hb1.mono hbW.size))).trans (within_touchR t2)
 have HEND:Hid (T.own WF lo WF.heap.size∧Touch [R] w WF):=⟨(oT.touch (within_touchR hwF) (fun k hk hm=>?_)).widen (Nat.le_refl _) hwF.size (Nat.le_refl _),⟨hwF.os.trans T12.os,hwF.tape.trans T12.tape,hwF.output.trans T12.output,Nat.le_trans T12.size hwF.size,fun k hk hn=>(hwF.block k (by omega) (by omega)).trans (T12.block k hk hn)⟩⟩
 rotate_left
 ·rw [List.mem_singleton.1 hm,← hT.out] at hk
  simp only [EngA.blocks,List.mem_append] at hk
  have hb2:=own3.blocks_lt
  simp only [EngA.blocks,List.mem_append] at hb2
  rcases hk with hk | hk | hk | hk | hk
  ·have:=hb2 _ (.inl hk);omega
  ·have:=hb2 _ (.inr (.inl hk));omega
  ·have:=hb2 _ (.inr (.inr (.inl hk)));omega
  ·have:=hb2 _ (.inr (.inr (.inr (.inl hk))));omega
  ·have:=(oh3.lt _ (Option.mem_toList.1 hk)).1;omega
 have HI:=eng_info sT
 have HO:=all_oneCell_toArray (oneE T)
 have h2n:Hid (w1.setCell ⟨R,141,none⟩ (.slice a hs.length c)=w2):=h2'.out
 clear h2' c2 c3 b1 b2 own1 own2 own3 oh oh3 oT bZ bZ2 bZ3 hwF hsF bF t2 s2 T12 hb1 hbW
 go_upto_region 2 with fail
 rw [h2n.out]
 clear h2n f0 x0
 go_wp2_with (first | (guard_target=wpList _ _ _ (Oper.mk (some 12) _ _ _ _ _::_) _ _;refine wpList_load_mid rfl 58 (.tmp 11) rfl R 0 rfl (T.cells) _ rT Tryz.underlying58 rfl HI ?_) | (guard_target=wpList _ _ _ (Oper.mk none (Op.store _ (Operand.tmp 2) _) _ _ _ _::_) _ _;refine wpList_store_mid rfl 58 (.tmp 2) (.tmp 12) rfl w.heap.size 0 (T.cells).toArray rfl rfl HTF.out (by rw [List.size_toArray];exact HI) HO ?_) | fail)
 rw [hWF.out]
 exact bodyPost_ret (v:=.agg T.cells.toArray) (results_one Tryz.results27 rfl HLF.out) rfl ⟨hs,a,c,by rw [hT.out],HP,by rw [hT.out];exact HEND.out.1,HEND.out.2⟩
theorem run_nextR {P:Program} {w w':World} {m:Sem Value} {v:Value} (h:m.run P w=.ok v w'):(do let r ← m;pure (Next.value r):Sem Next).run P w=.ok (.value v) w':=by simp only [Sem.run_bind,h,Result.andThen_ok,Sem.run_pure]
theorem run_any (e:EngA) (se:e.shape) (w:World) (re:e.reads w) (hl:e.short 1048576) (hc:e.caps):
  Calls Tryz.prog 25 #[.agg e.cells.toArray] w fun r w'=>∃ (t:EngA) (M R:Nat),r=.returned (.pointer (some ⟨R,0,none⟩))∧t.shape∧Hid (t.v=e.v)∧t.own w' w.heap.size M∧M<R∧R<w'.heap.size∧w.heap.size≤M∧
   MapAt w' M (claimsTo e.holds e.holds.length)∧Box w' R (runCells t.cells M (e.holds.length:Int)) 120∧Below w.heap.size w w':=by
 have CE:=fun u (hr:e.reads u)=>copyEngine_any e se u hr hl hc
 have hlh:=hl.holds
 have HI:=eng_info se
 obtain ⟨W,hW,b0,hbW,hsW⟩:=boxes1 w e.cells 58
 have HB:Hid (∀ u,Below W.heap.size W u→Box u w.heap.size e.cells 58):=fun u hu=>b0.below hu b0.lt
 have HR:Hid (∀ u,Below W.heap.size W u→e.reads u):=fun u hu=>(re.below hbW).below hu
 have HEND:Hid (∀ u,Below W.heap.size W u→Below w.heap.size w u):=fun u hu=>hbW.trans (hu.mono hbW.size)
 have hw0:w.heap.size<W.heap.size:=by omega
 have N:Below W.heap.size W W:=Below.refl _ _
 clear b0 hsW
 have HCC:Hid (∀ u,Below W.heap.size W u→Calls Tryz.prog 62 #[.slice e.aH e.holds.length e.cH] u fun r w'=>r=.returned (.map (some u.heap.size))∧MapAt w' u.heap.size (claimsTo e.holds e.holds.length)∧Below u.heap.size u w'):=fun u hu=>claimsOf_any e.aH e.cH e.holds u (HR.out _ hu).holds (by omega)
 have HS:Hid (∀ u,Below W.heap.size W u→(u.rangeAt w.heap.size 0 e.cells∧u.cell? ⟨w.heap.size,141,none⟩=some (.slice e.aH e.holds.length e.cH))):=fun u hu=>⟨Box.range [] e.cells [] (by simpa using HB.out u hu),(eng_parts se (HB.out u hu)).2.2.2.2.1⟩
 clear re hl
 go_enter Tryz.func25,Tryz.ntmps25
 go_upto_region 1 with fail
 rw [hW.out]
 clear hW
 have D0:Below W.heap.size W W.drew:=N.drew
 have C1:=CE W.drew (HR.out _ D0)
 refine wp_region_held_drew (S:=fun u=>(u.rangeAt w.heap.size 0 e.cells∧u.cell? ⟨w.heap.size,141,none⟩=some (.slice e.aH e.holds.length e.cH))) (by kernel_rfl) (HS.out _ D0) (fun hHeld=>?_)
 generalize W.drew=d0 at*
 refine tk 0 rfl (yieldsIf_load_mid (by rfl) _ _ rfl _ _ rfl (e.cells) _ (fun _ h=>h.1) Tryz.underlying58 rfl HI) hHeld ?_
 try simp only [zz]
 refine tq 2 (v:=.pointer (some ⟨w.heap.size,141,none⟩)) rfl hHeld ?_
 try simp only [zz]
 refine tk 3 (v:=.slice e.aH e.holds.length e.cH) rfl (Or.inl ⟨by rfl,?_⟩) hHeld ?_
 ·intro w' hSw
  have hx:=hSw.2
  go_simp<;>rfl
 try simp only [zz]
 refine tq 5 (v:=.pointer (some ⟨w.heap.size,141,none⟩)) rfl hHeld ?_
 try simp only [zz]
 refine tk 6 (v:=.slice e.aH e.holds.length e.cH) rfl (Or.inl ⟨by rfl,?_⟩) hHeld ?_
 ·intro w' hSw
  have hx:=hSw.2
  go_simp<;>rfl
 try simp only [zz]
 refine tq 7 (v:=.int .i64 (e.holds.length:Int)) rfl hHeld ?_
 try simp only [zz]
 refine wpAnyH_ready (rs:=[1]) (by kernel_rfl) (by simp) ?_
 refine AllReadyH.cons rfl (fun K hK=>?_) AllReadyH.nil
 go_simp
 refine C1.mono ?_
 clear C1
 rintro r d1 ⟨t,rfl,st,hv,ot,hb1⟩
 have D1:Below W.heap.size W d1:=D0.trans (hb1.mono D0.size)
 have z1:=hb1.size
 have zd:=D0.size
 refine hK.out _ _ (HS.out _ D1) (fun hHeld=>?_)
 clear hK K hb1
 try simp only [zz]
 refine wpAnyH_ready (rs:=[4]) (by kernel_rfl) (by simp) ?_
 refine AllReadyH.cons rfl (fun K hK=>?_) AllReadyH.nil
 go_simp
 refine (HCC.out _ D1).mono ?_
 rintro r d2 ⟨rfl,hm2,hb2⟩
 have D2:Below W.heap.size W d2:=D1.trans (hb2.mono D1.size)
 have z2:=hb2.size
 have hmL:=hm2.lt
 replace ot:=ot.below hb2
 refine hK.out _ _ (HS.out _ D2) (fun hHeld=>?_)
 clear hK K hb2
 try simp only [zz]
 refine tk 8 (v:=.agg (runCells t.cells d1.heap.size (e.holds.length:Int)).toArray) rfl (Or.inl ⟨by rfl,?_⟩) hHeld ?_
 ·intro w' hSw
  have e8:=run_buildR w' t st d1.heap.size (e.holds.length:Int)
  refine run_nextR ?_
  simp only [List.map_toArray,List.map_cons,List.map_nil]
  exact e8
 try simp only [zz]
 obtain ⟨d3,hd3,bR,hb3,hs3⟩:=boxes1 d2 (runCells t.cells d1.heap.size (e.holds.length:Int)) 120
 have D3:Below W.heap.size W d3:=D2.trans (hb3.mono D2.size)
 have hlR:=bR.lt
 have z3:=hb3.size
 replace hm2:=hm2.below hb3
 replace ot:=ot.below hb3
 refine wpAnyH_ready (rs:=[9]) (by kernel_rfl) (by simp) ?_
 refine AllReadyH.cons rfl (fun K hK=>?_) AllReadyH.nil
 go_simp
 rw [hd3.out]
 refine hK.out _ _ (HS.out _ D3) (fun hHeld=>?_)
 clear hK K hb3 hd3 hs3
 try simp only [zz]
 refine tq 10 (v:=.pointer (some ⟨d2.heap.size,0,none⟩)) rfl hHeld ?_
 try simp only [zz]
 refine wpAnyH_done (by kernel_rfl) ?_ _
 clear hHeld
 have HE:Hid (_∧_∧_∧_∧_∧_∧_∧_∧_):=⟨st,hv,ot.widen (show w.heap.size≤d0.heap.size by omega) (Nat.le_refl _) (by omega),hmL,hlR,(show w.heap.size≤d1.heap.size by omega),hm2,bR,HEND.out _ D3⟩
 go_wp2
 go_ret
 exact ⟨t,d1.heap.size,d2.heap.size,rfl,HE.out⟩
end Go.Proofs.YtfehemepdoomdaaGreatDoor
namespace Go.Proofs.YtfehemepdoomdaaGreatDoor
structure ClaimsOk (ms:List ClaimV) (hs:List HoldV):Prop where
 got:∀ h∈hs,∃ c,getC h.oid ms=some c∧c.tx=h.tx
 only:∀ k c,1≤k→k≤31→getC k ms=some c→⟨c.tx,k⟩∈hs
 oids:∀ h∈hs,1≤h.oid∧h.oid≤31
 up:hs.Pairwise (fun a b=>(atC a.oid ms).place<(atC b.oid ms).place)
theorem mem_listC (ms:List ClaimV) (h:HoldV):∀ k:Nat,h∈listC ms k ↔ ∃ c,getC h.oid ms=some c∧c.tx=h.tx∧1≤h.oid∧h.oid≤(k:Int):=by
 intro k
 induction k with
 | zero=>
  constructor
  ·intro hh;cases hh
  ·rintro ⟨c,_,_,h1,h2⟩;omega
 | succ k ih=>
  cases hg:getC ((k:Int)+1) ms with
  | none=>
   rw [listC_no hg,ih]
   refine ⟨fun ⟨c,a,b,d,e⟩=>⟨c,a,b,d,by omega⟩,fun ⟨c,a,b,d,e⟩=>⟨c,a,b,d,?_⟩⟩
   by_cases q:h.oid=(k:Int)+1
   ·rw [q,hg] at a;cases a
   ·omega
  | some m=>
   rw [listC_yes hg,List.mem_append,ih,List.mem_singleton]
   constructor
   ·rintro (⟨c,a,b,d,e⟩ | rfl)
    ·exact ⟨c,a,b,d,by omega⟩
    ·exact ⟨m,hg,rfl,by show (1:Int)≤(k:Int)+1;omega,by show (k:Int)+1≤_;omega⟩
   ·rintro ⟨c,a,b,d,e⟩
    by_cases q:h.oid=(k:Int)+1
    ·rw [q,hg] at a
     cases a
     refine .inr ?_
     obtain ⟨t,o⟩:=h
     simp only at b q
     rw [b,q]
    ·exact .inl ⟨c,a,b,d,by omega⟩
theorem listC_nodup (ms:List ClaimV):∀ k:Nat,(listC ms k).Nodup:=by
 intro k
 induction k with
 | zero=>exact List.nodup_nil
 | succ k ih=>
  cases hg:getC ((k:Int)+1) ms with
  | none=>rw [listC_no hg];exact ih
  | some m=>
   rw [listC_yes hg,List.nodup_append]
   refine ⟨ih,by simp,fun x hx y hy q=>?_⟩
   obtain ⟨c,_,_,_,h4⟩:=(mem_listC ms x k).1 hx
   rw [q,List.mem_singleton.1 hy] at h4
   simp only at h4
   omega
theorem ClaimsOk.nodup {ms:List ClaimV} {hs:List HoldV} (h:ClaimsOk ms hs):hs.Nodup:=h.up.imp (fun q e=>by rw [e] at q;omega)
theorem ClaimsOk.perm {ms:List ClaimV} {hs:List HoldV} (h:ClaimsOk ms hs):hs.Perm (listC ms 31):=by
 refine (List.perm_ext_iff_of_nodup h.nodup (listC_nodup ms 31)).2 (fun x=>?_)
 rw [mem_listC]
 constructor
 ·intro hx
  obtain ⟨c,h1,h2⟩:=h.got x hx
  exact ⟨c,h1,h2,(h.oids x hx).1,by have:=(h.oids x hx).2;omega⟩
 ·rintro ⟨c,h1,h2,h3,h4⟩
  have:=h.only x.oid c h3 (by omega) h1
  rw [h2] at this
  exact this
theorem ClaimsOk.sorted {ms:List ClaimV} {hs ts:List HoldV} (h:ClaimsOk ms hs) (hp:ts.Perm (listC ms 31)) (ho:ts.Pairwise (fun a b=>¬ (atC b.oid ms).place<(atC a.oid ms).place)):ts=hs:=by
 have hpt:ts.Perm hs:=hp.trans h.perm.symm
 refine List.Perm.eq_of_pairwise (le:=fun a b=>¬ (atC b.oid ms).place<(atC a.oid ms).place) ?_ ho (h.up.imp (fun q=>by omega)) hpt
 intro a b ha hb h1 h2
 have ha':a∈hs:=hpt.mem_iff.1 ha
 have he:(atC a.oid ms).place=(atC b.oid ms).place:=by omega
 obtain ⟨i,hi,rfl⟩:=List.mem_iff_getElem.1 ha'
 obtain ⟨j,hj,rfl⟩:=List.mem_iff_getElem.1 hb
 have up:=List.pairwise_iff_getElem.1 h.up
 rcases Nat.lt_trichotomy i j with q | q | q
 ·have:=up i j hi hj q;omega
 ·subst q;rfl
 ·have:=up j i hj hi q;omega
theorem claims_get (hs:List HoldV):∀ n,(∀ i,i<n→∀ j,j<i→(hs.getD j zeroH).oid≠(hs.getD i zeroH).oid)→∀ j,j<n→getC (hs.getD j zeroH).oid (claimsTo hs n)=some ⟨(hs.getD j zeroH).oid,(hs.getD j zeroH).tx,(j:Int)⟩:=by
 intro n
 induction n with
 | zero=>intro _ j hj;omega
 | succ n ih=>
  intro hd j hj
  rw [claimsTo,getC_put]
  by_cases e:j=n
  ·subst e;rw [if_pos rfl]
  ·rw [if_neg (hd n (by omega) j (by omega))]
   exact ih (fun i hi j hj=>hd i (by omega) j hj) j (by omega)
theorem claimsTo_ok {hs:List HoldV} (hd:∀ i,i<hs.length→∀ j,j<i→(hs.getD j zeroH).oid≠(hs.getD i zeroH).oid) (ho:∀ h∈hs,1≤h.oid∧h.oid≤31):ClaimsOk (claimsTo hs hs.length) hs:=by
 have hg:=claims_get hs hs.length hd
 have at':∀ i (hi:i<hs.length),getC hs[i].oid (claimsTo hs hs.length)=some ⟨hs[i].oid,hs[i].tx,(i:Int)⟩:=fun i hi=>by
  have:=hg i hi
  simpa [List.getD,hi] using this
 refine ⟨fun h hh=>?_,fun k c h1 h2 hk=>?_,ho,?_⟩
 ·obtain ⟨i,hi,rfl⟩:=List.mem_iff_getElem.1 hh
  exact ⟨_,at' i hi,rfl⟩
 ·have hne:getC k (claimsTo hs hs.length)≠none:=by rw [hk];simp
  have:∃ j,j<hs.length∧(hs.getD j zeroH).oid=k:=by
   apply Classical.byContradiction
   intro hc
   exact hne ((claims_none hs k hs.length).2 (fun j hj e=>hc ⟨j,hj,e⟩))
  obtain ⟨j,hj,rfl⟩:=this
  rw [hg j hj] at hk
  cases hk
  have:hs.getD j zeroH=hs[j]:=by simp [List.getD,hj]
  rw [this]
  exact List.getElem_mem hj
 ·rw [List.pairwise_iff_getElem]
  intro i j hi hj hij
  rw [atC_some (at' i hi),atC_some (at' j hj)]
  show (i:Int)<(j:Int)
  omega
theorem claims_place (hs:List HoldV) (k:Int):∀ n,0≤(atC k (claimsTo hs n)).place∧(atC k (claimsTo hs n)).place≤(n:Int):=by
 intro n
 induction n with
 | zero=>exact ⟨Int.le_refl _,Int.le_refl _⟩
 | succ n ih=>
  unfold atC at ih ⊢
  rw [claimsTo,getC_put]
  by_cases e:k=(hs.getD n zeroH).oid
  ·rw [if_pos e];simp only [Option.getD_some];omega
  ·rw [if_neg e];omega
end Go.Proofs.YtfehemepdoomdaaGreatDoor