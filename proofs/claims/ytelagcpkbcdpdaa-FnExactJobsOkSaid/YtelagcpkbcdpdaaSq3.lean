/- Several texts in one, in their order. -/
import Derived.Test.YtelagcpkbcdpdaaSq1
import Derived.ProofKit
import Derived.OpenShut
import Derived.ChangeOld
import Derived.Test.YtelagcpkbcdpdaaSq2
import Derived.Deep.QuietTactic
set_option maxHeartbeats 8000000
set_option maxRecDepth 100000
namespace Go.Proofs.Ytelagcpkbcdpdaa
open Go.RowKit
structure JobsShort (js:List JobA) (n:Nat):Prop where
 len:js.length≤n
 each:∀ j∈js,j.ops.length≤n
theorem fillJ_next (A:List JobA) (n k:Nat) (h:k<n):A++List.replicate (n-k) zeroJ=A++zeroJ::List.replicate (n-(k+1)) zeroJ:=by
 rw [show n-k=(n-(k+1))+1 by omega,List.replicate_succ]
theorem opsJ_snoc (A:List JobA) (js:List JobA) (q:JobA) (k:Nat) (hk:k<js.length) (h:opsJ A=(opsJ js).take k) (hq:q.ops=(js.getD k zeroJ).ops):opsJ (A++[q])=(opsJ js).take (k+1):=by
 have e:(opsJ js).take (k+1)=(opsJ js).take k++[(js.getD k zeroJ).ops]:=by
  rw [List.take_succ_eq_append_getElem (by rw [opsJ_len];exact hk)]
  simp [opsJ,List.getD,hk]
 rw [e,← h,← hq]
 simp [opsJ]
theorem toOpSS_any (a:Option Addr) (cap:Nat) (js:List JobA) (w:World) (hr:ReadsJ w a js) (hl:JobsShort js 1099511627776):
  Calls Try.prog 7 #[.slice a js.length cap] w fun e w'=>∃ a' c' js',e=.returned (.slice a' js'.length c')∧Hid (opsJ js'=opsJ js)∧OwnJ w' w.heap.size w'.heap.size a' c' js'∧Below w.heap.size w w':=by
 obtain ⟨hl1,hl2⟩:=hl
 obtain ⟨i0,hi,hz0,hz1,hz2⟩:=info_parts Try.infoOps
 have HCELL:Hid (∀ u,Below w.heap.size w u→∀ k,k<js.length→∃ b off,a=some ⟨b,off,none⟩∧u.cell? ⟨b,off+k,none⟩=some (js.getD k zeroJ).cell∧ReadsQ u (js.getD k zeroJ).a (js.getD k zeroJ).ops):=fun u hu k hk=>by
  obtain ⟨b,off,ha,hc⟩:=(hr.below hu) (by intro e;rw [e] at hk;simp at hk)
  exact ⟨b,off,ha,(hc k hk).1,(hc k hk).2⟩
 have HLE:Hid (∀ k,k<js.length→(js.getD k zeroJ).ops.length≤1099511627776):=fun k hk=>hl2 _ (jobD_mem js k hk)
 clear hr hl2
 go_enter Try.func7,Try.ntmps7
 go_wp2_with (at_make;refine wpList_make_full _ rfl _ _ 25 rfl w.heap.size 59 i0 (.slice none 0 0) 1 Try.underlying25 hi hz0 hz1 _ _ _ _ js.length rfl rfl rfl rfl (by rw [hz2];omega) (by simp [maxLen];omega) (Nat.le_refl _) ?_)
 intro w0 hown0 hgrow0
 have hown1:OwnJ w0 w.heap.size w0.heap.size (some ⟨w.heap.size,0,none⟩) js.length (List.replicate js.length zeroJ):=ownJ_made (by rw [← made_jobs,Nat.mul_one];exact hown0)
 have hb0:Below w.heap.size w w0:=(Below.refl _ _).grown hgrow0 (Nat.le_refl _) (fun k h=>by cases h)
 clear hown0 hgrow0
 go_wp2
 go_loopw [4] (fun i wr=>∃ (k:Nat) (A:List JobA),k≤js.length∧i=.int .i64 k∧A.length=k∧Hid (opsJ A=(opsJ js).take k)∧OwnJ wr w.heap.size wr.heap.size (some ⟨w.heap.size,0,none⟩) js.length (A++List.replicate (js.length-k) zeroJ)∧Below w.heap.size w wr)
  (fun i _=>js.length-(intOf i).toNat)
 case atStart=>exact ⟨0,[],Nat.zero_le _,rfl,rfl,rfl,hown1,hb0⟩
 case round=>
  obtain ⟨k,A,hk,rfl,hA,hops,hown,hnx⟩:=hrel
  by_cases hlt:k<js.length
  ·obtain ⟨b,off,rfl,hc,hrd⟩:=HCELL.out wr hnx k hlt
   have hll:=HLE.out k hlt
   have HSN:Hid (∀ q:JobA,q.ops=(js.getD k zeroJ).ops→opsJ (A++[q])=(opsJ js).take (k+1)):=fun q hq=>opsJ_snoc A js q k hlt hops.out hq
   rw [fillJ_next A js.length k hlt] at hown
   have hrl:(A++zeroJ::List.replicate (js.length-(k+1)) zeroJ).length=js.length:=by simp;omega
   clear HCELL HLE hown1 hb0 hops
   generalize js.getD k zeroJ=z at*
   have C:=toOpS_any z.a z.c z.ops wr hrd hll
   simp only [JobA.cell] at hc
   go_wp2_with fail
   refine C.mono ?_
   clear C hc hrd
   rintro e w1 ⟨a1,c1,rfl,ho1,hb1⟩
   have hownA:=hown.below hb1
   have hrow:=hownA.row
   rw [hrl] at hrow
   have x0:=hrow.cellAt k (by omega)
   rw [cellsJ_at _ k (by rw [hrl];exact hlt)] at x0
   have f0:=hrow.frozenAt k
   have z1:=hb1.size
   obtain ⟨W2,hW2,ho2,ht2,hs2⟩:=hownA.fill ⟨z.ops,a1,c1⟩ ho1 (Nat.le_refl _) hnx.size (Nat.le_refl _)
   rw [hA] at hW2
   simp only [JobA.cell] at hW2
   have hB2:Below w.heap.size w W2:=(hnx.trans (hb1.mono hnx.size)).trans ⟨ht2.os,ht2.tape,ht2.output,ht2.size,fun j hj=>ht2.block j (by have:=hnx.size;omega) (by simp;omega)⟩
   have HH:Hid (_∧_):=⟨ho2.widen (Nat.le_refl _) (by omega) (Nat.le_refl _),hB2⟩
   have HOP:Hid (opsJ (A++[(⟨z.ops,a1,c1⟩:JobA)])=(opsJ js).take (k+1)):=HSN.out ⟨z.ops,a1,c1⟩ rfl
   clear ho2 hB2 ht2 hownA hown hb1 hnx HSN hrow ho1
   generalize (A++zeroJ::List.replicate (js.length-(k+1)) zeroJ).getD k zeroJ=old at*
   simp only [JobA.cell] at x0
   go_wp2_with fail
   rw [hW2.out]
   go_roundw
   case rel=>exact ⟨k+1,A++[(⟨z.ops,a1,c1⟩:JobA)],by omega,by go_num,by simp [hA],HOP,by rw [List.append_assoc];exact HH.out.1,HH.out.2⟩
   case measure=>simp [intOf];omega
  ·have e:k=js.length:=by omega
   have HE:Hid (OwnJ wr w.heap.size wr.heap.size (some ⟨w.heap.size,0,none⟩) js.length A∧opsJ A=opsJ js∧A.length=js.length):=by
    have h1:=hown
    have h2:=hops.out
    rw [e,Nat.sub_self,List.replicate_zero,List.append_nil] at h1
    rw [e,List.take_of_length_le (by rw [opsJ_len];exact Nat.le_refl _)] at h2
    exact ⟨h1,h2,by omega⟩
   go_wp2
   go_ret
   exact ⟨some ⟨w.heap.size,0,none⟩,js.length,A,by rw [HE.out.2.2];rfl,HE.out.2.1,HE.out.1,hnx⟩
def szQ (n:Nat) (left:Int):Int:=if left-n<0 then -1 else left-n
theorem szOpS_any (a:Option Addr) (c n:Nat) (left:Int) (w:World) (hn:n≤9223372036854775807) (h0:0≤left∧left≤1048576):
  Calls Try.prog 16 #[.slice a n c,.int .i64 left] w fun e w'=>e=.returned (.int .i64 (szQ n left))∧w'=w:=by
 by_cases h:left-n<0
 ·have HS:Hid (szQ n left= -1):=by unfold szQ;rw [Hid,if_pos h]
  go_enter Try.func16,Try.ntmps16
  go_wp2
  go_ret
  exact ⟨ret_int HS.out.symm,rfl⟩
 ·have HS:Hid (szQ n left=left-n):=by unfold szQ;rw [Hid,if_neg h]
  go_enter Try.func16,Try.ntmps16
  go_wp2
  go_ret
  exact ⟨ret_int HS.out.symm,rfl⟩
theorem szOpSS_any (a:Option Addr) (cap:Nat) (js:List JobA) (left:Int) (w:World) (hr:ReadsJ w a js) (hn:JobsShort js 9223372036854775807) (hl:0≤left∧left≤1048576):
  Calls Try.prog 5 #[.slice a js.length cap,.int .i64 left] w fun e w'=>∃ z:Int,e=.returned (.int .i64 z)∧(z<0∨(0≤z∧z≤left∧JobsShort js 1048576))∧w'=w:=by
 obtain ⟨hn1,hn2⟩:=hn
 by_cases hle:left-js.length<0
 ·go_enter Try.func5,Try.ntmps5
  go_wp2
  go_ret
  exact ⟨-1,rfl,.inl (by omega),rfl⟩
 have hlen:js.length≤1048576:=by omega
 have HC:Hid (∀ k,k<js.length→∃ b off,a=some ⟨b,off,none⟩∧w.cell? ⟨b,off+k,none⟩=some (js.getD k zeroJ).cell):=fun k hk=>by
  obtain ⟨b,off,ha,hc⟩:=hr (by intro e;rw [e] at hk;simp at hk)
  exact ⟨b,off,ha,(hc k hk).1⟩
 have HLE:Hid (∀ k,k<js.length→(js.getD k zeroJ).ops.length≤9223372036854775807):=fun k hk=>hn2 _ (jobD_mem js k hk)
 have HA:Hid ((∀ k,k<js.length→(js.getD k zeroJ).ops.length≤1048576)→JobsShort js 1048576):=by
  intro h
  refine ⟨hlen,fun r hr=>?_⟩
  obtain ⟨k,hk,rfl⟩:=List.getElem_of_mem hr
  have:=h k hk
  simpa [List.getD,hk] using this
 clear hr hn2
 go_enter Try.func5,Try.ntmps5
 go_wp2
 go_loopw [1,5] (fun v i wr=>∃ (k:Nat) (z:Int),k≤js.length∧i=.int .i64 k∧v=.int .i64 z∧0≤z∧z≤left∧Hid (∀ j,j<k→(js.getD j zeroJ).ops.length≤1048576)∧Hid (wr=w)) (fun _ i _=>js.length-(intOf i).toNat)
 case atStart=>exact ⟨0,left-js.length,Nat.zero_le _,rfl,by go_num,by omega,by omega,fun j hj=>by omega,rfl⟩
 case round=>
  obtain ⟨k,z,hk,rfl,rfl,hz0,hz1,hsh,hw⟩:=hrel
  have hw':=hw.out
  subst hw'
  by_cases hlt:k<js.length
  ·obtain ⟨b,off,rfl,hcell⟩:=HC.out k hlt
   have hle:=HLE.out k hlt
   clear HC HLE
   have HN:Hid ((js.getD k zeroJ).ops.length≤1048576→∀ j,j<k+1→(js.getD j zeroJ).ops.length≤1048576):=fun h j hj=>by
    by_cases e:j=k
    ·rw [e];exact h
    ·exact hsh.out j (by omega)
   generalize js.getD k zeroJ=y at*
   have C:=szOpS_any y.a y.c y.ops.length z wr hle (by omega)
   simp only [JobA.cell] at hcell
   by_cases h:z-y.ops.length<0
   ·have HS:Hid (szQ y.ops.length z= -1):=by unfold szQ;rw [Hid,if_pos h]
    rw [HS.out] at C
    go_wp2_with fail
    refine C.mono ?_
    rintro e w1 ⟨rfl,rfl⟩
    go_wp2
    go_ret
    exact ⟨-1,rfl,.inl (by omega),rfl⟩
   ·have HS:Hid (szQ y.ops.length z=z-y.ops.length):=by unfold szQ;rw [Hid,if_neg h]
    rw [HS.out] at C
    have HH:=HN.out (by omega)
    have HM:Hid (0≤z-(y.ops.length:Int)∧z-(y.ops.length:Int)≤left):=⟨by omega,by omega⟩
    go_wp2_with fail
    refine C.mono ?_
    rintro e w1 ⟨rfl,rfl⟩
    clear C
    go_wp2
    go_roundw
    case rel=>exact ⟨k+1,z-y.ops.length,by omega,by go_num,rfl,HM.out.1,HM.out.2,HH,True.intro⟩
    case measure=>simp [intOf];omega
  ·have HE:Hid (JobsShort js 1048576):=HA.out (fun j hj=>hsh.out j (by omega))
   go_wp2
   go_ret
   exact ⟨z,rfl,.inr ⟨hz0,hz1,HE.out⟩,rfl⟩
theorem eqOpSS_same (a b:Option Addr) (ca cb:Nat) (js ks:List JobA) (w:World) (ha:ReadsJ w a js) (hb:ReadsJ w b ks) (he:opsJ ks=opsJ js) (hl:JobsShort js 1099511627776):
  Calls Try.prog 9 #[.slice a js.length ca,.slice b ks.length cb] w fun e w'=>e=.returned (.bool true)∧Below w.heap.size w w':=by
 have hle:ks.length=js.length:=by rw [← opsJ_len,he,opsJ_len]
 obtain ⟨hl1,hl2⟩:=hl
 have HC:Hid (∀ u,Below w.heap.size w u→∀ k,k<js.length→∃ b1 o1 b2 o2,a=some ⟨b1,o1,none⟩∧b=some ⟨b2,o2,none⟩∧u.cell? ⟨b1,o1+k,none⟩=some (js.getD k zeroJ).cell∧u.cell? ⟨b2,o2+k,none⟩=some (ks.getD k zeroJ).cell):=fun u hu k hk=>by
  obtain ⟨b1,o1,h1,hc1⟩:=(ha.below hu) (by intro e;rw [e] at hk;simp at hk)
  obtain ⟨b2,o2,h2,hc2⟩:=(hb.below hu) (by intro e;rw [e] at hle;simp at hle;omega)
  exact ⟨b1,o1,b2,o2,h1,h2,(hc1 k hk).1,(hc2 k (by omega)).1⟩
 have HQ:Hid (∀ k,k<js.length→(ks.getD k zeroJ).ops=(js.getD k zeroJ).ops∧∀ u,Below w.heap.size w u→Calls Try.prog 20 #[(js.getD k zeroJ).cell,(ks.getD k zeroJ).cell] u fun e w'=>e=.returned (.bool true)∧Below u.heap.size u w'):=fun k hk=>by
  have e:(ks.getD k zeroJ).ops=(js.getD k zeroJ).ops:=by rw [← opsJ_at,← opsJ_at,he]
  refine ⟨e,fun u hu=>?_⟩
  obtain ⟨b1,o1,h1,hc1⟩:=(ha.below hu) (by intro e;rw [e] at hk;simp at hk)
  obtain ⟨b2,o2,h2,hc2⟩:=(hb.below hu) (by intro e;rw [e] at hle;simp at hle;omega)
  have r2:=(hc2 k (by omega)).2
  rw [e] at r2
  have:=eqOpS_same (js.getD k zeroJ).a (ks.getD k zeroJ).a (js.getD k zeroJ).c (ks.getD k zeroJ).c (js.getD k zeroJ).ops u (hc1 k hk).2 r2 (hl2 _ (jobD_mem js k hk))
  simp only [JobA.cell,e]
  exact this
 rw [hle]
 clear ha hb he hl2
 go_enter Try.func9,Try.ntmps9
 go_wp2
 go_loopw [5] (fun i wr=>∃ k:Nat,k≤js.length∧i=.int .i64 k∧Below w.heap.size w wr) (fun i _=>js.length-(intOf i).toNat)
 case atStart=>exact ⟨0,Nat.zero_le _,rfl,Below.refl _ _⟩
 case round=>
  obtain ⟨k,hk,rfl,hbl⟩:=hrel
  by_cases hlt:k<js.length
  ·obtain ⟨b1,o1,b2,o2,rfl,rfl,h1,h2⟩:=HC.out wr hbl k hlt
   have HS:Hid (∀ w1,Below w.heap.size w w1→w1.cell? ⟨b1,o1+k,none⟩=some (js.getD k zeroJ).cell∧w1.cell? ⟨b2,o2+k,none⟩=some (ks.getD k zeroJ).cell):=fun w1 hh=>by
    obtain ⟨b1',o1',b2',o2',e1,e2,g1,g2⟩:=HC.out w1 hh k hlt
    cases e1;cases e2
    exact ⟨g1,g2⟩
   have HQk:Hid _:=(HQ.out k hlt).2
   clear HC HQ
   generalize js.getD k zeroJ=z at*
   generalize ks.getD k zeroJ=y at*
   have hh:=HS.out wr hbl
   simp only [JobA.cell] at h1 h2 HS HQk hh
   clear h1 h2
   go_wp2_with fail
   go_region_held3 (fun w1=>w1.cell? ⟨b1,o1+k,none⟩=some (.slice z.a z.ops.length z.c)∧w1.cell? ⟨b2,o2+k,none⟩=some (.slice y.a y.ops.length y.c))
    (first | exact HS.out _ hw2 | go_keep | fail)
    ((first | (go_at_call 20;refine (HQk.out _ (hbl.drew)).mono ?_;rintro e w2 ⟨rfl,hb2⟩;have hw2:Below w.heap.size w w2:=(hbl.drew).trans (hb2.mono hbl.size)) | fail))
   all_goals
    go_wp2_with fail
    go_roundw
    case rel=>exact ⟨k+1,by omega,by go_num,hw2⟩
    case measure=>simp [intOf];omega
  ·go_wp2
   go_ret
   exact ⟨rfl,hbl⟩
section
open Go.ChangeShapes Go.WideShapes Go.ChangeAt
variable {H:Type} {enc:TypeId × Value→H} {w:World} {base:Nat} {spare:Nat→Bool} {held:Bool}
theorem Try.cellsOp:Try.prog.cellsOf 77=3:=by kernel_rfl
theorem Try.cellsOps:Try.prog.cellsOf 58=1:=by kernel_rfl
theorem Try.cellsIq:Try.prog.cellsOf 3=1:=by kernel_rfl
theorem some_atQ {α:Type} (xs:List α) (i:Nat) (h:i<xs.length):∃ y,xs[i]? =some y:=⟨_,List.getElem?_eq_getElem h⟩
theorem trod_numQ {fuel:Nat} {cs:List Value} {x:DataW H × List MemPlace} (h:DataW.trod enc Try.prog w base spare held fuel 3 cs=some x):∃ n:Int,cs=[.int .i64 n]:=by
 obtain ⟨n,rfl,_,hw⟩:=DataW.trod_int Try.underlying3 h
 exact ⟨n,rfl⟩
theorem trod_op {fuel:Nat} {cs:List Value} {x:DataW H × List MemPlace} (h:DataW.trod enc Try.prog w base spare held fuel 77 cs=some x):∃ t:OpV,cs=t.cells:=by
 obtain ⟨xs,n,_,_,hlen,hxl,hf⟩:=DataW.trod_struct Try.underlying77 h
 rw [Try.cellsOp] at hlen
 match cs,hlen with
 | [v0,v1,v2],_=>
  have f0:=hf 0 _ rfl
  have f1:=hf 1 _ rfl
  have f2:=hf 2 _ rfl
  obtain ⟨y0,hx0⟩:=some_atQ xs 0 (by rw [hxl];decide)
  obtain ⟨y1,hx1⟩:=some_atQ xs 1 (by rw [hxl];decide)
  obtain ⟨y2,hx2⟩:=some_atQ xs 2 (by rw [hxl];decide)
  rw [hx0] at f0
  rw [hx1] at f1
  rw [hx2] at f2
  simp only [List.getElem_toArray,List.getElem_cons_zero,List.getElem_cons_succ,Try.cellsIq,List.drop,List.take] at f0 f1 f2
  obtain ⟨a,e0⟩:=trod_numQ f0
  obtain ⟨b,e1⟩:=trod_numQ f1
  obtain ⟨c,e2⟩:=trod_numQ f2
  simp only [List.cons.injEq,and_true] at e0 e1 e2
  subst e0 e1 e2
  exact ⟨⟨a,b,c⟩,rfl⟩
theorem trod_ops {fuel:Nat} {cs:List Value} {x:DataW H × List MemPlace} (h:DataW.trod enc Try.prog w base spare held fuel 58 cs=some x):
  ∃ (a:Option Addr) (c:Nat) (ls:List OpV),cs=[.slice a ls.length c]∧ReadsQ w a ls∧ls.length≤maxLen:=by
 rcases DataW.trod_slice Try.underlying58 h with ⟨rfl,_⟩ | ⟨a,len,cap,elems,rest,n,_,rfl,_,_,hl,hm,hlen,hel,_,_⟩
 ·exact ⟨none,0,[],rfl,ReadsQ.nil _ _,by simp⟩
 rw [Try.cellsOp] at hel
 have each:∀ i,i<len→∃ t:OpV,w.cells? base (a.add (i*3)) 3=some t.cells:=by
  intro i hi
  have hy:=hel i hi
  rw [List.getElem?_eq_getElem (by omega:i<elems.length),Option.bind_eq_some_iff] at hy
  obtain ⟨cs',hcs,hy'⟩:=hy
  obtain ⟨t,e⟩:=trod_op hy'
  exact ⟨t,by rw [hcs,e]⟩
 obtain ⟨f,hf⟩:∃ f:Nat→OpV,∀ i,i<len→w.cells? base (a.add (i*3)) 3=some (f i).cells:=by
  refine ⟨fun i=>if h:i<len then (each i h).choose else zeroQ,fun i hi=>?_⟩
  simp only [dif_pos hi]
  exact (each i hi).choose_spec
 refine ⟨some a,cap,(List.range len).map f,by simp,?_,by simp;omega⟩
 intro hne
 have hpos:=List.length_pos_iff.2 hne
 simp only [List.length_map,List.length_range] at hpos ⊢
 obtain ⟨b,off,spot⟩:=a
 have c0:=(World.cells?_some (hf 0 hpos)).2.2 0 (by decide)
 have hspot:spot=none:=by simpa [Addr.add] using World.cell?_spot c0
 subst hspot
 refine ⟨b,off,rfl,fun k hk=>?_⟩
 have e:((List.range len).map f).getD k zeroQ=f k:=by simp [List.getD,hk]
 rw [e]
 have hc:=(World.cells?_some (hf k hk)).2.2
 have d0:=hc 0 (by decide)
 have d1:=hc 1 (by decide)
 have d2:=hc 2 (by decide)
 simp only [Addr_add,OpV.cells] at d0 d1 d2
 exact ⟨by simpa using d0,by simpa using d1,by simpa using d2⟩
theorem trod_jobs {fuel:Nat} {cs:List Value} {x:DataW H × List MemPlace} (h:DataW.trod enc Try.prog w base spare held fuel 22 cs=some x):
  ∃ (a:Option Addr) (c:Nat) (js:List JobA),cs=[.slice a js.length c]∧ReadsJ w a js∧JobsShort js maxLen:=by
 rcases DataW.trod_slice Try.underlying22 h with ⟨rfl,_⟩ | ⟨a,len,cap,elems,rest,n,_,rfl,_,_,hl,hm,hlen,hel,_,_⟩
 ·exact ⟨none,0,[],rfl,ReadsJ.nil _ _,⟨by simp,by simp⟩⟩
 rw [Try.cellsOps] at hel
 have each:∀ i,i<len→∃ t:JobA,w.cells? base (a.add (i*1)) 1=some [t.cell]∧ReadsQ w t.a t.ops∧t.ops.length≤maxLen:=by
  intro i hi
  have hy:=hel i hi
  rw [List.getElem?_eq_getElem (by omega:i<elems.length),Option.bind_eq_some_iff] at hy
  obtain ⟨cs',hcs,hy'⟩:=hy
  obtain ⟨a',c',ls,e,h1,h2⟩:=trod_ops hy'
  exact ⟨⟨ls,a',c'⟩,by rw [hcs,e];rfl,h1,h2⟩
 obtain ⟨f,hf⟩:∃ f:Nat→JobA,∀ i,i<len→w.cells? base (a.add (i*1)) 1=some [(f i).cell]∧ReadsQ w (f i).a (f i).ops∧(f i).ops.length≤maxLen:=by
  refine ⟨fun i=>if h:i<len then (each i h).choose else zeroJ,fun i hi=>?_⟩
  simp only [dif_pos hi]
  exact (each i hi).choose_spec
 refine ⟨some a,cap,(List.range len).map f,by simp,?_,⟨by simp;omega,fun j hj=>?_⟩⟩
 ·intro hne
  have hpos:=List.length_pos_iff.2 hne
  simp only [List.length_map,List.length_range] at hpos ⊢
  obtain ⟨b,off,spot⟩:=a
  have c0:=(World.cells?_some (hf 0 hpos).1).2.2 0 (by decide)
  have hspot:spot=none:=by simpa [Addr.add] using World.cell?_spot c0
  subst hspot
  refine ⟨b,off,rfl,fun k hk=>?_⟩
  have e:((List.range len).map f).getD k zeroJ=f k:=by simp [List.getD,hk]
  rw [e]
  have hc:=(World.cells?_some (hf k hk).1).2.2
  have d0:=hc 0 (by decide)
  simp only [Addr_add] at d0
  exact ⟨by simpa using d0,(hf k hk).2.1⟩
 ·obtain ⟨k,hk,rfl⟩:=List.mem_map.1 hj
  exact (hf k (List.mem_range.1 hk)).2.2
theorem open_jobs {b0:Nat} {v:Value} {d:DataW H} {ps:List MemPlace} (hval:Value.okWide Try.prog w .any b0 22 v) (h:DataW.Trod enc Try.prog w base spare held 22 v d ps):
  ∃ (a:Option Addr) (c:Nat) (js:List JobA),v=.slice a js.length c∧ReadsJ w a js∧JobsShort js maxLen:=by
 obtain ⟨a,len,cap,hv⟩:=okWide_slice (e:=58) Try.underlying22 hval
 subst hv
 obtain ⟨fuel,hf⟩:=h
 have e:(Value.slice a len cap).cells.toList=[Value.slice a len cap]:=rfl
 rw [e] at hf
 obtain ⟨a',c',js,hc,rest⟩:=trod_jobs hf
 simp only [List.cons.injEq,and_true] at hc
 exact ⟨a',c',js,hc,rest⟩
end
end Go.Proofs.Ytelagcpkbcdpdaa
namespace Go.Proofs.Ytelagcpkbcdpdaa
open Go.RowKit
def opB (o:OpV):Bool:=if o.kd=4 then (o.oid == 0 && o.num == 0) else (inB o.kd 1 3 && (inB o.oid 1 31 && inB o.num (-1000) 1000))
def opsB (l:List OpV):Bool:=decide (l.length≤6) && l.all opB
def jobsB (L:List (List OpV)):Bool:=decide (L.length≤4) && L.all opsB
theorem opsB_long {l:List OpV} (h:¬ l.length≤6):opsB l=false:=by simp [opsB,h]
theorem opsB_hit {l:List OpV} {k:Nat} (h:k<l.length) (h1:opB (l.getD k zeroQ)=false):opsB l=false:=by rw [opsB,all_hit h h1,Bool.and_false]
theorem opsB_end {l:List OpV} {k:Nat} (h:¬ k<l.length) (h0:(l.take k).all opB=true) (hl:l.length≤6):opsB l=true:=by rw [opsB,all_end h h0,Bool.and_true];exact decide_eq_true hl
theorem jobsB_long {L:List (List OpV)} (h:¬ L.length≤4):jobsB L=false:=by simp [jobsB,h]
theorem jobsB_hit {L:List (List OpV)} {k:Nat} (h:k<L.length) (h1:opsB (L.getD k [])=false):jobsB L=false:=by rw [jobsB,all_hit h h1,Bool.and_false]
theorem jobsB_end {L:List (List OpV)} {k:Nat} (h:¬ k<L.length) (h0:(L.take k).all opsB=true) (hl:L.length≤4):jobsB L=true:=by rw [jobsB,all_end h h0,Bool.and_true];exact decide_eq_true hl
theorem JobsShort.of_ops {js ks:List JobA} {n:Nat} (h:JobsShort js n) (he:opsJ ks=opsJ js):JobsShort ks n:=by
 refine ⟨by rw [← opsJ_len,he,opsJ_len];exact h.len,fun j hj=>?_⟩
 have h1:j.ops∈opsJ js:=by rw [← he];exact List.mem_map_of_mem hj
 obtain ⟨i,hi,e⟩:=List.mem_map.1 h1
 rw [← e]
 exact h.each i hi
theorem JobsShort.mono {js:List JobA} {n m:Nat} (h:JobsShort js n) (hm:n≤m):JobsShort js m:=⟨Nat.le_trans h.len hm,fun j hj=>Nat.le_trans (h.each j hj) hm⟩
theorem l10Op_any (o:OpV) (w:World):
  Calls Try.prog 17 #[.agg #[.int .i64 o.kd,.int .i64 o.oid,.int .i64 o.num]] w fun e w'=>e=.returned (.bool (opB o))∧Below w.heap.size w w':=by
 obtain ⟨x,y,z⟩:=o
 obtain ⟨W,hW,b0,hbW,hsW⟩:=boxes1 w [.int .i64 x,.int .i64 y,.int .i64 z] 62
 obtain ⟨q0,q1,q2,_⟩:=b0.three
 have C1:=l1In_any x 1 3 W
 have C2:=l1In_any y 1 31 W
 have C3:=l1In_any z (-1000) 1000 W
 have HB:Hid (opB ⟨x,y,z⟩=if x=4 then (y == 0 && z == 0) else (inB x 1 3 && (inB y 1 31 && inB z (-1000) 1000))):=rfl
 generalize opB ⟨x,y,z⟩=R at*
 simp only
 clear b0 hsW
 by_cases h4:x=4
 ·have hR:R=(y == 0 && z == 0):=by rw [HB.out,if_pos h4]
  clear HB C1 C2 C3
  subst h4
  by_cases hy:y=0
  ·subst hy
   by_cases hz:z=0
   ·subst hz
    go_enter Try.func17,Try.ntmps17
    go_wp2
    rw [hW.out]
    go_ret
    exact ⟨ret_bool (by rw [hR];rfl),hbW⟩
   ·have kz:(z == 0)=false:=by simpa using hz
    have HR:Hid (R=false):=by rw [Hid,hR,kz];rfl
    clear hR
    go_enter Try.func17,Try.ntmps17
    go_wp2
    rw [hW.out]
    go_ret
    exact ⟨ret_bool HR.out.symm,hbW⟩
  ·have ky:(y == 0)=false:=by simpa using hy
   have HR:Hid (R=false):=by rw [Hid,hR,ky];rfl
   clear hR
   go_enter Try.func17,Try.ntmps17
   go_wp2
   rw [hW.out]
   go_ret
   exact ⟨ret_bool HR.out.symm,hbW⟩
 have hR:R=(inB x 1 3 && (inB y 1 31 && inB z (-1000) 1000)):=by rw [HB.out,if_neg h4]
 have e4:(x == 4)=false:=by simpa using h4
 clear HB h4
 generalize inB x 1 3=x1 at*
 generalize inB y 1 31=x2 at*
 generalize inB z (-1000) 1000=x3 at*
 cases x1
 ·go_enter Try.func17,Try.ntmps17
  go_wp2_with fail
  rw [hW.out]
  refine C1.mono ?_
  rintro e w' ⟨rfl,rfl⟩
  go_wp2
  go_ret
  exact ⟨ret_bool (by rw [hR];rfl),hbW⟩
 cases x2
 ·go_enter Try.func17,Try.ntmps17
  go_wp2_with fail
  rw [hW.out]
  refine C1.mono ?_
  rintro e w' ⟨rfl,rfl⟩
  go_wp2_with fail
  refine C2.mono ?_
  rintro e w' ⟨rfl,rfl⟩
  go_wp2
  go_ret
  exact ⟨ret_bool (by rw [hR];rfl),hbW⟩
 ·go_enter Try.func17,Try.ntmps17
  go_wp2_with fail
  rw [hW.out]
  refine C1.mono ?_
  rintro e w' ⟨rfl,rfl⟩
  go_wp2_with fail
  refine C2.mono ?_
  rintro e w' ⟨rfl,rfl⟩
  go_wp2_with fail
  refine C3.mono ?_
  rintro e w' ⟨rfl,rfl⟩
  go_wp2
  go_ret
  exact ⟨ret_bool (by rw [hR];rfl),hbW⟩
theorem specJobsOk_any (a:Option Addr) (c:Nat) (js:List JobA) (w:World) (hr:ReadsJ w a js) (hl:JobsShort js 1099511627776):
  Calls Try.prog 6 #[.slice a js.length c] w fun e w'=>e=.returned (.bool (jobsB (opsJ js)))∧Below w.heap.size w w':=by
 obtain ⟨hl1,hl2⟩:=hl
 have HC:Hid (∀ u,Below w.heap.size w u→∀ k,k<js.length→∃ b off,a=some ⟨b,off,none⟩∧u.cell? ⟨b,off+k,none⟩=some (js.getD k zeroJ).cell∧ReadsQ u (js.getD k zeroJ).a (js.getD k zeroJ).ops∧(js.getD k zeroJ).ops.length≤1099511627776):=fun u hu k hk=>by
  obtain ⟨b,off,ha,hc⟩:=(hr.below hu) (by intro e;rw [e] at hk;simp at hk)
  exact ⟨b,off,ha,(hc k hk).1,(hc k hk).2,hl2 _ (jobD_mem js k hk)⟩
 have HL:(opsJ js).length=js.length:=opsJ_len js
 have HLONG:Hid (¬ js.length≤4→jobsB (opsJ js)=false):=fun h=>jobsB_long (by omega)
 have HHIT:Hid (∀ k,k<js.length→opsB (js.getD k zeroJ).ops=false→jobsB (opsJ js)=false):=fun k hk h=>jobsB_hit (k:=k) (by omega) (by rw [opsJ_at];exact h)
 have HSTEP:Hid (∀ k,k<js.length→((opsJ js).take k).all opsB=true→opsB (js.getD k zeroJ).ops=true→((opsJ js).take (k+1)).all opsB=true):=fun k hk h h1=>all_step (z:=[]) (by omega) h (by rw [opsJ_at];exact h1)
 have HEND:Hid (∀ k,¬ k<js.length→((opsJ js).take k).all opsB=true→js.length≤4→jobsB (opsJ js)=true):=fun k hk h h4=>jobsB_end (k:=k) (by omega) h (by omega)
 clear hr hl2 HL
 generalize jobsB (opsJ js)=R at*
 generalize opsJ js=L at*
 by_cases h4:js.length≤4
 case neg=>
  have HR:Hid (R=false):=HLONG.out h4
  clear HC HHIT HSTEP HEND HLONG
  go_enter Try.func6,Try.ntmps6
  go_wp2
  go_ret
  exact ⟨ret_bool HR.out.symm,Below.refl _ _⟩
 clear HLONG
 have H4:Hid (js.length≤4):=h4
 go_enter Try.func6,Try.ntmps6
 go_wp2
 clear h4
 go_loopw [3] (fun i wr=>∃ k:Nat,k≤js.length∧i=.int .i64 k∧Hid ((L.take k).all opsB=true)∧Below w.heap.size w wr) (fun i _=>js.length-(intOf i).toNat)
 case atStart=>exact ⟨0,Nat.zero_le _,rfl,(show (L.take 0).all opsB=true by simp),Below.refl _ _⟩
 case round=>
  obtain ⟨k,hk,rfl,hall,hbl⟩:=hrel
  by_cases hlt:k<js.length
  ·obtain ⟨b,off,rfl,c0,hrz,hlz⟩:=HC.out wr hbl k hlt
   have HH1:Hid (opsB (js.getD k zeroJ).ops=false→R=false):=fun h=>HHIT.out k hlt h
   have HH2:Hid (opsB (js.getD k zeroJ).ops=true→(L.take (k+1)).all opsB=true):=fun h=>HSTEP.out k hlt hall.out h
   have HCZ:Hid (∀ u,Below w.heap.size w u→u.cell? ⟨b,off+k,none⟩=some (js.getD k zeroJ).cell∧ReadsQ u (js.getD k zeroJ).a (js.getD k zeroJ).ops):=fun u hu=>by
    obtain ⟨b',off',ha,h1,h2,_⟩:=HC.out u hu k hlt
    cases ha
    exact ⟨h1,h2⟩
   clear HC HHIT HSTEP HEND hall hrz
   generalize js.getD k zeroJ=z at*
   simp only [JobA.cell] at c0 HCZ
   by_cases h6:z.ops.length≤6
   case neg=>
    have HR:Hid (R=false):=HH1.out (opsB_long h6)
    clear HH1 HH2 HCZ
    go_wp2
    go_ret
    exact ⟨ret_bool HR.out.symm,hbl⟩
   have HQ1:Hid (∀ m,m<z.ops.length→opB (z.ops.getD m zeroQ)=false→R=false):=fun m hm h=>HH1.out (opsB_hit hm h)
   have HQ2:Hid (∀ m,m<z.ops.length→(z.ops.take m).all opB=true→opB (z.ops.getD m zeroQ)=true→(z.ops.take (m+1)).all opB=true):=fun m hm h h1=>all_step hm h h1
   have HQ3:Hid (∀ m,¬ m<z.ops.length→(z.ops.take m).all opB=true→(L.take (k+1)).all opsB=true):=fun m hm h=>HH2.out (opsB_end hm h h6)
   have HQC:Hid (∀ u,Below w.heap.size w u→∀ m,m<z.ops.length→∃ b2 o2,z.a=some ⟨b2,o2,none⟩∧u.cell? ⟨b2,o2+m*3,none⟩=some (.int .i64 (z.ops.getD m zeroQ).kd)∧u.cell? ⟨b2,o2+m*3+1,none⟩=some (.int .i64 (z.ops.getD m zeroQ).oid)∧u.cell? ⟨b2,o2+m*3+2,none⟩=some (.int .i64 (z.ops.getD m zeroQ).num)):=fun u hu m hm=>by
    obtain ⟨b2,o2,ha,hc⟩:=(HCZ.out u hu).2 (by intro e;rw [e] at hm;simp at hm)
    exact ⟨b2,o2,ha,hc m hm⟩
   have HCC:Hid (∀ u,Below w.heap.size w u→u.cell? ⟨b,off+k,none⟩=some (.slice z.a z.ops.length z.c)):=fun u hu=>(HCZ.out u hu).1
   clear HH1 HH2 HCZ
   go_wp2_with fail
   go_loopw [4] (fun i wq=>∃ m:Nat,m≤z.ops.length∧i=.int .i64 m∧Hid ((z.ops.take m).all opB=true)∧Below w.heap.size w wq) (fun i _=>z.ops.length-(intOf i).toNat)
   case atStart=>exact ⟨0,Nat.zero_le _,rfl,(show (z.ops.take 0).all opB=true by simp),hbl⟩
   case round=>
    obtain ⟨m,hm,rfl,hallm,hbm⟩:=hrel
    have cc:=HCC.out _ hbm
    by_cases hltm:m<z.ops.length
    ·obtain ⟨b2,o2,ha,d0,d1,d2⟩:=HQC.out _ hbm m hltm
     have HH1:Hid (opB (z.ops.getD m zeroQ)=false→R=false):=fun h=>HQ1.out m hltm h
     have HH2:Hid (opB (z.ops.getD m zeroQ)=true→(z.ops.take (m+1)).all opB=true):=fun h=>HQ2.out m hltm hallm.out h
     rw [ha] at cc
     clear ha HQC HQ1 HQ2 HQ3 hallm c0 HCC
     generalize z.ops.getD m zeroQ=y at*
     have C:=l10Op_any y wr
     generalize opB y=yb at*
     cases yb with
     | false=>
      have HR:Hid (R=false):=HH1.out rfl
      clear HH1 HH2
      go_wp2_with fail
      refine C.mono ?_
      rintro e w1 ⟨rfl,hb1⟩
      go_wp2
      go_ret
      exact ⟨ret_bool HR.out.symm,hbm.trans (hb1.mono hbm.size)⟩
     | true=>
      have HN:Hid ((z.ops.take (m+1)).all opB=true):=HH2.out rfl
      clear HH1 HH2
      go_wp2_with fail
      refine C.mono ?_
      rintro e w1 ⟨rfl,hb1⟩
      have hB1:Below w.heap.size w w1:=hbm.trans (hb1.mono hbm.size)
      clear C hb1 hbm d0 d1 d2 cc
      go_wp2_with fail
      go_roundw
      case rel=>exact ⟨m+1,by omega,by go_num,HN,hB1⟩
      case measure=>simp [intOf];omega
    ·have HN:Hid ((L.take (k+1)).all opsB=true):=HQ3.out m hltm hallm.out
     clear HQC HQ1 HQ2 HQ3 hallm c0 HCC
     go_wp2_with fail
     go_roundw
     case rel=>exact ⟨k+1,by omega,by go_num,HN,hbm⟩
     case measure=>simp [intOf];omega
  ·have HR:Hid (R=true):=HEND.out k hlt hall.out H4.out
   clear HC HHIT HSTEP HEND hall
   go_wp2
   go_ret
   exact ⟨ret_bool HR.out.symm,hbl⟩
theorem oidOk_job (x:Int) (w:World):Calls Try.prog 59 #[.int .i64 x] w fun e w'=>e=.returned (.bool (inB x 1 31))∧w'=w:=by
 by_cases h1:1≤x
 ·by_cases h2:x≤31
  ·have HB:Hid (inB x 1 31=true):=by simp [Hid,inB];omega
   go_enter Try.func59,Try.ntmps59
   go_wp2
   go_ret
   exact ⟨ret_bool HB.out.symm,rfl⟩
  ·have HB:Hid (inB x 1 31=false):=by simp [Hid,inB];omega
   go_enter Try.func59,Try.ntmps59
   go_wp2
   go_ret
   exact ⟨ret_bool HB.out.symm,rfl⟩
 ·have HB:Hid (inB x 1 31=false):=by simp [Hid,inB];omega
  go_enter Try.func59,Try.ntmps59
  go_wp2
  go_ret
  exact ⟨ret_bool HB.out.symm,rfl⟩
theorem implOpOk_any (o:OpV) (w:World):
  Calls Try.prog 38 #[.agg #[.int .i64 o.kd,.int .i64 o.oid,.int .i64 o.num]] w fun e w'=>e=.returned (.bool (opB o))∧Below w.heap.size w w':=by
 obtain ⟨x,y,z⟩:=o
 obtain ⟨W,hW,b0,hbW,hsW⟩:=boxes1 w [.int .i64 x,.int .i64 y,.int .i64 z] 62
 obtain ⟨q0,q1,q2,_⟩:=b0.three
 have C:=oidOk_job y W
 have HB:Hid (opB ⟨x,y,z⟩=if x=4 then (y == 0 && z == 0) else (inB x 1 3 && (inB y 1 31 && inB z (-1000) 1000))):=rfl
 generalize opB ⟨x,y,z⟩=R at*
 simp only
 clear b0 hsW
 by_cases h4:x=4
 ·have hR:R=(y == 0 && z == 0):=by rw [HB.out,if_pos h4]
  clear HB C
  subst h4
  by_cases hy:y=0
  ·subst hy
   by_cases hz:z=0
   ·subst hz
    go_enter Try.func38,Try.ntmps38
    go_wp2
    rw [hW.out]
    go_ret
    exact ⟨ret_bool (by rw [hR];rfl),hbW⟩
   ·have kz:(z == 0)=false:=by simpa using hz
    have HR:Hid (R=false):=by rw [Hid,hR,kz];rfl
    clear hR
    go_enter Try.func38,Try.ntmps38
    go_wp2
    rw [hW.out]
    go_ret
    exact ⟨ret_bool HR.out.symm,hbW⟩
  ·have ky:(y == 0)=false:=by simpa using hy
   have HR:Hid (R=false):=by rw [Hid,hR,ky];rfl
   clear hR
   go_enter Try.func38,Try.ntmps38
   go_wp2
   rw [hW.out]
   go_ret
   exact ⟨ret_bool HR.out.symm,hbW⟩
 have hR:R=(inB x 1 3 && (inB y 1 31 && inB z (-1000) 1000)):=by rw [HB.out,if_neg h4]
 clear HB
 by_cases h:1≤x∧x≤3
 ·have kx:inB x 1 3=true:=by simp [inB,h.1,h.2]
  rw [kx,Bool.true_and] at hR
  clear kx h4
  generalize inB y 1 31=yb at*
  obtain ⟨n1,n2⟩:=h
  have hx:x=1∨x=2∨x=3:=by omega
  clear n1 n2
  cases yb with
  | false=>
   have HR:Hid (R=false):=hR
   clear hR
   rcases hx with rfl | rfl | rfl
   all_goals
    go_enter Try.func38,Try.ntmps38
    go_wp2_with fail
    rw [hW.out]
    refine C.mono ?_
    rintro e w' ⟨rfl,rfl⟩
    go_wp2
    go_ret
    exact ⟨ret_bool HR.out.symm,hbW⟩
  | true=>
   rw [Bool.true_and] at hR
   by_cases z1: -1000≤z
   ·by_cases z2:z≤1000
    ·have HR:Hid (R=true):=by rw [Hid,hR];simp [inB,z1,z2]
     clear hR
     rcases hx with rfl | rfl | rfl
     all_goals
      go_enter Try.func38,Try.ntmps38
      go_wp2_with fail
      rw [hW.out]
      refine C.mono ?_
      rintro e w' ⟨rfl,rfl⟩
      go_wp2
      go_ret
      exact ⟨ret_bool HR.out.symm,hbW⟩
    ·have HR:Hid (R=false):=by rw [Hid,hR];simp [inB,z2]
     clear hR
     rcases hx with rfl | rfl | rfl
     all_goals
      go_enter Try.func38,Try.ntmps38
      go_wp2_with fail
      rw [hW.out]
      refine C.mono ?_
      rintro e w' ⟨rfl,rfl⟩
      go_wp2
      go_ret
      exact ⟨ret_bool ((decide_eq_false (by omega)).trans HR.out.symm),hbW⟩
   ·have HR:Hid (R=false):=by rw [Hid,hR];simp [inB,z1]
    clear hR
    rcases hx with rfl | rfl | rfl
    all_goals
     go_enter Try.func38,Try.ntmps38
     go_wp2_with fail
     rw [hW.out]
     refine C.mono ?_
     rintro e w' ⟨rfl,rfl⟩
     go_wp2
     go_ret
     exact ⟨ret_bool HR.out.symm,hbW⟩
 ·have HR:Hid (R=false):=by
   have:inB x 1 3=false:=by
    cases e:inB x 1 3
    ·rfl
    ·exact absurd (by simpa [inB] using e) h
   rw [Hid,hR,this];rfl
  have e1:(x == 1)=false:=by rw [beq_eq_false_iff_ne];omega
  have e2:(x == 2)=false:=by rw [beq_eq_false_iff_ne];omega
  have e3:(x == 3)=false:=by rw [beq_eq_false_iff_ne];omega
  have e4:(x == 4)=false:=by rw [beq_eq_false_iff_ne];omega
  clear hR h h4 C
  go_enter Try.func38,Try.ntmps38
  go_wp2
  rw [hW.out]
  go_ret
  exact ⟨ret_bool HR.out.symm,hbW⟩
theorem implOpsOk_any (a:Option Addr) (c:Nat) (ls:List OpV) (w:World) (hr:ReadsQ w a ls) (hl:ls.length≤1099511627776):
  Calls Try.prog 19 #[.slice a ls.length c] w fun e w'=>e=.returned (.bool (opsB ls))∧Below w.heap.size w w':=by
 have HC:Hid (∀ u,Below w.heap.size w u→∀ k,k<ls.length→∃ b off,a=some ⟨b,off,none⟩∧u.cell? ⟨b,off+k*3,none⟩=some (.int .i64 (ls.getD k zeroQ).kd)∧u.cell? ⟨b,off+k*3+1,none⟩=some (.int .i64 (ls.getD k zeroQ).oid)∧u.cell? ⟨b,off+k*3+2,none⟩=some (.int .i64 (ls.getD k zeroQ).num)):=fun u hu k hk=>by
  obtain ⟨b,off,ha,hc⟩:=(hr.below hu) (by intro e;rw [e] at hk;simp at hk)
  exact ⟨b,off,ha,hc k hk⟩
 have HHIT:Hid (∀ k,k<ls.length→opB (ls.getD k zeroQ)=false→opsB ls=false):=fun k hk h=>opsB_hit hk h
 have HSTEP:Hid (∀ k,k<ls.length→(ls.take k).all opB=true→opB (ls.getD k zeroQ)=true→(ls.take (k+1)).all opB=true):=fun k hk h h1=>all_step hk h h1
 have HEND:Hid (∀ k,¬ k<ls.length→(ls.take k).all opB=true→opsB ls=decide (ls.length≤6)):=fun k hk h=>by rw [opsB,all_end hk h,Bool.and_true]
 clear hr
 generalize opsB ls=R at*
 go_enter Try.func19,Try.ntmps19
 go_wp2
 go_loopw [7] (fun i wr=>∃ k:Nat,k≤ls.length∧i=.int .i64 k∧Hid ((ls.take k).all opB=true)∧Below w.heap.size w wr) (fun i _=>ls.length-(intOf i).toNat)
 case atStart=>exact ⟨0,Nat.zero_le _,rfl,(show (ls.take 0).all opB=true by simp),Below.refl _ _⟩
 case round=>
  obtain ⟨k,hk,rfl,hall,hbl⟩:=hrel
  by_cases hlt:k<ls.length
  ·obtain ⟨b,off,rfl,c0,c1,c2⟩:=HC.out wr hbl k hlt
   have HH1:Hid (opB (ls.getD k zeroQ)=false→R=false):=fun h=>HHIT.out k hlt h
   have HH2:Hid (opB (ls.getD k zeroQ)=true→(ls.take (k+1)).all opB=true):=fun h=>HSTEP.out k hlt hall.out h
   clear HC HHIT HSTEP HEND hall
   generalize ls.getD k zeroQ=z at*
   obtain ⟨V,hV,bz,hbV,hsV⟩:=boxes1 wr [.int .i64 z.kd,.int .i64 z.oid,.int .i64 z.num] 62
   obtain ⟨q0,q1,q2,_⟩:=bz.three
   have C:=implOpOk_any z V
   have hB:Below w.heap.size w V:=hbl.trans (hbV.mono hbl.size)
   generalize opB z=zb at*
   clear bz hsV hbV
   cases zb with
   | false=>
    have HR:Hid (R=false):=HH1.out rfl
    clear HH1 HH2
    go_wp2_with fail
    rw [hV.out]
    go_wp2_with fail
    refine C.mono ?_
    rintro e w1 ⟨rfl,hb1⟩
    go_wp2
    go_ret
    exact ⟨ret_bool HR.out.symm,hB.trans (hb1.mono hB.size)⟩
   | true=>
    have HN:Hid ((ls.take (k+1)).all opB=true):=HH2.out rfl
    clear HH1 HH2
    go_wp2_with fail
    rw [hV.out]
    go_wp2_with fail
    refine C.mono ?_
    rintro e w1 ⟨rfl,hb1⟩
    have hB1:Below w.heap.size w w1:=hB.trans (hb1.mono hB.size)
    clear C hV hb1 hB
    go_wp2_with fail
    go_roundw
    case rel=>exact ⟨k+1,by omega,by go_num,HN,hB1⟩
    case measure=>simp [intOf];omega
  ·have HR:Hid (R=decide (ls.length≤6)):=HEND.out k hlt hall.out
   clear HC HHIT HSTEP HEND hall
   have HT:Hid (decide ((ls.length:Int)≤6)=R):=by rw [Hid,HR.out];exact decide_eq_decide.2 (by omega)
   go_wp2
   go_ret
   exact ⟨ret_bool HT.out,hbl⟩
theorem implJobsOk_any (a:Option Addr) (c:Nat) (js:List JobA) (w:World) (hr:ReadsJ w a js) (hl:JobsShort js 1099511627776):
  Calls Try.prog 8 #[.slice a js.length c] w fun e w'=>e=.returned (.bool (jobsB (opsJ js)))∧Below w.heap.size w w':=by
 obtain ⟨hl1,hl2⟩:=hl
 have HC:Hid (∀ u,Below w.heap.size w u→∀ k,k<js.length→∃ b off,a=some ⟨b,off,none⟩∧u.cell? ⟨b,off+k,none⟩=some (js.getD k zeroJ).cell∧ReadsQ u (js.getD k zeroJ).a (js.getD k zeroJ).ops∧(js.getD k zeroJ).ops.length≤1099511627776):=fun u hu k hk=>by
  obtain ⟨b,off,ha,hc⟩:=(hr.below hu) (by intro e;rw [e] at hk;simp at hk)
  exact ⟨b,off,ha,(hc k hk).1,(hc k hk).2,hl2 _ (jobD_mem js k hk)⟩
 have HL:(opsJ js).length=js.length:=opsJ_len js
 have HHIT:Hid (∀ k,k<js.length→opsB (js.getD k zeroJ).ops=false→jobsB (opsJ js)=false):=fun k hk h=>jobsB_hit (k:=k) (by omega) (by rw [opsJ_at];exact h)
 have HSTEP:Hid (∀ k,k<js.length→((opsJ js).take k).all opsB=true→opsB (js.getD k zeroJ).ops=true→((opsJ js).take (k+1)).all opsB=true):=fun k hk h h1=>all_step (z:=[]) (by omega) h (by rw [opsJ_at];exact h1)
 have HEND:Hid (∀ k,¬ k<js.length→((opsJ js).take k).all opsB=true→jobsB (opsJ js)=decide (js.length≤4)):=fun k hk h=>by rw [jobsB,all_end (by omega) h,Bool.and_true,HL]
 clear hr hl2 HL
 generalize jobsB (opsJ js)=R at*
 generalize opsJ js=L at*
 go_enter Try.func8,Try.ntmps8
 go_wp2
 go_loopw [7] (fun i wr=>∃ k:Nat,k≤js.length∧i=.int .i64 k∧Hid ((L.take k).all opsB=true)∧Below w.heap.size w wr) (fun i _=>js.length-(intOf i).toNat)
 case atStart=>exact ⟨0,Nat.zero_le _,rfl,(show (L.take 0).all opsB=true by simp),Below.refl _ _⟩
 case round=>
  obtain ⟨k,hk,rfl,hall,hbl⟩:=hrel
  by_cases hlt:k<js.length
  ·obtain ⟨b,off,rfl,c0,hrz,hlz⟩:=HC.out wr hbl k hlt
   have HH1:Hid (opsB (js.getD k zeroJ).ops=false→R=false):=fun h=>HHIT.out k hlt h
   have HH2:Hid (opsB (js.getD k zeroJ).ops=true→(L.take (k+1)).all opsB=true):=fun h=>HSTEP.out k hlt hall.out h
   clear HC HHIT HSTEP HEND hall
   generalize js.getD k zeroJ=z at*
   simp only [JobA.cell] at c0
   have C:=implOpsOk_any z.a z.c z.ops wr hrz hlz
   generalize opsB z.ops=zb at*
   cases zb with
   | false=>
    have HR:Hid (R=false):=HH1.out rfl
    clear HH1 HH2
    go_wp2_with fail
    refine C.mono ?_
    rintro e w1 ⟨rfl,hb1⟩
    go_wp2
    go_ret
    exact ⟨ret_bool HR.out.symm,hbl.trans (hb1.mono hbl.size)⟩
   | true=>
    have HN:Hid ((L.take (k+1)).all opsB=true):=HH2.out rfl
    clear HH1 HH2
    go_wp2_with fail
    refine C.mono ?_
    rintro e w1 ⟨rfl,hb1⟩
    have hB1:Below w.heap.size w w1:=hbl.trans (hb1.mono hbl.size)
    clear C hb1 hbl c0
    go_wp2_with fail
    go_roundw
    case rel=>exact ⟨k+1,by omega,by go_num,HN,hB1⟩
    case measure=>simp [intOf];omega
  ·have HR:Hid (R=decide (js.length≤4)):=HEND.out k hlt hall.out
   clear HC HHIT HSTEP HEND hall
   have HT:Hid (decide ((js.length:Int)≤4)=R):=by rw [Hid,HR.out];exact decide_eq_decide.2 (by omega)
   go_wp2
   go_ret
   exact ⟨ret_bool HT.out,hbl⟩
end Go.Proofs.Ytelagcpkbcdpdaa
namespace Go.Proofs.Ytelagcpkbcdpdaa
open Go.RowKit
theorem lawJobsOk_walk (a:Option Addr) (c:Nat) (js:List JobA) (w:World) (hr:ReadsJ w a js) (hlen:JobsShort js maxLen):
  Calls Try.prog 3 #[.slice a js.length c] w fun e w'=>e=.returned (.bool true)∧Below w.heap.size w w':=by
 have hsz:JobsShort js 9223372036854775807:=hlen.mono (by simp only [maxLen];omega)
 clear hlen
 go_enter Try.func3,Try.ntmps3
 go_wp2_with fail
 refine (szOpSS_any a c js 1048576 w hr hsz (by omega)).mono ?_
 rintro e w1 ⟨left,rfl,hcase,rfl⟩
 rcases hcase with hs | ⟨hs,_,hsh⟩
 ·go_wp2
  go_ret
  exact ⟨rfl,Below.refl _ _⟩
 have hs2:JobsShort js 1099511627776:=hsh.mono (by decide)
 clear hsh hsz
 go_wp2_with fail
 refine (toOpSS_any a c js w1 hr hs2).mono ?_
 rintro e w2 ⟨a2,c2,j2,rfl,he2,ho2,hb2⟩
 go_wp2_with fail
 refine (specJobsOk_any a2 c2 j2 w2 ho2.reads (hs2.of_ops he2.out)).mono ?_
 rintro e w3 ⟨rfl,hb3⟩
 have K3:Below w1.heap.size w1 w3:=hb2.trans (hb3.mono hb2.size)
 go_wp2_with fail
 refine (toOpSS_any a c js w3 (hr.below K3) hs2).mono ?_
 rintro e w4 ⟨a4,c4,j4,rfl,he4,ho4,hb4⟩
 have K4:Below w1.heap.size w1 w4:=K3.trans (hb4.mono K3.size)
 go_wp2_with fail
 refine (implJobsOk_any a4 c4 j4 w4 ho4.reads (hs2.of_ops he4.out)).mono ?_
 rintro e w5 ⟨rfl,hb5⟩
 have K5:Below w1.heap.size w1 w5:=K4.trans (hb5.mono K4.size)
 rw [he2.out,he4.out]
 have ho5:=ho4.below hb5
 have hr5:=hr.below K5
 generalize jobsB (opsJ js)=B at*
 have hBB:(B != B)=false:=by cases B<;>rfl
 clear ho2 ho4 hb2 hb3 hb4 hb5 K3 K4 he2
 go_wp2_with fail
 refine (toOpSS_any a c js w5 hr5 hs2).mono ?_
 rintro e w6 ⟨a6,c6,j6,rfl,he6,ho6,hb6⟩
 have K6:Below w1.heap.size w1 w6:=K5.trans (hb6.mono K5.size)
 go_wp2_with fail
 refine (eqOpSS_same a4 a6 c4 c6 j4 j6 w6 (ho5.below hb6).reads ho6.reads (he6.out.trans he4.out.symm) (hs2.of_ops he4.out)).mono ?_
 rintro e w7 ⟨rfl,hb7⟩
 go_wp2
 go_ret
 exact ⟨rfl,K6.trans (hb7.mono K6.size)⟩
end Go.Proofs.Ytelagcpkbcdpdaa