/- Texts. -/
import Derived.Deep.RegionHeld
import Derived.MapKept
import Derived.Maps.Own
import Derived.Deep.Cut
import Derived.Test.YtnfdccldabbobaaGreatDoorP6
set_option maxHeartbeats 8000000
set_option maxRecDepth 100000
namespace Go.Proofs.YtnfdccldabbobaaGreatDoor
open Go.RowKit Go.Proofs.Tryz
theorem qaQ {ss:List qj} (h:Fit ss) {k:Nat} (hk:k<ss.length):(ss.getD k qw).v.o.ints.length≤1099511627776∧(ss.getD k qw).v.o.refs.length≤1099511627776:=h _ (xh hk)
theorem dx {P:Prop} (h:P:=by
 have h1:=Wj (ss.take j) 1099511627776 (fun s hs=>hl s (qfN hs));rw [qdm] at h1;have h2:min j ss.length*(2*1099511627776)≤4*(2*1099511627776):=Nat.mul_le_mul_right _ (by omega);rw [hcj.out];omega):P:=h
theorem Gz (ss:List qj) (h4:ss.length=4) (lo hi:Nat) (k0:Int) (w:World) (ho:qP w lo hi ss) (hl:Fit ss) (h0:0≤k0) (hk:k0≤10995116277760) (hhi:hi≤w.heap.size):
  Calls prog 142 #[.agg (cellsS ss).toArray,.int .i64 k0] w fun e w'=>e=.returned (.int .i64 (k0+jm ss))∧qP w' lo hi (kK ss k0)∧Touch (ss.flatMap qj.blocks) w w':=by
 obtain ⟨W,hW,b0,hbW,qD⟩:=qB w (cellsS ss) 46;have H4:Hid (ss.length=4):=h4;have HB:Hid (w.heap.size∉ss.flatMap qj.blocks):=fun hh=>by have:=(ho.qC _ hh).2;omega
 clear qD h4;go_enter func142,ntmps142;go_wp2_with fail;rw [hW.out];clear hW;go_loopw [1,5] (fun kk i wr=>∃ (j:Nat) (c:Nat),i=.int .i64 j∧kk=.int .i64 (k0+c)∧j≤4∧Hid (c=jm (ss.take j))∧qP wr lo hi (kK (ss.take j) k0++ss.drop j)∧Touch (ss.flatMap qj.blocks) W wr)
  (fun _ i _=>4-(intOf i).toNat)
 case atStart=>exact ⟨0,0,rfl,by simp,by omega,rfl,by simpa [kK] using ho.below hbW,Touch.refl _ _⟩
 case round=>
  obtain ⟨j,c,rfl,rfl,hj,hcj,hown,htr⟩:=hrel;have Uf:=b0.touch htr HB.out;have hc0:c≤8796093022208:=by
   exact dx
  by_cases hlt:j<4
  ·have hkl:j<ss.length:=by rw [H4.out];exact hlt
   obtain ⟨c0,c1,c2,c3,_⟩:=Uf.slot j hkl;obtain ⟨hd,htk⟩:=take_split ss j hkl;have hlk:=qaQ hl hkl;rw [hd] at hown;have HC:Hid (jm (ss.take (j+1))=jm (ss.take j)+(ss.getD j qw).count):=by rw [Hid,htk,ng]
   have HM:Hid (kK (ss.take (j+1)) k0++ss.drop (j+1)=kK (ss.take j) k0++(ss.getD j qw).mark (k0+jm (ss.take j))::ss.drop (j+1)):=by rw [Hid,htk,RZ];simp
   have HS:Hid (∀ k∈(ss.getD j qw).blocks,k∈ss.flatMap qj.blocks):=fun k hk=>qag.2 ⟨_,xh hkl,hk⟩
   have hos:(ss.getD j qw).own wr lo hi:=hown.each _ (by simp);clear hd htk;generalize ss.getD j qw=s at*
   have C:=Vl s lo hi (k0+c) wr hos (by omega) hlk.1 hlk.2 (by omega);simp only [qj.cells] at C;have hi0:(0:Int)≤(j:Int):=by omega
   have hi4:(j:Int)<4:=by omega
   go_wp2_with fail;refine C.mono ?_;clear C c0 c1 c2 c3;rintro e w1 ⟨rfl,ho1,ht1⟩;have HO:qP w1 lo hi (kK (ss.take (j+1)) k0++ss.drop (j+1)):=by
    rw [HM.out,← hcj.out];exact hown.replace ht1 ho1 (mZ _ _)
   have HT:Touch (ss.flatMap qj.blocks) W w1:=htr.trans (ht1.mono HS.out);have YB:Hid (c+s.count=jm (ss.take (j+1))):=by rw [Hid,HC.out,hcj.out]
   clear hown ho1 ht1 hos;go_wp2_with fail;go_roundw
   case rel=>exact ⟨j+1,c+s.count,by go_num,by congr 1;omega,by omega,YB,HO,HT⟩
   case measure=>simp [intOf];omega
  ·obtain rfl:j=4:=by omega
   have hkk:¬ ((4:Nat):Int)<4:=by omega
   have HE:Hid (ss.take 4=ss∧ss.drop 4=[]):=⟨qdD (by rw [H4.out];omega),qe5 (by rw [H4.out];omega)⟩;go_wp2;go_ret;refine ⟨jN (by rw [hcj.out,HE.out.1]),?_,(Touch.of_below hbW).trans htr⟩;rw [HE.out.1,HE.out.2,qcZ] at hown;exact hown
theorem PL (ss:List qj) (h4:ss.length=4) (lo hi:Nat) (k0:Int) (w:World) (ho:qP w lo hi (kK ss k0)) (hl:Fit ss) (h0:0≤k0) (hk:k0≤10995116277760):
  Calls prog 143 #[.agg (cellsS ss).toArray,.int .i64 k0] w fun e w'=>e=.returned (.int .i64 (k0+jm ss))∧qa w w':=by
 obtain ⟨W,hW,b0,hbW,qD⟩:=qB w (cellsS ss) 46;have H4:Hid (ss.length=4):=h4;clear qD h4;go_enter func143,ntmps143;go_wp2_with fail;rw [hW.out];clear hW;go_loopw [1,5] (fun kk i wr=>∃ (j:Nat) (c:Nat),i=.int .i64 j∧kk=.int .i64 (k0+c)∧j≤4∧Hid (c=jm (ss.take j))∧qa W wr)
  (fun _ i _=>4-(intOf i).toNat)
 case atStart=>exact ⟨0,0,rfl,by simp,by omega,rfl,qab _ _⟩
 case round=>
  obtain ⟨j,c,rfl,rfl,hj,hcj,hbl⟩:=hrel;have Uf:=b0.below hbl b0.lt;have Ka:=qf hbW hbl;have hc0:c≤8796093022208:=by
   exact dx
  by_cases hlt:j<4
  ·have hkl:j<ss.length:=by rw [H4.out];exact hlt
   obtain ⟨c0,c1,c2,c3,_⟩:=Uf.slot j hkl;obtain ⟨hd,htk⟩:=take_split ss j hkl;have hlk:=qaQ hl hkl;have HC:Hid (jm (ss.take (j+1))=jm (ss.take j)+(ss.getD j qw).count):=by rw [Hid,htk,ng]
   have hos:((ss.getD j qw).mark (k0+c)).own wr lo hi:=by
    have:=ho.each _ (IX ss k0 j hkl);rw [← hcj.out] at this;exact OwnO.below this Ka
   clear hd htk;generalize ss.getD j qw=s at*
   have C:=Bw s lo hi (k0+c) wr hos (by omega) hlk.1 hlk.2 (by omega);simp only [qj.cells] at C;have hi0:(0:Int)≤(j:Int):=by omega
   have hi4:(j:Int)<4:=by omega
   go_wp2_with fail;refine C.mono ?_;clear C c0 c1 c2 c3;rintro e w1 ⟨rfl,hb1⟩;have hnn:¬ (k0+(c:Int)+(s.count:Int))<0:=by omega
   have YB:Hid (c+s.count=jm (ss.take (j+1))):=by rw [Hid,HC.out,hcj.out]
   clear hos;go_wp2_with fail;go_roundw
   case rel=>exact ⟨j+1,c+s.count,by go_num,by congr 1;omega,by omega,YB,qf hbl hb1⟩
   case measure=>simp [intOf];omega
  ·obtain rfl:j=4:=by omega
   have hkk:¬ ((4:Nat):Int)<4:=by omega
   have HE:Hid (ss.take 4=ss):=qdD (by rw [H4.out];omega);go_wp2;go_ret;exact ⟨jN (by rw [hcj.out,HE.out]),Ka⟩
theorem PG (p:qA) (h4:p.ss.length=4) (lo hi:Nat) (k0:Int) (w:World) (ho:qP w lo hi p.ss) (hl:Fit p.ss) (h0:0≤k0) (hk:k0≤10995116277760) (hhi:hi≤w.heap.size):
  Calls prog 96 #[.agg p.cells.toArray,.int .i64 k0] w fun e w'=>e=.returned (.int .i64 (k0+jm p.ss))∧qP w' lo hi (kK p.ss k0)∧Touch (p.ss.flatMap qj.blocks) w w':=by
 obtain ⟨n,ss⟩:=p;simp only [qA.cells] at*
 obtain ⟨W,hW,b0,hbW,qD⟩:=qB w (.int .i64 n::cellsS ss) 48;have hrg0:W.rangeAt w.heap.size 1 (cellsS ss):=Box.range [.int .i64 n] (cellsS ss) [] (by simpa using b0);have hi0:(prog.info? 46).map (·.size)=some (cellsS ss).length:=by rw [jW,h4];kernel_rfl
 have hs0:=hbW.size;go_enter func96,ntmps96;go_wp2_with (first | (guard_target=qp 6;refine qH 46 5 w.heap.size 1 (cellsS ss) (by rw [hW.out];exact hrg0) underlying46 hi0 ?_) | fail);rw [hW.out];clear hW hrg0 hi0 qD;refine (Gz ss h4 lo hi k0 W (ho.below hbW) hl h0 hk (by omega)).mono ?_;rintro e w1 ⟨rfl,ho1,ht1⟩;go_wp2;go_ret;exact ⟨rfl,ho1,(Touch.of_below hbW).trans ht1⟩
theorem FQ (p:qA) (h4:p.ss.length=4) (lo hi:Nat) (k0:Int) (w:World) (ho:qP w lo hi (kK p.ss k0)) (hl:Fit p.ss) (h0:0≤k0) (hk:k0≤10995116277760):
  Calls prog 100 #[.agg p.cells.toArray,.int .i64 k0] w fun e w'=>e=.returned (.int .i64 (k0+jm p.ss))∧qa w w':=by
 obtain ⟨n,ss⟩:=p;simp only [qA.cells] at*
 obtain ⟨W,hW,b0,hbW,qD⟩:=qB w (.int .i64 n::cellsS ss) 48;have hrg0:W.rangeAt w.heap.size 1 (cellsS ss):=Box.range [.int .i64 n] (cellsS ss) [] (by simpa using b0);have hi0:(prog.info? 46).map (·.size)=some (cellsS ss).length:=by rw [jW,h4];kernel_rfl
 go_enter func100,ntmps100;go_wp2_with (first | (guard_target=qp 6;refine qH 46 5 w.heap.size 1 (cellsS ss) (by rw [hW.out];exact hrg0) underlying46 hi0 ?_) | fail);rw [hW.out];clear hW hrg0 hi0 qD;refine (PL ss h4 lo hi k0 W (ho.below hbW) hl h0 hk).mono ?_;rintro e w1 ⟨rfl,hb1⟩;have hnn:¬ (k0+(jm ss:Int))<0:=by omega
 go_wp2;go_ret;exact ⟨rfl,qf hbW hb1⟩
theorem Uy (zs:List qM):∀ v∈jT zs,v.oneCell'=true:=by
 intro v hv;obtain ⟨s,_,hs⟩:=qag.1 hv;simp only [qM.cells,qcv,qdu,qfL] at hs;rcases hs with rfl | rfl | rfl<;>rfl
theorem YJ {w:World} {ops:Array Oper} {rest:List Oper} {o:Oper} {act:Act} {Q:Exit→Act→World→Prop} (hgd:o.guard=none) (s x:Operand)
  (ho:o.op=.call { callee:=.builtin .append,args:=#[s,x],argTypes:=#[56,56] })
  (lo hi:Nat) (a:Option Addr) (c:Nat) (xs:List qM) (hs:act.eval s=.slice a xs.length c) (hown:OwnL w lo hi a c xs)
  (sa:Option Addr) (sc:Nat) (zs:List qM) (hx:act.eval x=.slice sa zs.length sc) (hr:kQ w sa zs) (hc:sa=none→sc=0)
  (hb:xs.length+zs.length≤1099511627776) (hlo:lo≤w.heap.size)
  (h:∀ a' c' ys w',Hid (ys=xs++zs)→OwnL w' lo w'.heap.size a' c' ys→w.grownBy w' (Value.slice a xs.length c).ownBlock→wpList prog ops Q rest (act.put o.dst (.slice a' ys.length c')) w'):
  wpList prog ops Q (o::rest) act w:=by
 obtain ⟨i0,hi0,hz0,hz1,hz2⟩:=qft Tryz.dY;have fin:∀ v' w',w'.ownsRow lo 115 3 v' (xs.length+zs.length) (jT xs++jT zs)→w.grownBy w' (Value.slice a xs.length c).ownBlock→wpList prog ops Q rest (act.put o.dst v') w':=by
  intro v' w' h1 h2;rw [← Hu,← qai] at h1;have sh:∃ a' c',v'=.slice a' (xs++zs).length c':=by
   rcases h1.2 with ⟨rfl,h0⟩ | ⟨g,cap,cur,rfl,_⟩
   ·exact ⟨none,0,by rw [h0]⟩
   ·exact ⟨_,_,rfl⟩
  obtain ⟨a',c',rfl⟩:=sh;exact h a' c' (xs++zs) w' rfl ⟨h1,qcN _,fun k hk=>(h1.lt k hk).2⟩ h2
 cases sa with
 | none=>
  have hz:zs=[]:=by
   by_cases e:zs=[]
   ·exact e
   ·obtain ⟨b,off,hh,_⟩:=hr e;cases hh
  subst hz;have:=hc rfl;subst this;exact wpList_append_own_none hgd s x 56 ho lo 115 i0 3 underlying56 hi0 _ _ _ hs hown.1 hx (fin _ w (by simpa [jT] using hown.1) (qeR _ _))
 | some ad=>
  refine wpList_append_own w hgd s x 56 ho lo 115 i0 (.agg #[.int .i64 0,.int .i64 0,.bool false]) 3 24 underlying56 hi0 hz0 hz1 hz2 rfl (by decide) _ _ _ hs hown.1 ad zs.length sc (jT zs) hx (by rw [Kt]) ?_ (Uy _) (by simp only [maxLen];omega) (by omega) hlo (fun v' w' h1 h2 _=>fin v' w' h1 h2);intro j u hj;have hjl:j<zs.length*3:=by rw [← Kt];exact (qcL.1 hj).1
  have hne:zs≠[]:=by intro e;simp [e] at hjl
  obtain ⟨b,off,hh,hcell⟩:=hr hne;cases hh;have hat:=uT zs (j / 3) (j % 3) (by omega) (qfc _ (by omega));rw [show j / 3*3+j % 3=j by omega,hj] at hat;obtain ⟨k0,k1,k2⟩:=hcell (j / 3) (by omega);rw [zI];rcases (by omega:j % 3=0∨j % 3=1∨j % 3=2) with h' | h' | h'<;>rw [h'] at hat<;>simp only [qM.cells,qfQ,qdI,qeL] at hat
  ·rw [show off+j=off+j / 3*3 by omega,k0,hat]
  ·rw [show off+j=off+j / 3*3+1 by omega,k1,hat]
  ·rw [show off+j=off+j / 3*3+2 by omega,k2,hat]
structure qU where
 tx:Int
 oid:Int
def qU.cells (l:qU):List Value:=[.int .i64 l.tx,.int .i64 l.oid]
def jy:qU:=⟨0,0⟩
def jU (ls:List qU):List Value:=ls.flatMap qU.cells
theorem uk (ls:List qU):(jU ls).length=ls.length*2:=by
 induction ls with
 | nil=>rfl
 | cons s r ih=>simp only [jU,qaY,qai,qU.cells,qcS,qdo] at *;omega
theorem Mk (a b:List qU):jU (a++b)=jU a++jU b:=by simp [jU]
theorem Kc (ls:List qU) (k j:Nat) (hk:k<ls.length) (hj:j<2):(jU ls)[k*2+j]? =(ls.getD k jy).cells[j]? :=by
 induction ls generalizing k with
 | nil=>simp at hk
 | cons s r ih=>
  have e:jU (s::r)=s.cells++jU r:=by simp [jU]
  have l3:s.cells.length=2:=rfl;rw [e];cases k with
  | zero=>rw [qdx (by rw [l3];omega)];simp
  | succ k=>
   rw [qcQ (by rw [l3];omega),l3];have:=ih k (by simpa using hk);rw [show (k+1)*2+j-2=k*2+j by omega,this];simp
theorem EC (ls:List qU) (k:Nat) (hk:k<ls.length) (t:qU):
  ((jU ls).set (k*2) (.int .i64 t.tx)).set (k*2+1) (.int .i64 t.oid)=jU (ls.set k t):=by
 induction ls generalizing k with
 | nil=>simp at hk
 | cons s r ih=>
  cases k with
  | zero=>simp [jU,qU.cells]
  | succ k=>
   have:=ih k (by simpa using hk);have e2:∀ x,jU (s::x)=s.cells++jU x:=fun x=>by simp [jU]
   have l3:s.cells.length=2:=rfl;rw [e2,qdh _ _ (by rw [l3];omega),qdh _ _ (by rw [l3];omega),l3,show (k+1)*2-2=k*2 by omega,show (k+1)*2+1-2=k*2+1 by omega,this,qe3,e2]
def yN (w:World) (a:Option Addr) (ls:List qU):Prop:=ls≠[]→∃ b off,a=some ⟨b,off,none⟩∧∀ k,k<ls.length→w.cell? ⟨b,off+k*2,none⟩=some (.int .i64 (ls.getD k jy).tx)∧w.cell? ⟨b,off+k*2+1,none⟩=some (.int .i64 (ls.getD k jy).oid)
theorem yN.nil (w:World) (a:Option Addr):yN w a []:=fun h=>absurd rfl h
theorem yN.below {w w':World} {a:Option Addr} {ls:List qU} (h:yN w a ls) (hb:qa w w'):yN w' a ls:=by
 intro hne;obtain ⟨b,off,ha,hc⟩:=h hne;refine ⟨b,off,ha,fun k hk=>?_⟩;obtain ⟨h0,h1⟩:=hc k hk;have hlt:=block_lt h0;exact ⟨by rw [hb.cell (p:=⟨b,off+k*2,none⟩) hlt];exact h0,by rw [hb.cell (p:=⟨b,off+k*2+1,none⟩) hlt];exact h1⟩
theorem yN.cases {w:World} {a:Option Addr} {ls:List qU} (h:yN w a ls):ls=[]∨∃ b off,a=some ⟨b,off,none⟩∧0<ls.length∧∀ k,k<ls.length→w.cell? ⟨b,off+k*2,none⟩=some (.int .i64 (ls.getD k jy).tx)∧w.cell? ⟨b,off+k*2+1,none⟩=some (.int .i64 (ls.getD k jy).oid):=by
 by_cases e:ls=[]
 ·exact .inl e
 ·obtain ⟨b,off,ha,hc⟩:=h e;exact .inr ⟨b,off,ha,qe9.2 e,hc⟩
def OwnH (w:World) (lo hi:Nat) (a:Option Addr) (c:Nat) (ls:List qU):Prop:=
 w.ownsRow lo 117 2 (.slice a ls.length c) ls.length (jU ls)∧hi≤w.heap.size∧∀ k,(Value.slice a ls.length c).ownBlock=some k→k<hi
theorem OwnH.lt {w:World} {lo hi:Nat} {a:Option Addr} {c:Nat} {ls:List qU} (h:OwnH w lo hi a c ls):∀ k,(Value.slice a ls.length c).ownBlock=some k→lo≤k∧k<hi:=fun k hk=>⟨(h.1.lt k hk).1,h.2.2 k hk⟩
theorem OwnH.touch {w w':World} {lo hi:Nat} {a:Option Addr} {c:Nat} {ls:List qU} {bl:List Nat} (h:OwnH w lo hi a c ls) (ht:Touch bl w w') (hd:∀ k,(Value.slice a ls.length c).ownBlock=some k→k∉bl):OwnH w' lo hi a c ls:=
 ⟨xk h.1 (fun k hk=>ht.block k (h.1.lt k hk).2 (hd k hk)),qcx h.2.1 ht.size,h.2.2⟩
theorem OwnH.within {w w':World} {lo hi l r:Nat} {a:Option Addr} {c:Nat} {ls:List qU} (h:OwnH w lo hi a c ls) (hw:Within l r w w') (hd:hi≤l∨r≤lo):OwnH w' lo hi a c ls:=
 ⟨xk h.1 (fun k hk=>hw.block k (by have:=h.2.2 k hk;have:=h.2.1;omega) (by have:=h.lt k hk;omega)),qcx h.2.1 hw.size,h.2.2⟩
theorem OwnH.below {w w':World} {lo hi:Nat} {a:Option Addr} {c:Nat} {ls:List qU} (h:OwnH w lo hi a c ls) (hb:qa w w'):OwnH w' lo hi a c ls:=
 h.within (Within.of_below (lo:=w.heap.size) (hi:=w.heap.size) hb) (.inl h.2.1)
theorem OwnH.widen {w:World} {lo hi lo' hi':Nat} {a:Option Addr} {c:Nat} {ls:List qU} (h:OwnH w lo hi a c ls) (h1:lo'≤lo) (h2:hi≤hi') (h3:hi'≤w.heap.size):OwnH w lo' hi' a c ls:=
 ⟨xM h.1 (fun k hk=>by have:=h.lt k hk;omega),h3,fun k hk=>by have:=h.lt k hk;omega⟩
theorem dK (w:World) (lo hi:Nat) (h:hi≤w.heap.size):OwnH w lo hi none 0 []:=⟨⟨by simp [jU],.inl ⟨rfl,rfl⟩⟩,h,fun k hk=>by cases hk⟩
theorem OwnH.Y9 {w:World} {lo hi:Nat} {a:Option Addr} {c:Nat} {ls:List qU} (h:OwnH w lo hi a c ls):a=none→c=0:=by
 intro ha;rcases h.1.2 with ⟨hv,_⟩ | ⟨g,cap,cur,hv,_⟩
 ·simp only [qcK] at hv;exact hv.2.2
 ·simp [ha] at hv
theorem GA {w:World} {base g n cap:Nat} {ls:List qU} (h:w.ownsRow base 117 2 (.slice (some ⟨g,0,none⟩) n cap) n (jU ls)) (hn:ls.length=n) (k:Nat) (hk:k<n):
  w.cell? ⟨g,k*2,none⟩=some (.int .i64 (ls.getD k jy).tx)∧w.cell? ⟨g,k*2+1,none⟩=some (.int .i64 (ls.getD k jy).oid)∧(∀ i,w.frozen? ⟨g,i,none⟩=false):=by
 have a0:=Kc ls k 0 (by omega) (by omega);have a1:=Kc ls k 1 (by omega) (by omega);simp only [qU.cells,Nat.add_zero,qfQ,qdI] at a0 a1;exact ⟨by rw [h.cellAt (k*2) (by omega)];exact a0,by rw [h.cellAt (k*2+1) (by omega)];exact a1,fun i=>h.frozenAt i⟩
theorem Nv {w:World} {base g n cap:Nat} {ls:List qU} (h:w.ownsRow base 117 2 (.slice (some ⟨g,0,none⟩) n cap) n (jU ls)) (hn:ls.length=n) (k:Nat) (hk:k<n) (t:qU):
  ∃ W,Hid ((w.setCell ⟨g,k*2,none⟩ (.int .i64 t.tx)).setCell ⟨g,k*2+1,none⟩ (.int .i64 t.oid)=W)∧W.ownsRow base 117 2 (.slice (some ⟨g,0,none⟩) n cap) n (jU (ls.set k t))∧w.grownBy W (some g):=by
 have s1:=h.stored (k*2) (.int .i64 t.tx);have s2:=s1.1.stored (k*2+1) (.int .i64 t.oid);refine ⟨_,rfl,?_,grownBy_trans s1.2 s2.2⟩;have:=s2.1;rw [EC ls k (by omega) t] at this;exact this
theorem OwnH.reads {w:World} {lo hi:Nat} {a:Option Addr} {c:Nat} {ls:List qU} (h:OwnH w lo hi a c ls):yN w a ls:=by
 intro hne;rcases h.1.2 with ⟨_,h0⟩ | ⟨g,cap',cur,hv,hb,hg,hr⟩
 ·exact absurd (qcI.1 h0) hne
 ·simp only [qcK] at hv;obtain ⟨rfl,_,rfl⟩:=hv;refine ⟨g,0,rfl,fun k hk=>?_⟩;obtain ⟨a0,a1,_⟩:=GA h.1 rfl k hk;rw [qeK];exact ⟨a0,a1⟩
theorem Tryz.Gd:(prog.info? 117).map (fun i=>(i.zero,i.size,i.bytes))=some (some (.agg #[.int .i64 0,.int .i64 0]),2,16):=by kernel_rfl
theorem Uz (zs:List qU):∀ v∈jU zs,v.oneCell'=true:=by
 intro v hv;obtain ⟨s,_,hs⟩:=qag.1 hv;simp only [qU.cells,qcv,qdu,qfL] at hs;rcases hs with rfl | rfl<;>rfl
theorem UM {w:World} {ops:Array Oper} {rest:List Oper} {o:Oper} {act:Act} {Q:Exit→Act→World→Prop} (hgd:o.guard=none) (s x:Operand)
  (ho:o.op=.call { callee:=.builtin .append,args:=#[s,x],argTypes:=#[57,57] })
  (lo hi:Nat) (a:Option Addr) (c:Nat) (xs:List qU) (hs:act.eval s=.slice a xs.length c) (hown:OwnH w lo hi a c xs)
  (sa:Option Addr) (sc:Nat) (zs:List qU) (hx:act.eval x=.slice sa zs.length sc) (hr:yN w sa zs) (hc:sa=none→sc=0)
  (hb:xs.length+zs.length≤1099511627776) (hlo:lo≤w.heap.size)
  (h:∀ a' c' ys w',Hid (ys=xs++zs)→OwnH w' lo w'.heap.size a' c' ys→w.grownBy w' (Value.slice a xs.length c).ownBlock→wpList prog ops Q rest (act.put o.dst (.slice a' ys.length c')) w'):
  wpList prog ops Q (o::rest) act w:=by
 obtain ⟨i0,hi0,hz0,hz1,hz2⟩:=qft Tryz.Gd;have fin:∀ v' w',w'.ownsRow lo 117 2 v' (xs.length+zs.length) (jU xs++jU zs)→w.grownBy w' (Value.slice a xs.length c).ownBlock→wpList prog ops Q rest (act.put o.dst v') w':=by
  intro v' w' h1 h2;rw [← Mk,← qai] at h1;have sh:∃ a' c',v'=.slice a' (xs++zs).length c':=by
   rcases h1.2 with ⟨rfl,h0⟩ | ⟨g,cap,cur,rfl,_⟩
   ·exact ⟨none,0,by rw [h0]⟩
   ·exact ⟨_,_,rfl⟩
  obtain ⟨a',c',rfl⟩:=sh;exact h a' c' (xs++zs) w' rfl ⟨h1,qcN _,fun k hk=>(h1.lt k hk).2⟩ h2
 cases sa with
 | none=>
  have hz:zs=[]:=by
   by_cases e:zs=[]
   ·exact e
   ·obtain ⟨b,off,hh,_⟩:=hr e;cases hh
  subst hz;have:=hc rfl;subst this;exact wpList_append_own_none hgd s x 57 ho lo 117 i0 2 underlying57 hi0 _ _ _ hs hown.1 hx (fin _ w (by simpa [jU] using hown.1) (qeR _ _))
 | some ad=>
  refine wpList_append_own w hgd s x 57 ho lo 117 i0 (.agg #[.int .i64 0,.int .i64 0]) 2 16 underlying57 hi0 hz0 hz1 hz2 rfl (by decide) _ _ _ hs hown.1 ad zs.length sc (jU zs) hx (by rw [uk]) ?_ (Uz _) (by simp only [maxLen];omega) (by omega) hlo (fun v' w' h1 h2 _=>fin v' w' h1 h2);intro j u hj;have hjl:j<zs.length*2:=by rw [← uk];exact (qcL.1 hj).1
  have hne:zs≠[]:=by intro e;simp [e] at hjl
  obtain ⟨b,off,hh,hcell⟩:=hr hne;cases hh;have hat:=Kc zs (j / 2) (j % 2) (by omega) (qfc _ (by omega));rw [show j / 2*2+j % 2=j by omega,hj] at hat;obtain ⟨k0,k1⟩:=hcell (j / 2) (by omega);rw [zI];rcases (by omega:j % 2=0∨j % 2=1) with h' | h'<;>rw [h'] at hat<;>simp only [qU.cells,qfQ,qdI,qeL] at hat
  ·rw [show off+j=off+j / 2*2 by omega,k0,hat]
  ·rw [show off+j=off+j / 2*2+1 by omega,k1,hat]
theorem GK (w:World) (z:qU) (t:TypeId):yN (w.alloc (.cells #[.int .i64 z.tx,.int .i64 z.oid] t)) (some ⟨w.heap.size,0,none⟩) [z]:=by
 intro _;refine ⟨w.heap.size,0,rfl,fun k hk=>?_⟩;obtain rfl:k=0:=by simpa using hk
 have b:Box (w.alloc (.cells #[.int .i64 z.tx,.int .i64 z.oid] t)) w.heap.size [.int .i64 z.tx,.int .i64 z.oid] t:=wF _ _ _;exact ⟨b.cell 0 _ rfl,b.cell 1 _ rfl⟩
theorem ED (l:qU) (w:World):
  Calls prog 75 #[.agg l.cells.toArray] w fun e w'=>e=.returned (.agg l.cells.toArray)∧qa w w':=by
 obtain ⟨x,y⟩:=l;simp only [qU.cells];obtain ⟨W,hW,b0,b1,b2,hbW,qD⟩:=yK w [.int .i64 x,.int .i64 y] [.int .i64 x,.int .i64 y] [.int .i64 x,.int .i64 y] 132 117 117;have q0:=b1.cell 0 _ rfl;have q1:=b1.cell 1 _ rfl;clear b0 b2 qD;go_enter func75,ntmps75;go_wp2;rw [hW.out];exact qa3 (v:=.agg #[.int .i64 x,.int .i64 y]) (by simp [results,results75,go_sem,q0,q1]) rfl ⟨rfl,hbW⟩
theorem Ta (n:Nat):(madeCells #[.int .i64 0,.int .i64 0] (n*2)).toList=jU (List.replicate n jy):=by
 apply qgc;intro i;by_cases h:i<n*2
 ·have e:=Kc (List.replicate n jy) (i / 2) (i % 2) (by simp;omega) (qfc _ (by omega));rw [show i / 2*2+i % 2=i by omega] at e;rw [e];have hg:(List.replicate n jy).getD (i / 2) jy=jy:=by simp [List.getD,show i / 2<n by omega]
  rw [hg];simp only [madeCells,Array.toList_map,qdy,Array.toList_range,List.getElem?_range h,qfS,qU.cells,jy];have:i % 2<2:=qfc _ (by omega);show some (#[Value.int .i64 0,.int .i64 0][i % 2]!)=_;rcases (by omega:i % 2=0∨i % 2=1) with h' | h'<;>rw [h']<;>rfl
 ·rw [qeE (by simp [size_madeCells];omega),qeE (by rw [uk];simp;omega)]
theorem fe (n:Nat):(madeCells (Value.agg #[.int .i64 0,.int .i64 0]).cells (n*2)).toList=jU (List.replicate n jy):=Ta n
def Q0 (ls:List qU) (k:Nat):List qU:=ls.take k++List.replicate (ls.length-k) jy
theorem qaR (ls:List qU) (k:Nat) (h:k≤ls.length):(Q0 ls k).length=ls.length:=by simp [Q0];omega
theorem qaS (ls:List qU):Q0 ls ls.length=ls:=by simp [Q0]
theorem EE (ls:List qU):Q0 ls 0=List.replicate ls.length jy:=by simp [Q0]
theorem qaT (ls:List qU) (k:Nat) (h:k<ls.length):(Q0 ls k).set k (ls.getD k jy)=Q0 ls (k+1):=by
 unfold Q0;rw [qgo,qa2 (by simp;omega),qdb h];have e:ls.length-k=(ls.length-(k+1))+1:=by omega
 have e2:k-(List.take k ls).length=0:=by simp;omega
 rw [e2,e,qfl,qdL];simp only [List.getD,h,qcG,qe7,qcJ,qdr]
theorem Tc (a:Option Addr) (cap:Nat) (ls:List qU) (w:World) (hr:yN w a ls) (hl:ls.length≤1099511627776):
  Calls prog 32 #[.slice a ls.length cap] w fun e w'=>∃ a' c',e=.returned (.slice a' ls.length c')∧OwnH w' w.heap.size w'.heap.size a' c' ls∧qa w w':=by
 obtain ⟨i0,hi,hz0,hz1,hz2⟩:=qft Tryz.Gd;rcases hr.cases with rfl | ⟨b,off,rfl,hpos,hcell⟩
 ·go_enter func32,ntmps32;go_wp2_with (at_make;refine qe6 _ rfl _ _ 57 rfl w.heap.size 117 i0 (.agg #[.int .i64 0,.int .i64 0]) 2 underlying57 hi hz0 hz1 _ _ _ _ 0 rfl rfl (by simp) (by simp) (by omega) (by simp [maxLen]) qg ?_);intro w0 hown0 xy;go_wp2;refine qdp 1 ?_;rw [qdC];go_wp2;go_ret;have ho:w0.ownsRow w.heap.size 117 2 (.slice (some ⟨w.heap.size,0,none⟩) 0 0) 0 (jU []):=by
   have e:=fe 0;simp only [qgm] at e;rw [← e];exact hown0
  exact ⟨_,_,rfl,⟨ho,qcN _,fun k hk=>(ho.lt k hk).2⟩,(qab _ _).grown xy qg (fun k h=>by cases h)⟩
 ·have KZ:b<w.heap.size:=block_lt (hcell 0 hpos).1;go_enter func32,ntmps32;go_wp2_with (at_make;refine qe6 _ rfl _ _ 57 rfl w.heap.size 117 i0 (.agg #[.int .i64 0,.int .i64 0]) 2 underlying57 hi hz0 hz1 _ _ _ _ ls.length rfl rfl rfl rfl (by rw [hz2];omega) (by simp [maxLen];omega) qg ?_);intro w0 hown0 xy;have hown1:w0.ownsRow w.heap.size 117 2 (.slice (some ⟨w.heap.size,0,none⟩) ls.length ls.length) ls.length (jU (Q0 ls 0)):=by
   rw [EE,← fe];exact hown0
  have hb0:qa w w0:=(qab _ _).grown xy qg (fun k h=>by cases h);clear hown0 xy;go_wp2;go_loopw [4] (fun i wr=>∃ k:Nat,k≤ls.length∧i=.int .i64 k∧wr.ownsRow w.heap.size 117 2 (.slice (some ⟨w.heap.size,0,none⟩) ls.length ls.length) ls.length (jU (Q0 ls k))∧qa w wr)
   (fun i _=>ls.length-(intOf i).toNat)
  case atStart=>exact ⟨0,qaw _,rfl,hown1,hb0⟩
  case round=>
   obtain ⟨k,hk,rfl,hown,hnx⟩:=hrel;by_cases hlt:k<ls.length
   ·obtain ⟨c0,c1⟩:=hcell k hlt;have d0:wr.cell? ⟨b,off+k*2,none⟩=_:=(hnx.cell (by exact KZ)).trans c0;have d1:wr.cell? ⟨b,off+k*2+1,none⟩=_:=(hnx.cell (by exact KZ)).trans c1;have hp:=qaR ls k hk;have BF:Hid ((Q0 ls k).set k (ls.getD k jy)=Q0 ls (k+1)):=qaT ls k hlt;clear c0 c1 hcell hown1 hb0;generalize ls.getD k jy=z at*
    have C:=ED z wr;simp only [qU.cells] at C;go_wp2_with fail;refine C.mono ?_;clear C d0 d1;rintro e w1 ⟨rfl,hb1⟩;have VO:=xk hown (fun j hj=>hb1.block j (hown.lt j hj).2);obtain ⟨x0,x1,hfz⟩:=GA VO hp k hlt;have f0:=hfz (k*2);have f1:=hfz (k*2+1);obtain ⟨W2,hW2,ho2,hg2⟩:=Nv VO hp k hlt z;rw [BF.out] at ho2;have hB2:qa w W2:=(qf hnx hb1).grown hg2 (by have:=hnx.size;have:=hb1.size;omega) (fun j hj=>by cases hj;omega);have HH:Hid (_∧_):=⟨ho2,hB2⟩;clear ho2 hB2 hg2 hfz VO hown hb1 hnx BF;generalize (Q0 ls k).getD k jy=old at*
    go_wp2_with fail;rw [hW2.out];go_roundw
    case rel=>exact ⟨k+1,by omega,by go_num,HH.out.1,HH.out.2⟩
    case measure=>simp [intOf];omega
   ·have HE:Hid (wr.ownsRow w.heap.size 117 2 (.slice (some ⟨w.heap.size,0,none⟩) ls.length ls.length) ls.length (jU ls)):=by
     have e:k=ls.length:=by omega
     rw [e,qaS] at hown;exact hown
    go_wp2;go_ret;exact ⟨_,_,rfl,⟨HE.out,qcN _,fun k hk=>(HE.out.lt k hk).2⟩,hnx⟩
theorem Td (l:qU) (w:World):
  Calls prog 94 #[.agg l.cells.toArray,.agg l.cells.toArray] w fun e w'=>e=.returned (.bool true)∧qa w w':=by
 obtain ⟨x,y⟩:=l;simp only [qU.cells];obtain ⟨W,hW,b0,b1,hbW,qD⟩:=jK w [.int .i64 x,.int .i64 y] [.int .i64 x,.int .i64 y] 117 117;clear b0 b1 qD;go_enter func94,ntmps94;go_wp2;rw [hW.out];go_ret;exact ⟨rfl,hbW⟩
theorem CO (a b:Option Addr) (ca cb:Nat) (ls:List qU) (w:World) (ha:yN w a ls) (hb:yN w b ls) (hl:ls.length≤1099511627776):
  Calls prog 45 #[.slice a ls.length ca,.slice b ls.length cb] w fun e w'=>e=.returned (.bool true)∧qa w w':=by
 rcases ha.cases with rfl | ⟨b1,o1,rfl,hpos,hc1⟩
 ·go_enter func45,ntmps45;go_wp2;refine qdp 1 ?_;rw [qdC];go_wp2;go_ret;exact ⟨rfl,qab _ _⟩
 ·rcases hb.cases with rfl | ⟨b2,o2,rfl,_,hc2⟩
  ·simp at hpos
  ·go_enter func45,ntmps45;go_wp2;go_loopw [5] (fun i wr=>∃ k:Nat,k≤ls.length∧i=.int .i64 k∧qa w wr) (fun i _=>ls.length-(intOf i).toNat)
   case atStart=>exact ⟨0,qaw _,rfl,qab _ _⟩
   case round=>
    obtain ⟨k,hk,rfl,hbl⟩:=hrel;by_cases hlt:k<ls.length
    ·have h1:=hc1 k hlt;have h2:=hc2 k hlt;clear hc1 hc2;generalize ls.getD k jy=z at*
     have HS:Hid (∀ w1,qa w w1→(w1.cell? ⟨b1,o1+k*2,none⟩=some (.int .i64 z.tx)∧w1.cell? ⟨b1,o1+k*2+1,none⟩=some (.int .i64 z.oid))∧(w1.cell? ⟨b2,o2+k*2,none⟩=some (.int .i64 z.tx)∧w1.cell? ⟨b2,o2+k*2+1,none⟩=some (.int .i64 z.oid))):=fun w1 hh=>
      ⟨⟨(hh.cell (block_lt h1.1)).trans h1.1,(hh.cell (block_lt h1.2)).trans h1.2⟩,(hh.cell (block_lt h2.1)).trans h2.1,(hh.cell (block_lt h2.2)).trans h2.2⟩
     have hh:=HS.out wr hbl;clear h1 h2;go_wp2_with fail
     go_region_held3 (fun w1=>(w1.cell? ⟨b1,o1+k*2,none⟩=some (.int .i64 z.tx)∧w1.cell? ⟨b1,o1+k*2+1,none⟩=some (.int .i64 z.oid))∧(w1.cell? ⟨b2,o2+k*2,none⟩=some (.int .i64 z.tx)∧w1.cell? ⟨b2,o2+k*2+1,none⟩=some (.int .i64 z.oid)))
      (first | exact HS.out _ hw2 | go_keep | fail)
      ((first | (go_at_call 94;refine (Td z _).mono ?_;rintro e w2 ⟨rfl,hb2⟩;have hw2:qa w w2:=(hbl.drew).trans (hb2.mono hbl.size)) | fail))
     all_goals
      go_wp2_with fail;go_roundw
      case rel=>exact ⟨k+1,by omega,by go_num,hw2⟩
      case measure=>simp [intOf];omega
    ·go_wp2;go_ret;exact ⟨rfl,hbl⟩
def Y1 (k0:Int) (i:Nat):qU:=⟨k0+2*i,k0+2*i+1⟩
def uI (k0:Int) (n:Nat):List qU:=(List.range n).map fun i:Nat=>Y1 k0 i
theorem uY (k0:Int) (n:Nat):(uI k0 n).length=n:=by simp [uI]
theorem qaU (k0:Int) (n i:Nat) (h:i<n):(uI k0 n).getD i jy=Y1 k0 i:=by simp [uI,List.getD,h]
theorem Te (k0:Int) (n:Nat):uI k0 (n+1)=uI k0 n++[Y1 k0 n]:=by simp [uI,List.range_succ]
def Qu (k0:Int) (xs:List qU) (k:Nat):List qU:=uI k0 k++xs.drop k
theorem Tf (k0:Int) (xs:List qU) (k:Nat) (h:k≤xs.length):(Qu k0 xs k).length=xs.length:=by simp [Qu,uY];omega
theorem Tg (k0:Int) (xs:List qU) (k:Nat) (h:k<xs.length):(Qu k0 xs k).set k (Y1 k0 k)=Qu k0 xs (k+1):=by
 unfold Qu;rw [qgo,qa2 (by rw [uY];omega),uY,qfV,Te,qcX h,qdL];simp
theorem Ti (k0:Int) (xs:List qU):Qu k0 xs xs.length=uI k0 xs.length:=by simp [Qu]
theorem su (base:Nat) (a:Option Addr) (cap:Nat) (k0:Int) (xs:List qU) (w:World)
  (hown:w.ownsRow base 117 2 (.slice a xs.length cap) xs.length (jU xs)) (h0:0≤k0) (hl:k0+2*xs.length≤4611686018427387904):
  Calls prog 51 #[.slice a xs.length cap,.int .i64 k0] w fun e w'=>e=.returned (.int .i64 (k0+2*xs.length))∧
   w'.ownsRow base 117 2 (.slice a xs.length cap) xs.length (jU (uI k0 xs.length))∧w.grownBy w' (Value.slice a xs.length cap).ownBlock:=by
 have hlen:=hown.1;rcases hown.2 with ⟨hv,h00⟩ | ⟨g,cap',cur,hv,hg,hgg,hr⟩
 ·simp only [qcK] at hv;obtain ⟨rfl,qeY,rfl⟩:=hv;obtain rfl:=qcI.1 h00;go_enter func51,ntmps51;go_wp2;refine qdp 1 ?_;rw [qdC];go_wp2;go_ret;exact ⟨by simp,hown,qeR _ _⟩
 ·simp only [qcK] at hv;obtain ⟨rfl,_,rfl⟩:=hv;clear hgg hr hlen;have hM:w.ownsRow base 117 2 (.slice (some ⟨g,0,none⟩) xs.length cap) xs.length (jU (Qu k0 xs 0)):=by simpa [Qu,uI] using hown
  clear hown;go_enter func51,ntmps51;go_wp2;go_loopw [1,5] (fun kk i wr=>∃ k:Nat,k≤xs.length∧i=.int .i64 k∧kk=.int .i64 (k0+2*k)∧wr.ownsRow base 117 2 (.slice (some ⟨g,0,none⟩) xs.length cap) xs.length (jU (Qu k0 xs k))∧w.grownBy wr (some g))
   (fun _ i _=>xs.length-(intOf i).toNat)
  case atStart=>exact ⟨0,qaw _,rfl,by simp,hM,qeR _ _⟩
  case round=>
   obtain ⟨k,hk,rfl,rfl,hown,hgr⟩:=hrel;clear hM;by_cases hlt:k<xs.length
   ·have hp:=Tf k0 xs k hk;obtain ⟨x0,x1,hfz⟩:=GA hown hp k hlt;have f0:=hfz (k*2);have f1:=hfz (k*2+1);obtain ⟨W2,hW2,ho2,hg2⟩:=Nv hown hp k hlt (Y1 k0 k);rw [Tg k0 xs k hlt] at ho2;have HH:Hid (_∧_):=⟨ho2,grownBy_trans hgr hg2⟩;clear ho2 hg2 hfz hown hgr;generalize (Qu k0 xs k).getD k jy=old at*
    simp only [Y1] at hW2;go_wp2;rw [hW2.out];go_roundw
    case rel=>exact ⟨k+1,by omega,by go_num,by go_num,HH.out.1,HH.out.2⟩
    case measure=>simp [intOf];omega
   ·have HE:Hid (wr.ownsRow base 117 2 (.slice (some ⟨g,0,none⟩) xs.length cap) xs.length (jU (uI k0 xs.length))∧k=xs.length):=by
     have e:k=xs.length:=by omega
     rw [e,Ti] at hown;exact ⟨hown,e⟩
    go_wp2;go_ret;exact ⟨jN (by have:=HE.out.2;omega),HE.out.1,hgr⟩
theorem rz (lo hi:Nat) (a:Option Addr) (cap:Nat) (k0:Int) (xs:List qU) (w:World) (ho:OwnH w lo hi a cap xs) (h0:0≤k0) (hl:k0+2*xs.length≤4611686018427387904):
  Calls prog 51 #[.slice a xs.length cap,.int .i64 k0] w fun e w'=>e=.returned (.int .i64 (k0+2*xs.length))∧
   OwnH w' lo hi a cap (uI k0 xs.length)∧Touch (Value.slice a xs.length cap).ownBlock.toList w w':=by
 refine (su lo a cap k0 xs w ho.1 h0 hl).mono ?_;rintro e w' ⟨rfl,h1,h2⟩;refine ⟨rfl,⟨by rw [uY];exact h1,qcx ho.2.1 h2.size,by rw [uY];exact ho.2.2⟩,Touch.jO h2 (fun j hj=>qad.2 hj)⟩
theorem rC (a:Option Addr) (cap:Nat) (k0:Int) (n:Nat) (w:World) (hr:yN w a (uI k0 n)) (h0:0≤k0) (hl:k0+2*n≤4611686018427387904):
  Calls prog 57 #[.slice a n cap,.int .i64 k0] w fun e w'=>e=.returned (.int .i64 (k0+2*n))∧w'=w:=by
 rcases hr.cases with h | ⟨b,off,rfl,hpos,hcell⟩
 ·have h':=qcz List.length h;rw [uY] at h';simp at h';subst h';go_enter func57,ntmps57;go_wp2;refine qdp 1 ?_;rw [qdC];go_wp2;go_ret;exact ⟨by simp,rfl⟩
 ·rw [uY] at hpos hcell;go_enter func57,ntmps57;go_wp2
  go_loop [1,5] (fun kk i=>∃ k:Nat,k≤n∧i=.int .i64 k∧kk=.int .i64 (k0+2*k)) (fun _ i=>n-(intOf i).toNat)
  case atStart=>exact ⟨0,qaw _,rfl,by simp⟩
  case round=>
   obtain ⟨k,hk,rfl,rfl⟩:=hrel;by_cases hlt:k<n
   ·obtain ⟨c0,c1⟩:=hcell k hlt;rw [qaU k0 n k hlt] at c0 c1;simp only [Y1] at c0 c1;clear hcell;go_wp2
    go_round
    case rel=>exact ⟨k+1,by omega,by go_num,by go_num⟩
    case measure=>simp [intOf];omega
   ·have HE:Hid (k=n):=by show k=n;omega
    go_wp2;go_ret;exact ⟨jN (by have:=HE.out;omega),rfl⟩
def wpAnyL (P:Program) (md:Region.Mode) (ops:Array Oper) (Q:Exit→Act→World→Prop) (S:World→Prop) (ks:Nat→Bool):Nat→Array Bool→Act→World→Prop
 | 0,listed,a,w=>Region.ready md ops listed=[]∧Q .normal a w
 | fuel+1,listed,a,w=>
  (Region.ready md ops listed=[]→Q .normal a w)∧
  ∀ i∈Region.ready md ops listed,wpOp P ops Q i (fun a' w'=>(ks i=false→S w')∧wpAnyL P md ops Q S ks fuel (listed.setIfInBounds i true) a' w') a w
theorem UI {P:Program} {ops:Array Oper} {Q:Exit→Act→World→Prop} {md:Region.Mode} {S:World→Prop} {ks:Nat→Bool}:∀ (fuel:Nat) (listed:Array Bool) (a:Act) (w:World),wpAnyL P md ops Q S ks fuel listed a w→wpAny P md ops Q fuel listed a w
 | 0,_,_,_,h=>h
 | fuel+1,_,_,_,h=>⟨h.1,fun i hi=>wpOp_mono (fun a' w' h'=>UI fuel _ a' w' h'.2) (h.2 i hi)⟩
def PM (md:Region.Mode) (ops:Array Oper) (ks:Nat→Bool) (i:Nat):Bool:=
 (List.range ops.size).all fun j=> !ks j || match ops[j]? with
  | some o=>o.after.any (fun e=>Region.binds md e && e.on == i)
  | none=>true
theorem Rb {md:Region.Mode} {ops:Array Oper} {ks:Nat→Bool} {i:Nat} (h:PM md ops ks i=true) (j:Nat) (oj:Oper) (hj:ops[j]? =some oj) (hk:ks j=true):∃ e∈oj.after,Region.binds md e=true∧e.on=i:=by
 unfold PM at h;rw [qdt] at h;have hl:j<ops.size:=by
  rcases Nat.lt_or_ge j ops.size with h' | h'
  ·exact h'
  ·rw [qeO h'] at hj;cases hj
 have:=h j (qds.2 hl);rw [hk,hj] at this;simp only [Bool.not_true,qf5,Array.any_eq_true'] at this;obtain ⟨e,he,hb⟩:=this;rw [qam,qfu] at hb;exact ⟨e,he,hb.1,hb.2⟩
theorem wpAnyL_first {P:Program} {ops:Array Oper} {Q:Exit→Act→World→Prop} {md:Region.Mode} {S:World→Prop} {ks:Nat→Bool} {i:Nat} {oi:Oper} {v:Value} (hi:ops[i]? =some oi) (hsel:∀ (j:Nat) (o:Oper) cs b,ops[j]? =some o→o.op≠.select cs b)
  (hQ:∀ c a w,Q (.panic c) (a.put oi.dst v) w→Q (.panic c) a w) (qib:∀ j oj,ops[j]? =some oj→ks j=true→∃ e∈oj.after,Region.binds md e=true∧e.on=i):
  ∀ (fuel:Nat) (listed:Array Bool) (a:Act) (w:World),
   (∀ j oj,ops[j]? =some oj→j≠i→listed.getD j true=false→(∀ e∈oj.after,Region.binds md e=true→e.on≠i)→oi.apart ops oj=true)→
   i∈Region.ready md ops listed→YieldsIf P ops S oi v a→S w→
   wpAnyL P md ops Q S ks fuel (listed.setIfInBounds i true) (a.put oi.dst v) w→wpAnyL P md ops Q S ks (fuel+1) listed a w:=by
 intro fuel
 induction fuel with
 | zero=>
  intro listed a w _ hr hy hS H;refine ⟨fun h=>(by rw [h] at hr;cases hr),fun j hj=>?_⟩;by_cases hji:j=i
  ·subst hji;exact hy.wpOp hi hS ⟨fun _=>hS,H⟩
  ·have:=ready_mono hj hji;rw [H.1] at this;cases this
 | succ fuel ih=>
  intro listed a w hfree hr hy hS H;refine ⟨fun h=>(by rw [h] at hr;cases hr),fun j hj=>?_⟩;by_cases hji:j=i
  ·subst hji;exact hy.wpOp hi hS ⟨fun _=>hS,H⟩
  ·have h1:=H.2 j (ready_mono hj hji);obtain ⟨hjun,oj,hoj,hall⟩:=mem_ready.1 hj;have hnot:∀ e∈oj.after,Region.binds md e=true→e.on≠i:=fun e he hb heq=>by
    have h1:=hall e he hb;have h0:=(mem_ready.1 hr).1;rw [heq] at h1;rcases Nat.lt_or_ge i listed.size with h' | h'
    ·simp [h'] at h0 h1;rw [h0] at h1;cases h1
    ·simp [Array.getElem?_eq_none h'] at h1
   have hkj:ks j=false:=by
    cases hk:ks j with
    | false=>rfl
    | true=>
     obtain ⟨e,he,hb,ho⟩:=qib j oj hoj hk;exact absurd ho (hnot e he hb)
   have h2:=wpOp_putIf hoj (hfree j oj hoj hji hjun hnot) (fun cs b=>hsel i oi cs b hi) (fun cs b=>hsel j oj cs b hoj) hQ hy h1;have hfree':∀ k ok,ops[k]? =some ok→k≠i→(listed.setIfInBounds j true).getD k true=false→
     (∀ e∈ok.after,Region.binds md e=true→e.on≠i)→oi.apart ops ok=true:=fun k ok hk hki hun hno=>by
    refine hfree k ok hk hki ?_ hno;by_cases hjk:j=k
    ·subst hjk;exact hjun
    ·rw [getD_set_ne true hjk] at hun;exact hun
   refine wpOp_mono (fun a' w' h3=>⟨fun _=>h3.2.1 hkj,ih (listed.setIfInBounds j true) a' w' hfree' (ready_mono hr (Ne.symm hji)) h3.1 (h3.2.1 hkj) ?_⟩) h2;rw [Array.setIfInBounds_comm _ _ hji];exact h3.2.2
theorem kr {P:Program} {ops:Array Oper} {Q:Exit→Act→World→Prop} {md:Region.Mode} {S:World→Prop} {ks:Nat→Bool} {i:Nat} {oi:Oper} {v:Value} {fuel:Nat} {listed:Array Bool} {a:Act} {w:World} (hi:ops[i]? =some oi)
  (hs:(Region.noSelect ops && (Region.free md ops listed i && ((Region.ready md ops listed).contains i && PM md ops ks i)))=true)
  (hQ:∀ c a w,Q (.panic c) (a.put oi.dst v) w→Q (.panic c) a w) (hy:YieldsIf P ops S oi v a) (hS:S w)
  (h:wpAnyL P md ops Q S ks fuel (listed.setIfInBounds i true) (a.put oi.dst v) w):wpAnyL P md ops Q S ks (fuel+1) listed a w:=by
 rw [qam,qam,qam] at hs;exact wpAnyL_first hi (Region.noSelect_spec hs.1) hQ (Rb hs.2.2.2) fuel listed a w (Region.free_spec hi hs.2.1) (by simpa using hs.2.2.1) hy hS h
def uA (P:Program) (md:Region.Mode) (ops:Array Oper) (Q:Exit→Act→World→Prop) (S:World→Prop) (ks:Nat→Bool) (fuel:Nat) (listed:Array Bool) (a:Act) (w:World) (rs:List Nat):Prop:=
 ∀ i∈rs,wpOp P ops Q i (fun a' w'=>(ks i=false→S w')∧wpAnyL P md ops Q S ks fuel (listed.setIfInBounds i true) a' w') a w
theorem uA.nil {P:Program} {ops:Array Oper} {Q:Exit→Act→World→Prop} {md:Region.Mode} {S:World→Prop} {ks:Nat→Bool} {fuel:Nat} {listed:Array Bool} {a:Act} {w:World}:uA P md ops Q S ks fuel listed a w []:=fun _ h=>by cases h
theorem uA.cons {P:Program} {ops:Array Oper} {Q:Exit→Act→World→Prop} {md:Region.Mode} {S:World→Prop} {ks:Nat→Bool} {fuel:Nat} {listed:Array Bool} {a:Act} {w:World} {i:Nat} {o:Oper} {rs:List Nat} (ho:ops[i]? =some o)
  (h:∀ K':Act→World→Prop,Shut (∀ a w,(ks i=false→S w)→((ks i=false→S w)→wpAnyL P md ops Q S ks fuel (listed.setIfInBounds i true) a w)→K' a w)→if Region.wanted o (yielded ops a.tmps)=true then Oper.wp P o a w K' Q else K' (a.put o.dst undef) w)
  (hs:uA P md ops Q S ks fuel listed a w rs):uA P md ops Q S ks fuel listed a w (i::rs):=fun j hj=>by
 rcases qcv.1 hj with rfl | hj
 ·exact wpOp_step ho (fun K' hK=>h K' (fun a w hS hW=>hK a w ⟨hS,hW hS⟩))
 ·exact hs j hj
theorem wpAnyL_ready {P:Program} {ops:Array Oper} {Q:Exit→Act→World→Prop} {md:Region.Mode} {S:World→Prop} {ks:Nat→Bool} {rs:List Nat} {fuel:Nat} {listed:Array Bool} {a:Act} {w:World} (hr:Region.ready md ops listed=rs) (hne:rs≠[])
  (h:uA P md ops Q S ks fuel listed a w rs):wpAnyL P md ops Q S ks (fuel+1) listed a w:=⟨fun h0=>absurd (hr▸h0) hne,hr▸h⟩
theorem JK {P:Program} {ops:Array Oper} {Q:Exit→Act→World→Prop} {md:Region.Mode} {S:World→Prop} {ks:Nat→Bool} (i:Nat) {o:Oper} {fuel:Nat} {listed:Array Bool} {a:Act} {w:World} (hr:Region.ready md ops listed=[i]) (ho:ops[i]? =some o)
  (h:∀ K':Act→World→Prop,Shut (∀ a w,S w→(S w→wpAnyL P md ops Q S ks fuel (listed.setIfInBounds i true) a w)→K' a w)→if Region.wanted o (yielded ops a.tmps)=true then Oper.wp P o a w K' Q else K' (a.put o.dst undef) w):wpAnyL P md ops Q S ks (fuel+1) listed a w:=
 wpAnyL_ready hr (by simp) (uA.cons ho (fun K' hK=>h K' (fun a w hS hW=>hK.out a w (fun _=>hS) (fun _=>hW hS))) uA.nil)
theorem nQ {P:Program} {ops:Array Oper} {Q:Exit→Act→World→Prop} {md:Region.Mode} {S:World→Prop} {ks:Nat→Bool} (i:Nat) {o:Oper} {fuel:Nat} {listed:Array Bool} {a:Act} {w:World} (hr:Region.ready md ops listed=[i]) (ho:ops[i]? =some o) (hk:ks i=true)
  (h:∀ K':Act→World→Prop,Shut (∀ a w,wpAnyL P md ops Q S ks fuel (listed.setIfInBounds i true) a w→K' a w)→if Region.wanted o (yielded ops a.tmps)=true then Oper.wp P o a w K' Q else K' (a.put o.dst undef) w):wpAnyL P md ops Q S ks (fuel+1) listed a w:=
 wpAnyL_ready hr (by simp) (uA.cons ho (fun K' hK=>h K' (fun a w hW=>hK.out a w (fun h=>by rw [hk] at h;cases h) (fun _=>hW))) uA.nil)
theorem nW {P:Program} {ops:Array Oper} {Q:Exit→Act→World→Prop} {md:Region.Mode} {S:World→Prop} {ks:Nat→Bool} {listed:Array Bool} {a:Act} {w:World} (hr:Region.ready md ops listed=[]) (h:Q .normal a w):
  ∀ fuel,wpAnyL P md ops Q S ks fuel listed a w
 | 0=>⟨hr,h⟩
 | _+1=>⟨fun _=>h,by rw [hr];simp⟩
theorem Vr {P:Program} {ops:Array Oper} {Q:Exit→Act→World→Prop} {S:World→Prop} (ks:Nat→Bool) {id:Nat} {a:Act} {w:World} (hm:P.follows .mixedOrders=true) (hS:S w.drew)
  (h:S w.drew→wpAnyL P .any ops Q S ks ops.size (Array.replicate ops.size false) a w.drew):(Code.region id ops true).wp P Q a w:=
 wp_region_any hm (UI _ _ _ _ (h hS))
def Y2 (k0:Int) (i:Nat):qM:=⟨k0+3*i,k0+3*i+1,((k0+3*i+1+1) % 3 == 0)⟩
def marksL (k0:Int) (n:Nat):List qM:=(List.range n).map fun i:Nat=>Y2 k0 i
theorem zH (k0:Int) (n:Nat):(marksL k0 n).length=n:=by simp [marksL]
theorem qaV (k0:Int) (n i:Nat) (h:i<n):(marksL k0 n).getD i qz=Y2 k0 i:=by simp [marksL,List.getD,h]
theorem Tj (k0:Int) (n:Nat):marksL k0 (n+1)=marksL k0 n++[Y2 k0 n]:=by simp [marksL,List.range_succ]
def Qv (k0:Int) (xs:List qM) (k:Nat):List qM:=marksL k0 k++xs.drop k
theorem Tk (k0:Int) (xs:List qM) (k:Nat) (h:k≤xs.length):(Qv k0 xs k).length=xs.length:=by simp [Qv,zH];omega
theorem Tm (k0:Int) (xs:List qM) (k:Nat) (h:k<xs.length):(Qv k0 xs k).set k (Y2 k0 k)=Qv k0 xs (k+1):=by
 unfold Qv;rw [qgo,qa2 (by rw [zH];omega),zH,qfV,Tj,qcX h,qdL];simp
theorem Tn (k0:Int) (xs:List qM):Qv k0 xs xs.length=marksL k0 xs.length:=by simp [Qv]
theorem sG (base:Nat) (a:Option Addr) (cap:Nat) (k0:Int) (xs:List qM) (w:World)
  (hown:w.ownsRow base 115 3 (.slice a xs.length cap) xs.length (jT xs)) (h0:0≤k0) (hl:k0+3*xs.length≤4611686018427387904):
  Calls prog 50 #[.slice a xs.length cap,.int .i64 k0] w fun e w'=>e=.returned (.int .i64 (k0+3*xs.length))∧
   w'.ownsRow base 115 3 (.slice a xs.length cap) xs.length (jT (marksL k0 xs.length))∧w.grownBy w' (Value.slice a xs.length cap).ownBlock:=by
 have hlen:=hown.1;rcases hown.2 with ⟨hv,h00⟩ | ⟨g,cap',cur,hv,hg,hgg,hr⟩
 ·simp only [qcK] at hv;obtain ⟨rfl,qeY,rfl⟩:=hv;obtain rfl:=qcI.1 h00;go_enter func50,ntmps50;go_wp2;refine qdp 1 ?_;rw [qdC];go_wp2;go_ret;exact ⟨by simp,hown,qeR _ _⟩
 ·simp only [qcK] at hv;obtain ⟨rfl,_,rfl⟩:=hv;clear hgg hr hlen;have hM:w.ownsRow base 115 3 (.slice (some ⟨g,0,none⟩) xs.length cap) xs.length (jT (Qv k0 xs 0)):=by simpa [Qv,marksL] using hown
  clear hown;go_enter func50,ntmps50;go_wp2;go_loopw [1,5] (fun kk i wr=>∃ k:Nat,k≤xs.length∧i=.int .i64 k∧kk=.int .i64 (k0+3*k)∧wr.ownsRow base 115 3 (.slice (some ⟨g,0,none⟩) xs.length cap) xs.length (jT (Qv k0 xs k))∧w.grownBy wr (some g))
   (fun _ i _=>xs.length-(intOf i).toNat)
  case atStart=>exact ⟨0,qaw _,rfl,by simp,hM,qeR _ _⟩
  case round=>
   obtain ⟨k,hk,rfl,rfl,hown,hgr⟩:=hrel;clear hM;by_cases hlt:k<xs.length
   ·have hp:=Tk k0 xs k hk;obtain ⟨x0,x1,x2,hfz⟩:=dX hown hp k hlt;have f0:=hfz (k*3);have f1:=hfz (k*3+1);have f2:=hfz (k*3+2);obtain ⟨W2,hW2,ho2,hg2⟩:=Dg hown hp k hlt (Y2 k0 k);rw [Tm k0 xs k hlt] at ho2;have HH:Hid (_∧_):=⟨ho2,grownBy_trans hgr hg2⟩;clear ho2 hg2 hfz hown hgr;generalize (Qv k0 xs k).getD k qz=old at*
    simp only [Y2] at hW2;go_wp2;rw [hW2.out];go_roundw
    case rel=>exact ⟨k+1,by omega,by go_num,by go_num,HH.out.1,HH.out.2⟩
    case measure=>simp [intOf];omega
   ·have HE:Hid (wr.ownsRow base 115 3 (.slice (some ⟨g,0,none⟩) xs.length cap) xs.length (jT (marksL k0 xs.length))∧k=xs.length):=by
     have e:k=xs.length:=by omega
     rw [e,Tn] at hown;exact ⟨hown,e⟩
    go_wp2;go_ret;exact ⟨jN (by have:=HE.out.2;omega),HE.out.1,hgr⟩
theorem Uu (lo hi:Nat) (a:Option Addr) (cap:Nat) (k0:Int) (xs:List qM) (w:World) (ho:OwnL w lo hi a cap xs) (h0:0≤k0) (hl:k0+3*xs.length≤4611686018427387904):
  Calls prog 50 #[.slice a xs.length cap,.int .i64 k0] w fun e w'=>e=.returned (.int .i64 (k0+3*xs.length))∧
   OwnL w' lo hi a cap (marksL k0 xs.length)∧Touch (Value.slice a xs.length cap).ownBlock.toList w w':=by
 refine (sG lo a cap k0 xs w ho.1 h0 hl).mono ?_;rintro e w' ⟨rfl,h1,h2⟩;refine ⟨rfl,⟨by rw [zH];exact h1,qcx ho.2.1 h2.size,by rw [zH];exact ho.2.2⟩,Touch.jO h2 (fun j hj=>qad.2 hj)⟩
theorem Uw (a:Option Addr) (cap:Nat) (k0:Int) (n:Nat) (w:World) (hr:kQ w a (marksL k0 n)) (h0:0≤k0) (hl:k0+3*n≤4611686018427387904):
  Calls prog 56 #[.slice a n cap,.int .i64 k0] w fun e w'=>e=.returned (.int .i64 (k0+3*n))∧w'=w:=by
 rcases hr.cases with h | ⟨b,off,rfl,hpos,hcell⟩
 ·have h':=qcz List.length h;rw [zH] at h';simp at h';subst h';go_enter func56,ntmps56;go_wp2;refine qdp 1 ?_;rw [qdC];go_wp2;go_ret;exact ⟨by simp,rfl⟩
 ·rw [zH] at hpos hcell;go_enter func56,ntmps56;go_wp2
  go_loop [1,5] (fun kk i=>∃ k:Nat,k≤n∧i=.int .i64 k∧kk=.int .i64 (k0+3*k)) (fun _ i=>n-(intOf i).toNat)
  case atStart=>exact ⟨0,qaw _,rfl,by simp⟩
  case round=>
   obtain ⟨k,hk,rfl,rfl⟩:=hrel;by_cases hlt:k<n
   ·obtain ⟨c0,c1,c2⟩:=hcell k hlt;rw [qaV k0 n k hlt] at c0 c1 c2;simp only [Y2] at c0 c1 c2;clear hcell;go_wp2
    go_round
    case rel=>exact ⟨k+1,by omega,by go_num,by go_num⟩
    case measure=>simp [intOf];omega
   ·have HE:Hid (k=n):=by show k=n;omega
    go_wp2;go_ret;exact ⟨jN (by have:=HE.out;omega),rfl⟩
section
open Go.RowKit Go.Maps Go.MapKept
structure jl where
 key:Int
 tx:Int
 place:Int
def jl.Nw (m:jl):Value × Value:=(.int .i64 m.key,.agg #[.int .i64 m.tx,.int .i64 m.place])
def MapAt (w:World) (B:Nat) (ms:List jl):Prop:=∃ es clock,w.heap[B]? =some (.map es clock)∧es.toList.map (fun e=>(e.key,e.val))=ms.map jl.Nw
def ZF (k:Int):List jl→Nat→Option (Nat × Value)
 | [],_=>none
 | m::r,i=>if k=m.key then some (i,m.Nw.2) else ZF k r (i+1)
def vZ (c:jl):List jl→List jl
 | []=>[c]
 | m::r=>if c.key=m.key then c::r else m::vZ c r
def xV (k:Int):List jl→Option jl
 | []=>none
 | m::r=>if k=m.key then some m else xV k r
theorem MapAt.lt {w:World} {B:Nat} {ms:List jl} (h:MapAt w B ms):B<w.heap.size:=by
 obtain ⟨es,clock,hb,_⟩:=h;rcases Nat.lt_or_ge B w.heap.size with h | h
 ·exact h
 ·rw [qeO h] at hb;cases hb
theorem MapAt.below {w w':World} {B:Nat} {ms:List jl} (h:MapAt w B ms) (hb:qa w w'):MapAt w' B ms:=by
 have hl:=h.lt;obtain ⟨es,clock,h1,h2⟩:=h;exact ⟨es,clock,by rw [hb.block B hl];exact h1,h2⟩
theorem MapAt.touch {w w':World} {B:Nat} {ms:List jl} {bl:List Nat} (h:MapAt w B ms) (ht:Touch bl w w') (hn:B∉bl):MapAt w' B ms:=by
 have hl:=h.lt;obtain ⟨es,clock,h1,h2⟩:=h;exact ⟨es,clock,by rw [ht.block B hl hn];exact h1,h2⟩
theorem EG (w:World):MapAt (w.alloc (.map #[] 0)) w.heap.size []:=⟨#[],0,(heap_alloc w _).1,rfl⟩
theorem fo (k:Int):∀ (ms:List jl) (l:List MapEntry) (i:Nat),l.map (fun e=>(e.key,e.val))=ms.map jl.Nw→Instr.findNow (.int .i64) (.int .i64 k) l i=some (ZF k ms i):=by
 intro ms
 induction ms with
 | nil=>intro l i h;cases l with
  | nil=>rfl
  | cons e r=>simp at h
 | cons m r ih=>
  intro l i h;cases l with
  | nil=>simp at h
  | cons e q=>
   simp only [qdG,qfh,jl.Nw,Prod.mk.injEq] at h;obtain ⟨⟨h1,h2⟩,h3⟩:=h;have h4:=ih q (i+1) (by simpa [jl.Nw] using h3);rw [Instr.findNow,h1,ZF];by_cases hk:k=m.key
   ·subst hk;simp [Instr.sameNow,h2,jl.Nw]
   ·have hkb:(k == m.key)=false:=by simpa using hk
    simp [Instr.sameNow,hk,h4,hkb]
theorem Z9 (k:Int):∀ (ms:List jl) (i:Nat),(ZF k ms i=none∧xV k ms=none∧∀ c:jl,c.key=k→vZ c ms=ms++[c])∨∃ (j:Nat) (m:jl),ms[j]? =some m∧m.key=k∧ZF k ms i=some (i+j,m.Nw.2)∧xV k ms=some m∧∀ c:jl,c.key=k→vZ c ms=ms.set j c:=by
 intro ms
 induction ms with
 | nil=>intro i;exact .inl ⟨rfl,rfl,fun c hc=>rfl⟩
 | cons m r ih=>
  intro i;by_cases hk:k=m.key
  ·refine .inr ⟨0,m,rfl,hk.symm,by rw [ZF,qan hk];rfl,by rw [xV,qan hk],fun c hc=>?_⟩;rw [vZ,qan (by rw [hc,hk]),qdL]
  ·rcases ih (i+1) with ⟨h1,h2,h3⟩ | ⟨j,n,h1,h2,h3,h4,h5⟩
   ·exact .inl ⟨by rw [ZF,qa2 hk];exact h1,by rw [xV,qa2 hk];exact h2,fun c hc=>by rw [vZ,qa2 (by rw [hc];exact hk),h3 c hc];rfl⟩
   ·refine .inr ⟨j+1,n,by simpa using h1,h2,by rw [ZF,qa2 hk,h3];congr 2;omega,by rw [xV,qa2 hk];exact h4,fun c hc=>?_⟩;rw [vZ,qa2 (by rw [hc];exact hk),h5 c hc,qe3]
theorem fu (k:Int):IsKey (.int .i64) (.int .i64 k):=rfl
theorem qaW (l:List MapEntry) (j:Nat) (f:MapEntry→MapEntry) (v:Value × Value) (hf:∀ e,((f e).key,(f e).val)=v):(l.modify j f).map (fun e=>(e.key,e.val))=(l.map (fun e=>(e.key,e.val))).set j v:=by
 induction l generalizing j with
 | nil=>simp
 | cons e r ih=>
  cases j with
  | zero=>simp [hf]
  | succ j=>simp [ih j]
theorem gJ {w:World} {B:Nat} {ms:List jl} (h:MapAt w B ms) (c:jl):
  ∃ w',(Instr.mapUpdate 134 (.map (some B)) (.int .i64 c.key) (.agg #[.int .i64 c.tx,.int .i64 c.place])).run prog w=.ok () w'∧MapAt w' B (vZ c ms)∧w.grownBy w' (some B):=by
 obtain ⟨es,clock,hb,he⟩:=h;have hck:=run_checkKey (P:=prog) (w:=w) underlying3 (fu c.key) false 9999;have Ny:=run_findKey (P:=prog) (w:=w) (kt:=3) underlying3 (fo c.key ms es.toList 0 he);have hgo:(getObj B).run prog w=.ok (.map es clock) w:=by simp [getObj,Sem.run,hb]
 have hgr:∀ o:Obj,w.grownBy { w with heap:=w.heap.setIfInBounds B o } (some B):=fun o=>⟨rfl,rfl,rfl,by simp,fun i _ hi=>(heap_set hb).2 i (fun e=>hi (by rw [e]))⟩
 rcases Z9 c.key ms 0 with ⟨h1,_,h3⟩ | ⟨j,m,h1,h2,h3,_,h5⟩
 ·rw [h1] at Ny;refine ⟨{ w with heap:=w.heap.setIfInBounds B (.map (es.push { key:=.int .i64 c.key,val:=.agg #[.int .i64 c.tx,.int .i64 c.place],born:=clock }) (clock+1)) },?_,⟨_,_,(heap_set hb).1,?_⟩,hgr _⟩
  ·simp only [Instr.mapUpdate,qdq,qgd underlying134,Result.andThen,hgo,hck,Ny,run_setObj_map _ hb]
  ·rw [h3 c rfl,Array.toList_push,qdd,qdd,he];rfl
 ·rw [h3] at Ny;have hold:((es[0+j]?).map (·.key)).getD (.int .i64 c.key)=.int .i64 c.key:=by
   have e:=qcz (fun l=>l[j]?) he;simp only [qdy,h1,qfS,jl.Nw] at e;rw [qeK];rw [← Array.getElem?_toList];cases hq:es.toList[j]? with
   | none=>rfl
   | some x=>
    rw [hq] at e;simp only [qfS,qeL,Prod.mk.injEq] at e;simp [e.1,h2]
  have hst:(Instr.keyThatStays (.int .i64 c.key) (.int .i64 c.key)).run prog w=.ok (.int .i64 c.key) w:=by
   have:Instr.sameBits 10000 (.int .i64 c.key) (.int .i64 c.key)=true:=by simp [Instr.sameBits]
   simp [Instr.keyThatStays,this]
  refine ⟨{ w with heap:=w.heap.setIfInBounds B (.map (es.modify (0+j) fun e=>{ e with key:=.int .i64 c.key,val:=.agg #[.int .i64 c.tx,.int .i64 c.place] }) clock) },?_,⟨_,_,(heap_set hb).1,?_⟩,hgr _⟩
  ·simp only [Instr.mapUpdate,qdq,qgd underlying134,Result.andThen,hgo,hck,Ny,hold,hst,run_setObj_map _ hb]
  ·rw [h5 c rfl,Array.toList_modify,qaW _ _ _ c.Nw (fun e=>rfl),he,qeW,qeK]
theorem qaX (w:World):(zeroValue 141).run prog w=.ok (.agg #[.int .i64 0,.int .i64 0]) w:=by kernel_rfl
def kg (k:Int) (ms:List jl):jl:=(xV k ms).getD ⟨k,0,0⟩
theorem Yf {w:World} {B:Nat} {ms:List jl} (h:MapAt w B ms) (k:Int) (ok:Bool):
  (Instr.lookup 134 (.map (some B)) (.int .i64 k) ok).run prog w=.ok (if ok then .tuple #[.agg #[.int .i64 (kg k ms).tx,.int .i64 (kg k ms).place],.bool (xV k ms).isSome] else .agg #[.int .i64 (kg k ms).tx,.int .i64 (kg k ms).place]) w:=by
 obtain ⟨es,clock,hb,he⟩:=h;have hck:=run_checkKey (P:=prog) (w:=w) underlying3 (fu k) es.isEmpty 9999;have Ny:=run_findKey (P:=prog) (w:=w) (kt:=3) underlying3 (fo k ms es.toList 0 he);have hgo:(getObj B).run prog w=.ok (.map es clock) w:=by simp [getObj,Sem.run,hb]
 rcases Z9 k ms 0 with ⟨h1,h2,_⟩ | ⟨j,m,h1,h2,h3,h4,_⟩
 ·rw [h1] at Ny;simp only [Instr.lookup,qdq,qgd underlying134,Result.andThen,hgo,hck,Ny,qaX,qeJ,kg,h2];cases ok<;>rfl
 ·rw [h3] at Ny;simp only [Instr.lookup,qdq,qgd underlying134,Result.andThen,hgo,hck,Ny,qeJ,kg,h4];cases ok<;>rfl
theorem Ij {w:World} {B:Nat} {ms:List jl} (h:MapAt w B ms) (ty:TypeId):(Builtin.len_ #[134] ty #[.map (some B)]).run prog w=.ok (.int .i64 (ms.length:Int)) w:=by
 obtain ⟨es,clock,hb,he⟩:=h;have hgo:(getObj B).run prog w=.ok (.map es clock) w:=by simp [getObj,Sem.run,hb]
 have hl:es.size=ms.length:=by have:=qcz List.length he;simpa using this
 simp [Builtin.len_,run_underlying underlying134,Result.andThen,hgo,hl];rfl
end
section
open Go.RowKit Go.Maps Go.MapKept
def jf (hs:List qU):Nat→List jl
 | 0=>[]
 | k+1=>vZ ⟨(hs.getD k jy).oid,(hs.getD k jy).tx,(k:Int)⟩ (jf hs k)
theorem Rc (c:jl) (ms:List jl):(vZ c ms).length=if (xV c.key ms).isSome then ms.length else ms.length+1:=by
 rcases Z9 c.key ms 0 with ⟨_,h2,h3⟩ | ⟨j,m,_,_,_,h4,h5⟩
 ·rw [h2,h3 c rfl];simp
 ·rw [h4,h5 c rfl];simp
theorem uD (k:Int) (c:jl) (ms:List jl):xV k (vZ c ms)=if k=c.key then some c else xV k ms:=by
 induction ms with
 | nil=>simp only [vZ,xV]
 | cons m r ih=>
  rw [vZ];by_cases h:c.key=m.key
  ·rw [qan h,xV,xV];by_cases h2:k=c.key
   ·rw [qan h2,qan h2]
   ·rw [qa2 h2,qa2 h2,qa2 (by rw [← h];exact h2)]
  ·rw [qa2 h,xV,xV,ih];by_cases h2:k=m.key
   ·rw [qan h2,qan h2,qa2 (by rw [h2];exact fun e=>h e.symm)]
   ·rw [qa2 h2,qa2 h2]
theorem ZH (hs:List qU) (k:Int):∀ n,xV k (jf hs n)=none ↔ ∀ j,j<n→(hs.getD j jy).oid≠k:=by
 intro n
 induction n with
 | zero=>exact ⟨fun _ j hj=>by omega,fun _=>rfl⟩
 | succ n ih=>
  rw [jf,uD];by_cases h:k=(hs.getD n jy).oid
  ·rw [qan h];exact ⟨fun h=>(by cases h),fun h2=>absurd h.symm (h2 n (by omega))⟩
  ·rw [qa2 h,ih];refine ⟨fun h2 j hj=>?_,fun h2 j hj=>h2 j (by omega)⟩;by_cases e:j=n
   ·rw [e];exact fun q=>h q.symm
   ·exact h2 j (by omega)
theorem Ul (hs:List qU):∀ n,(jf hs n).length≤n:=by
 intro n
 induction n with
 | zero=>exact qcN _
 | succ n ih=>rw [jf,Rc];split<;>omega
theorem GX (hs:List qU):∀ n,(jf hs n).length=n ↔ ∀ i,i<n→∀ j,j<i→(hs.getD j jy).oid≠(hs.getD i jy).oid:=by
 intro n
 induction n with
 | zero=>exact ⟨fun _ i hi=>by omega,fun _=>rfl⟩
 | succ n ih=>
  have hle:=Ul hs n;rw [jf,Rc];simp only;cases hg:xV (hs.getD n jy).oid (jf hs n) with
  | none=>
   have hd:=(ZH hs _ n).1 hg;simp only [Option.isSome_none,Bool.false_eq_true,qf7];constructor
   ·intro h i hi j hj;by_cases e:i=n
    ·subst e;exact hd j hj
    ·exact ih.1 (by omega) i (by omega) j hj
   ·intro h;rw [ih.2 (fun i hi j hj=>h i (by omega) j hj)]
  | some m=>
   simp only [Option.isSome_some,if_true];constructor
   ·intro h;omega
   ·intro h;have:xV (hs.getD n jy).oid (jf hs n)=none:=(ZH hs _ n).2 (fun j hj=>h n (by omega) j hj);rw [hg] at this;cases this
theorem Nz {w:World} {ops:Array Oper} {rest:List Oper} {o:Oper} {a:Act} {Q:Exit→Act→World→Prop} (hg:o.guard=none) (m x v:Operand) (hop:o.op=Op.mapUpdate 134 m x v)
  (B:Nat) (ms:List jl) (c:jl) (hm:a.eval m=.map (some B)) (hx:a.eval x=.int .i64 c.key) (hv:a.eval v=.agg #[.int .i64 c.tx,.int .i64 c.place]) (h:MapAt w B ms)
  (hK:∀ w',MapAt w' B (vZ c ms)→w.grownBy w' (some B)→wpList prog ops Q rest (a.put o.dst undef) w'):wpList prog ops Q (o::rest) a w:=by
 refine qgi hg fun K' hK'=>?_
 obtain ⟨w',hrun,r1,r2⟩:=gJ h c;unfold Oper.wp;simp [execOp,hop,hm,hx,hv,hrun,Result.andThen];exact hK' _ _ (hK w' r1 r2)
theorem UY (a:Option Addr) (cap:Nat) (hs:List qU) (w:World) (hr:yN w a hs) (hl:hs.length≤1099511627776):
  Calls prog 83 #[.slice a hs.length cap] w fun e w'=>e=.returned (.map (some w.heap.size))∧MapAt w' w.heap.size (jf hs hs.length)∧qa w w':=by
 have hmm:=@run_makeMap prog;obtain ⟨W,hW⟩:=qV (w.alloc (.map #[] 0));have m0:MapAt W w.heap.size []:=by rw [← hW.out];exact EG w
 have hbW:qa w W:=by rw [← hW.out];exact (qab _ _).alloc qg _
 have HR:Hid (yN w a hs):=hr;clear hr;go_enter func83,ntmps83;go_wp2_with fail;rw [hW.out];clear hW;go_loopw [9] (fun i wr=>∃ k:Nat,k≤hs.length∧i=.int .i64 (k:Int)∧MapAt wr w.heap.size (jf hs k)∧qa w wr) (fun i _=>hs.length-(intOf i).toNat)
 case atStart=>exact ⟨0,qaw _,rfl,m0,hbW⟩
 case round=>
  obtain ⟨k,hk,rfl,hm,hnx⟩:=hrel;clear m0 hbW;by_cases hlt:k<hs.length
  ·obtain ⟨b,off,rfl,hc⟩:=(HR.out.below hnx) (by intro e;rw [e] at hlt;simp at hlt);obtain ⟨c0,c1⟩:=hc k hlt;have HP:Hid (jf hs (k+1)=vZ ⟨(hs.getD k jy).oid,(hs.getD k jy).tx,(k:Int)⟩ (jf hs k)):=rfl;clear hc;generalize hs.getD k jy=h at*
   obtain ⟨V,hV,bV,uo,Yy⟩:=qB wr [.int .i64 h.tx,.int .i64 h.oid] 117;have hmV:=hm.below uo;have hnV:=qf hnx uo;have hln:w.heap.size<V.heap.size:=hmV.lt;have x0:=bV.cell 0 _ rfl;have x1:=bV.cell 1 _ rfl;clear hm hnx uo Yy bV;go_upto_region 5 with fail;rw [hV.out];clear hV c0 c1;go_wp2_with (first | (at_mapUpdate;refine Nz rfl _ _ _ rfl w.heap.size (jf hs k) ⟨h.oid,h.tx,(k:Int)⟩ rfl rfl rfl hmV ?_;intro w5 hm5 hg5) | fail);have HM5:Hid (MapAt w5 w.heap.size (jf hs (k+1))∧qa w w5):=by
    rw [HP.out];exact ⟨hm5,hnV.grown hg5 hnV.size (fun j hj=>by cases hj;exact qcN _)⟩
   clear hm5 hg5 hmV hnV HP x0 x1;go_wp2_with fail;go_roundw
   case rel=>exact ⟨k+1,by omega,by go_num,HM5.out.1,HM5.out.2⟩
   case measure=>simp [intOf];omega
  ·have e:k=hs.length:=by omega
   have HE:Hid (MapAt wr w.heap.size (jf hs hs.length)):=by rw [e] at hm;exact hm
   clear e;go_wp2;go_ret;exact ⟨rfl,HE.out,hnx⟩
end
def zo (n:Int) (vs:List qO) (slot:Int) (s:qO) (lsn:Int):Bool:=xZ n vs && (inB slot 0 3 && (qL s && inB lsn n 1000000))
def setOf (n:Int) (vs:List qO) (slot:Int) (s:qO) (lsn:Int):Int × List qO:=if zo n vs slot s lsn then (lsn,vs.set slot.toNat s) else (n,vs)
theorem qbM {n:Int} {vs:List qO} {slot:Int} {s:qO} {lsn:Int} (h:zo n vs slot s lsn=false):setOf n vs slot s lsn=(n,vs):=by unfold setOf;rw [qa2 (by rw [h];decide)]
theorem qbN {n:Int} {vs:List qO} {slot:Int} {s:qO} {lsn:Int} (h:zo n vs slot s lsn=true):setOf n vs slot s lsn=(lsn,vs.set slot.toNat s):=by unfold setOf;rw [qan h]
theorem qd4 {n:Int} {vs:List qO} {slot:Int} {s:qO} {lsn:Int} (h:xZ n vs=false):zo n vs slot s lsn=false:=by simp [zo,h]
theorem l9 {n:Int} {vs:List qO} {slot:Int} {s:qO} {lsn:Int} (h:inB slot 0 3=false):zo n vs slot s lsn=false:=by simp [zo,h]
theorem qd5 {n:Int} {vs:List qO} {slot:Int} {s:qO} {lsn:Int} (h:qL s=false):zo n vs slot s lsn=false:=by simp [zo,h]
theorem Oa {n:Int} {vs:List qO} {slot:Int} {s:qO} {lsn:Int} (h:inB lsn n 1000000=false):zo n vs slot s lsn=false:=by simp [zo,h]
theorem Ob {n:Int} {vs:List qO} {slot:Int} {s:qO} {lsn:Int} (h1:xZ n vs=true) (h2:inB slot 0 3=true) (h3:qL s=true) (h4:inB lsn n 1000000=true):zo n vs slot s lsn=true:=by simp [zo,h1,h2,h3,h4]
theorem wH {P:Program} {fn:Func} {s t:Nat} {ty:TypeId} {tmps:Array Value} {w:World} {v b:Value} {ad:Addr} (hf:fn.results=#[.cell s ty,.tmp t]) (ht:tmps[s]?.getD undef=.pointer (some ad)) (hl:(loadVar ty ad).run P w=.ok v w) (hb:tmps[t]?.getD undef=b):(results fn tmps).run P w=.ok (.tuple #[v,b]) w:=by
 unfold results;rw [hf];simp [ht,asAddr,hl,hb]
theorem jD {ops:Array Oper} {rest:List Oper} {op:Oper} {a:Act} {w:World} {Q:Exit→Act→World→Prop} {P:Program} (hw:Region.wanted op (yielded ops a.tmps)=true) (ty:TypeId) (x:Operand) (ho:op.op=.load ty x)
  (b o:Nat) (hx:a.eval x=.pointer (some ⟨b,o,none⟩)) (cs:List Value) (d:TypeDesc) (hc:w.rangeAt b o cs)
  (hu:P.underlying ty=some d) (hd:d.isRow=true) (hi:(P.info? ty).map (·.size)=some cs.length)
  (h:wpList P ops Q rest (a.put op.dst (.agg cs.toArray)) w):wpList P ops Q (op::rest) a w:=
 wpList_step fun _ hK=>by
  simp only [hw,if_true];exact wp_load_mid ty x ho b o hx cs d hc hu hd hi (hK _ _ h)
def QL:List Value:=[.int .i64 0,.bool false,.int .i64 0,.slice none 0 0,.slice none 0 0,.bool false,.int .i64 0,.slice none 0 0,.slice none 0 0,.bool false,.int .i64 0,.slice none 0 0,.slice none 0 0,.bool false,.int .i64 0,.slice none 0 0,.slice none 0 0]
theorem page_out {w:World} {C:Nat} {T:TypeId} {d:TypeDesc} (q:qA) (hq:q.ss.length=4) (old:List Value) (ho:old.length=17) (bC:Box w C old T) (hu:prog.underlying T=some d) (hd:d.isRow=true) (hi:(prog.info? T).map (·.size)=some 17):
  ∃ WF,Hid (w.setCells C 0 q.cells=WF)∧Within C (C+1) w WF∧WF.heap.size=w.heap.size∧Hid (w.there C 0 q.cells.toArray.size)∧Hid ((loadVar T ⟨C,0,none⟩).run prog WF=.ok (.agg q.cells.toArray) WF)∧Box WF C q.cells T:=by
 have hl:q.cells.length=17:=jJ q hq;obtain ⟨WF,qK,bF,hwF,q8⟩:=jE [] old q.cells [] (by simpa using bC) (by rw [hl,ho]);have Jz:Box WF C q.cells T:=by simpa using bF
 refine ⟨WF,qK,hwF,q8,bC.there 0 _ (by rw [qcY,hl,ho];omega),?_,Jz⟩;exact qeI (P:=prog) WF C 0 T q.cells d (qN Jz) hu hd (by rw [hi,hl])
end Go.Proofs.YtnfdccldabbobaaGreatDoor
