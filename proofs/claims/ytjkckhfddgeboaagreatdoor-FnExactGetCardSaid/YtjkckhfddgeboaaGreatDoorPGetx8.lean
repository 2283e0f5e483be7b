/- Several texts in one, in their order. -/
import Derived.Test.YtjkckhfddgeboaaGreatDoorPGetx2
import Derived.Test.YtjkckhfddgeboaaGreatDoorPGetx7
import Derived.Test.YtjkckhfddgeboaaGreatDoorPGetx4
import Derived.Test.YtjkckhfddgeboaaGreatDoorPGetx3
import Derived.Test.YtjkckhfddgeboaaGreatDoorPGetx6
import Derived.Deep.CutRange
import Derived.Deep.RegionLaw
import Derived.Deep.DrawnRows
import Derived.Deep.RegionHeld3
import Derived.Test.YtjkckhfddgeboaaGreatDoorPGetx1
set_option maxHeartbeats 8000000
set_option maxRecDepth 100000
namespace Go.Proofs.YtjkckhfddgeboaaGreatDoor
open Go.RowKit
structure zS (ps:List qw):Prop where
 eight:ps.length=8
 four:∀ p∈ps,p.ss.length=4
theorem j4 {ps:List qw} {k:Nat} (h:k<ps.length):ps.getD k qM∈ps:=by simp [List.getD,h,List.getElem_mem]
theorem zS.at {ps:List qw} (h:zS ps) {k:Nat} (hk:k<8):(ps.getD k qM).ss.length=4:=h.four _ (j4 (by rw [h.eight];exact hk))
def xH (p:qw):Int × List jy:=(p.lsn,p.ss.map (·.v))
def qI (ps:List qw):List qf:=ps.flatMap (·.ss)
theorem Xd {w:World} {B:Nat} {t:TypeId} {ps:List qw} (h:zS ps) (b:Box w B (qj ps) t) (k:Nat) (hk:k<8):w.rangeAt B (k*17) (ps.getD k qM).cells:=by
 have hk':k<ps.length:=by rw [h.eight];exact hk
 have e:=uA ps k hk';have b':=b;rw [e] at b';have:=Box.range _ _ _ b';rw [jL _ (fun p hp=>h.four p (List.mem_of_mem_take hp)),List.length_take,Nat.min_eq_left (Nat.le_of_lt hk')] at this;have e2:ps.getD k qM=ps[k]:=by simp [List.getD,hk']
 rw [e2];exact this
theorem wD {ps:List qw} (h:zS ps):(Tryz.prog.info? 32).map (·.size)=some (qj ps).length:=by rw [jL _ h.four,h.eight];kernel_rfl
theorem Ia {ps ts:List qw} (he:ts.map xH=ps.map xH) (k:Nat) (hk:k<ps.length):xH (ts.getD k qM)=xH (ps.getD k qM):=by
 have hk':k<ts.length:=by have:=congrArg List.length he;simp only [List.length_map] at this;omega
 have:=congrArg (fun l=>l[k]?) he
 simpa [List.getD,hk,hk'] using this
theorem jM (p:qw) (h:p.ss.length=4):(Tryz.prog.info? 31).map (·.size)=some p.cells.length:=by rw [jo _ h];kernel_rfl
theorem Hf (ps ts:List qw) (hp:zS ps) (ht:zS ts) (he:ts.map xH=ps.map xH) (w:World) (YW:∀ p∈ps,jK w p.ss) (hrt:∀ p∈ts,jK w p.ss) (hf:∀ p∈ps,Fit p.ss):
  Calls Tryz.prog 116 #[.agg (qj ps).toArray,.agg (qj ts).toArray] w fun e w'=>e=.returned (.bool true)∧Below w.heap.size w w':=by
 obtain ⟨W,hW,b0,b1,hbW,qp⟩:=jf w (qj ps) (qj ts) 32 32;go_enter Tryz.func116,Tryz.ntmps116;go_wp2_with fail;rw [hW.out];clear hW qp;go_loopw [5] (fun i wr=>∃ k:Nat,k≤8∧i=.int .i64 (k:Int)∧Below W.heap.size W wr) (fun i _=>8-(intOf i).toNat)
 case atStart=>exact ⟨0,Nat.zero_le _,rfl,Below.refl _ _⟩
 case round=>
  obtain ⟨k,hk,rfl,hbr⟩:=hrel;by_cases hlt:k<8
  ·have HR:Hid (∀ u,Below W.heap.size W u→u.rangeAt w.heap.size (k*17) (ps.getD k qM).cells∧u.rangeAt (w.heap.size+1) (k*17) (ts.getD k qM).cells):=fun u hu=>⟨Xd hp (b0.below hu b0.lt) k hlt,Xd ht (b1.below hu b1.lt) k hlt⟩
   have zT:=hp.at hlt;have MZ:=ht.at hlt;have hv:=Ia he k (by rw [hp.eight];exact hlt);have R1:=YW _ (j4 (k:=k) (by rw [hp.eight];exact hlt));have R2:=hrt _ (j4 (k:=k) (by rw [ht.eight];exact hlt));have F1:=hf _ (j4 (k:=k) (by rw [hp.eight];exact hlt));generalize ps.getD k qM=p at*
   generalize ts.getD k qM=t at*
   obtain ⟨n,ss⟩:=p;obtain ⟨n',ts'⟩:=t;simp only [xH,Prod.mk.injEq] at hv;obtain ⟨rfl,hv⟩:=hv;have HV:Hid _:=hv;clear hv;have hi0:(0:Int)≤(k:Int):=by omega
   have dW:(k:Int)<8:=by omega
   go_wp2_with fail;have D0:Below W.heap.size W wr.drew:=hbr.trans ((Below.refl _ _).drew.mono hbr.size);refine wp_region_held_drew (S:=fun u=>u.rangeAt w.heap.size (k*17) (qw.cells ⟨n',ss⟩)∧u.rangeAt (w.heap.size+1) (k*17) (qw.cells ⟨n',ts'⟩)) (by kernel_rfl) (HR.out _ D0) (fun hHeld=>?_);generalize wr.drew=d0 at*
   refine tr 0 (.int .i64 (k:Int)) ?_;refine tr 1 (.pointer (some ⟨w.heap.size,k*17,none⟩)) ?_;refine Go.Proofs.YtjkckhfddgeboaaGreatDoor.ts 2 rfl (yieldsIf_load_mid (by rfl) _ _ rfl _ _ rfl (qw.cells ⟨n',ss⟩) _ (fun _ h=>h.1) Tryz.underlying31 rfl (jM _ zT)) ?_;refine tr 3 (.int .i64 (k:Int)) ?_;refine tr 4 (.pointer (some ⟨w.heap.size+1,k*17,none⟩)) ?_;refine Go.Proofs.YtjkckhfddgeboaaGreatDoor.ts 5 rfl (yieldsIf_load_mid (by rfl) _ _ rfl _ _ rfl (qw.cells ⟨n',ts'⟩) _ (fun _ h=>h.2) Tryz.underlying31 rfl (jM _ MZ)) ?_;refine wpAnyH_ready (rs:=[6]) (by kernel_rfl) (by simp) ?_;refine AllReadyH.cons rfl (fun K hK=>?_) AllReadyH.nil;go_simp;refine (UB n' ss ts' zT HV.out d0 (R1.below (hbW.trans (D0.mono hbW.size))) (R2.below (hbW.trans (D0.mono hbW.size))) F1).mono ?_;rintro e d1 ⟨rfl,hb1⟩;have D1:Below W.heap.size W d1:=D0.trans (hb1.mono D0.size);refine hK.out _ _ (HR.out _ D1) (fun hHeld=>?_);clear hK K hb1;try simp only [zz]
   refine tr 7 (.bool false) ?_;refine wpAnyH_done (by kernel_rfl) ?_ _;clear hHeld;go_wp2_with fail;go_roundw
   case rel=>exact ⟨k+1,by omega,by go_num,D1⟩
   case measure=>simp [intOf];omega
  ·obtain rfl:k=8:=by omega
   have hkk:¬ ((8:Nat):Int)<8:=by omega
   have HE:Hid (Below w.heap.size w wr):=hbW.trans (hbr.mono hbW.size);go_wp2;go_ret;exact ⟨rfl,HE.out⟩
theorem qG.part {w:World} {lo hi:Nat} {A M B:List qf} (h:qG w lo hi (A++(M++B))):qG w lo hi M:=by
 refine ⟨fun s hs=>h.each s (by simp [hs]),?_⟩;have:=h.apart;simp only [List.flatMap_append,List.nodup_append] at this;exact this.2.1.1
theorem qG.swap {w w':World} {lo hi:Nat} {A M N B:List qf} (h:qG w lo hi (A++(M++B))) (ht:Touch (M.flatMap qf.blocks) w w') (ho:qG w' lo hi N) (hb:N.flatMap qf.blocks=M.flatMap qf.blocks):qG w' lo hi (A++(N++B)):=by
 have ha:=h.apart;simp only [List.flatMap_append,List.nodup_append,List.mem_append] at ha;obtain ⟨a1,⟨a2,a3,a4⟩,a5⟩:=ha;refine ⟨fun s hs=>?_,?_⟩
 ·rcases List.mem_append.1 hs with hs | hs
  ·exact qf.touch (h.each s (by simp [hs])) ht (fun k hk hk'=>a5 k (List.mem_flatMap.2 ⟨s,hs,hk⟩) k (.inl hk') rfl)
  ·rcases List.mem_append.1 hs with hs | hs
   ·exact ho.each s hs
   ·exact qf.touch (h.each s (by simp [hs])) ht (fun k hk hk'=>a4 k hk' k (List.mem_flatMap.2 ⟨s,hs,hk⟩) rfl)
 ·have:=h.apart;simp only [List.flatMap_append,hb] at this ⊢;exact this
theorem vw (ss:List qf):∀ k,(jH ss k).flatMap qf.blocks=ss.flatMap qf.blocks:=by
 induction ss with
 | nil=>intro k;rfl
 | cons s r ih=>intro k;simp only [jH,List.flatMap_cons,Uz,ih]
theorem Zy (A B:List qf):qO (A++B)=qO A+qO B:=by
 induction A with
 | nil=>simp [qO]
 | cons s r ih=>simp only [List.cons_append,qO,ih];omega
theorem Jn (a b:List qw):qI (a++b)=qI a++qI b:=by simp only [qI,List.flatMap_append]
theorem QC (p:qw) (b:List qw):qI (p::b)=p.ss++qI b:=by simp only [qI,List.flatMap_cons]
theorem zm {ps:List qw} {k:Nat} (h:k<ps.length):ps[k]=ps.getD k qM:=by simp [List.getD,h]
theorem UC (ps:List qw) (k:Nat) (hk:k<ps.length):qI ps=qI (ps.take k)++((ps.getD k qM).ss++qI (ps.drop (k+1))):=by
 have e:ps=ps.take k++ps.getD k qM::ps.drop (k+1):=by
  conv=>lhs;rw [← List.take_append_drop k ps,List.drop_eq_getElem_cons hk]
  simp [List.getD,hk]
 conv=>lhs;rw [e]
 simp only [qI,List.flatMap_append,List.flatMap_cons]
theorem gP (ps:List qw) (k:Nat) (hk:k<ps.length):qI (ps.take (k+1))=qI (ps.take k)++(ps.getD k qM).ss:=by
 rw [List.take_succ_eq_append_getElem hk,Jn,QC,zm hk];simp only [qI,List.flatMap_nil,List.append_nil]
theorem Y7 (ps:List qw) (k:Nat):qO (qI (ps.take k))≤qO (qI ps):=by
 conv=>rhs;rw [← List.take_append_drop k ps,Jn,Zy]
 omega
theorem Wj (ps:List qw) (hp:zS ps) (lo hi:Nat) (k0:Int) (w:World) (ho:qG w lo hi (qI ps)) (hf:∀ p∈ps,Fit p.ss) (h0:0≤k0) (hk:k0+qO (qI ps)≤10995116277760) (hhi:hi≤w.heap.size):
  Calls Tryz.prog 121 #[.agg (qj ps).toArray,.int .i64 k0] w fun e w'=>e=.returned (.int .i64 (k0+qO (qI ps)))∧qG w' lo hi (jH (qI ps) k0)∧Touch ((qI ps).flatMap qf.blocks) w w':=by
 obtain ⟨W,hW,b0,hbW,qp⟩:=qx w (qj ps) 32;have hs0:w.heap.size<W.heap.size:=by omega
 have hbl:=ho.ql;go_enter Tryz.func121,Tryz.ntmps121;go_wp2_with fail;rw [hW.out];clear hW qp;go_loopw [1,5] (fun kk i wr=>∃ k:Nat,k≤8∧i=.int .i64 (k:Int)∧kk=.int .i64 (k0+qO (qI (ps.take k)))∧qG wr lo hi (jH (qI (ps.take k)) k0++qI (ps.drop k))∧Touch ((qI ps).flatMap qf.blocks) W wr) (fun _ i _=>8-(intOf i).toNat)
 case atStart=>exact ⟨0,Nat.zero_le _,rfl,by simp [qI,qO],by simpa [qI,jH] using ho.below hbW,Touch.refl _ _⟩
 case round=>
  obtain ⟨k,fe,rfl,rfl,hor,htr⟩:=hrel;by_cases hlt:k<8
  ·have hkl:k<ps.length:=by rw [hp.eight];exact hlt
   have Ib:w.heap.size∉(qI ps).flatMap qf.blocks:=fun h=>by have:=(hbl _ h).2;omega
   have r1:=Xd hp (b0.touch htr Ib) k hlt;have zT:=hp.at hlt;have F1:=hf _ (j4 (k:=k) hkl);have e1:qI (ps.drop k)=(ps.getD k qM).ss++qI (ps.drop (k+1)):=by
    rw [List.drop_eq_getElem_cons hkl,QC,zm hkl]
   rw [e1] at hor;have e2:=gP ps k hkl;have HC:Hid (qO (qI (ps.take (k+1)))=qO (qI (ps.take k))+qO (ps.getD k qM).ss):=by rw [Hid,e2,Zy]
   have HM:Hid (jH (qI (ps.take (k+1))) k0=jH (qI (ps.take k)) k0++jH (ps.getD k qM).ss (k0+qO (qI (ps.take k)))):=by rw [Hid,e2,KZ]
   have HB:Hid (∀ j∈(ps.getD k qM).ss.flatMap qf.blocks,j∈(qI ps).flatMap qf.blocks):=fun j hj=>by
    rw [UC ps k hkl];simp only [List.flatMap_append,List.mem_append];exact .inr (.inl hj)
   have hcl:=Y7 ps k;have C:=pG (ps.getD k qM) zT lo hi (k0+qO (qI (ps.take k))) wr hor.part F1 (by omega) (by omega) (by have:=htr.size;omega);clear e1 e2;generalize ps.getD k qM=p at*
   have JK:=jM p zT;have hi0:(0:Int)≤(k:Int):=by omega
   have dW:(k:Int)<8:=by omega
   generalize hcc:qO (qI (ps.take k))=cc at*
   go_wp2_with (first | (guard_target=wpList _ _ _ (Oper.mk (some 12) _ _ _ _ _::_) _ _;refine wpList_load_mid rfl 31 (.tmp 11) rfl w.heap.size (k*17) rfl p.cells _ r1 Tryz.underlying31 rfl JK ?_) | fail);refine C.mono ?_;clear C;rintro e w1 ⟨rfl,ho1,ht1⟩;have yA:Hid (qG w1 lo hi (jH (qI (ps.take (k+1))) k0++qI (ps.drop (k+1)))):=by
    rw [Hid,HM.out,List.append_assoc];exact hor.swap ht1 ho1 (vw _ _)
   have Qs:Hid (Touch ((qI ps).flatMap qf.blocks) W w1):=htr.trans (ht1.mono HB.out);have XA:Hid (k0+(cc:Int)+(qO p.ss:Int)=k0+(qO (qI (ps.take (k+1))):Int)):=by have:=HC.out;rw [Hid];omega
   clear hor htr ho1 ht1 HC HM;go_wp2_with fail;go_roundw
   case rel=>exact ⟨k+1,by omega,by go_num,by rw [XA.out],yA.out,Qs.out⟩
   case measure=>simp [intOf];omega
  ·obtain rfl:k=8:=by omega
   have hkk:¬ ((8:Nat):Int)<8:=by omega
   have e1:ps.take 8=ps:=by rw [← hp.eight,List.take_length]
   have e2:ps.drop 8=[]:=by rw [← hp.eight,List.drop_length]
   rw [e1,e2] at hor;have HE:Hid (qG wr lo hi (jH (qI ps) k0)∧Touch ((qI ps).flatMap qf.blocks) w wr):=⟨by simpa [qI] using hor,(Touch.of_below hbW).trans htr⟩;have HT:Hid (k0+(qO (qI (ps.take 8)):Int)=k0+qO (qI ps)):=by rw [Hid,e1]
   clear e1 e2;go_wp2;go_ret;exact ⟨ja HT.out,HE.out.1,HE.out.2⟩
theorem pJ (ps:List qw) (hp:zS ps) (lo hi:Nat) (k0:Int) (w:World) (ho:qG w lo hi (jH (qI ps) k0)) (hf:∀ p∈ps,Fit p.ss) (h0:0≤k0) (hk:k0+qO (qI ps)≤10995116277760):
  Calls Tryz.prog 126 #[.agg (qj ps).toArray,.int .i64 k0] w fun e w'=>e=.returned (.int .i64 (k0+qO (qI ps)))∧Below w.heap.size w w':=by
 obtain ⟨W,hW,b0,hbW,qp⟩:=qx w (qj ps) 32;go_enter Tryz.func126,Tryz.ntmps126;go_wp2_with fail;rw [hW.out];clear hW qp;go_loopw [1,5] (fun kk i wr=>∃ k:Nat,k≤8∧i=.int .i64 (k:Int)∧kk=.int .i64 (k0+qO (qI (ps.take k)))∧Below W.heap.size W wr) (fun _ i _=>8-(intOf i).toNat)
 case atStart=>exact ⟨0,Nat.zero_le _,rfl,by simp [qI,qO],Below.refl _ _⟩
 case round=>
  obtain ⟨k,fe,rfl,rfl,hbr⟩:=hrel;by_cases hlt:k<8
  ·have hkl:k<ps.length:=by rw [hp.eight];exact hlt
   have r1:=Xd hp (b0.below hbr b0.lt) k hlt;have zT:=hp.at hlt;have F1:=hf _ (j4 (k:=k) hkl);have hor:qG wr lo hi (jH (qI ps) k0):=ho.below (hbW.trans (hbr.mono hbW.size));rw [UC ps k hkl,KZ,KZ] at hor;have e2:=gP ps k hkl;have HC:Hid (qO (qI (ps.take (k+1)))=qO (qI (ps.take k))+qO (ps.getD k qM).ss):=by rw [Hid,e2,Zy]
   have hcl:=Y7 ps k;have C:=M0 (ps.getD k qM) zT lo hi (k0+qO (qI (ps.take k))) wr hor.part F1 (by omega) (by omega);clear e2 hor;generalize ps.getD k qM=p at*
   have JK:=jM p zT;have hi0:(0:Int)≤(k:Int):=by omega
   have dW:(k:Int)<8:=by omega
   generalize hcc:qO (qI (ps.take k))=cc at*
   go_wp2_with (first | (guard_target=wpList _ _ _ (Oper.mk (some 12) _ _ _ _ _::_) _ _;refine wpList_load_mid rfl 31 (.tmp 11) rfl w.heap.size (k*17) rfl p.cells _ r1 Tryz.underlying31 rfl JK ?_) | fail);refine C.mono ?_;clear C;rintro e w1 ⟨rfl,hb1⟩;have HBK:Hid (Below W.heap.size W w1):=hbr.trans (hb1.mono hbr.size);have XA:Hid (k0+(cc:Int)+(qO p.ss:Int)=k0+(qO (qI (ps.take (k+1))):Int)):=by have:=HC.out;rw [Hid];omega
   have hnn:¬ (k0+(cc:Int)+(qO p.ss:Int))<0:=by omega
   clear hbr hb1 HC r1;go_wp2_with fail;go_roundw
   case rel=>exact ⟨k+1,by omega,by go_num,by rw [XA.out],HBK.out⟩
   case measure=>simp [intOf];omega
  ·obtain rfl:k=8:=by omega
   have hkk:¬ ((8:Nat):Int)<8:=by omega
   have e1:ps.take 8=ps:=by rw [← hp.eight,List.take_length]
   have HT:Hid (k0+(qO (qI (ps.take 8)):Int)=k0+qO (qI ps)):=by rw [Hid,e1]
   have HE:Hid (Below w.heap.size w wr):=hbW.trans (hbr.mono hbW.size);clear e1;go_wp2;go_ret;exact ⟨ja HT.out,HE.out⟩
structure jN where
 seats:List jc
 hand:Int
structure qi where
 seats:List qb
 hand:Int
 a:Option Addr
 c:Nat
def qi.v (l:qi):jN:=⟨l.seats.map qb.v,l.hand⟩
def qi.cells (l:qi):List Value:=[.slice l.a l.seats.length l.c,.int .i64 l.hand]
def qi.reads (w:World) (l:qi):Prop:=j3 w l.a l.seats
def qi.own (w:World) (lo hi:Nat) (l:qi):Prop:=OwnSts w lo hi l.a l.c l.seats
def qb.short (s:qb) (m:Nat):Prop:=∀ x∈s.ss,x.v.o.ints.length≤m∧x.v.o.refs.length≤m
structure qi.short (l:qi) (m:Nat):Prop where
 len:l.seats.length≤m
 each:∀ r∈l.seats,r.short m
theorem qi.short.at {l:qi} {m:Nat} (h:l.short m) (k:Nat) (hk:k<l.seats.length):(l.seats.getD k qc).short m:=h.each _ (xE _ k hk)
theorem qb.yC {a b:qb} {m:Nat} (h:a.v=b.v) (hb:b.short m):a.short m:=by
 intro x hx;have e:a.ss.map (·.v)=b.ss.map (·.v):=congrArg jc.ss h;have:x.v∈b.ss.map (·.v):=by rw [← e];exact List.mem_map.2 ⟨x,hx,rfl⟩
 obtain ⟨y,hy,e⟩:=List.mem_map.1 this;rw [← e];exact hb y hy
theorem qb.short.wide {s:qb} (h:s.short 1048576):s.short 1099511627776:=fun x hx=>by have:=h x hx;omega
theorem Yf {rs ts:List qb} (h:ts.map qb.v=rs.map qb.v):ts.length=rs.length:=by simpa using congrArg List.length h
theorem M3 {rs ts:List qb} (h:ts.map qb.v=rs.map qb.v) (k:Nat) (hk:k<rs.length):(ts.getD k qc).v=(rs.getD k qc).v:=by
 have hk':k<ts.length:=by rw [Yf h];exact hk
 have:=congrArg (fun x=>x[k]?) h
 simpa [List.getD,hk,hk'] using this
theorem Rl {rs ts:List qb} (h:ts.map qb.v=rs.map qb.v) (P:qb→Prop) (hP:∀ a b:qb,a.v=b.v→P b→P a) (hall:∀ r∈rs,P r):∀ r∈ts,P r:=by
 intro r hr;obtain ⟨k,hk,rfl⟩:=List.getElem_of_mem hr;have hk':k<rs.length:=by rw [← Yf h];exact hk
 have e:=M3 h k hk';refine hP _ (rs.getD k qc) ?_ (hall _ (xE rs k hk'));rw [← e];simp [List.getD,hk]
theorem qi.yC {l t:qi} {m:Nat} (h:t.v=l.v) (hl:l.short m):t.short m:=by
 simp only [qi.v,jN.mk.injEq] at h;exact ⟨by rw [Yf h.1];exact hl.len,Rl h.1 (fun r=>r.short m) (fun a b e hb=>qb.yC e hb) hl.each⟩
theorem qi.qZ {l:qi} (hl:l.short 1048576):l.short 1099511627776:=⟨by have:=hl.len;omega,fun r hr=>(hl.each r hr).wide⟩
theorem Rm (q:qb):q.cells.toArray.all (·.oneCell')=true:=all_oneCell_toArray (gQ q)
theorem uI (w:World) (lo hi:Nat) (h:hi≤w.heap.size):qc.own w lo hi:=⟨fun s hs=>by
 simp only [qb.ss,qc,List.mem_cons,List.not_mem_nil,or_false] at hs;have:s=qh:=by rcases hs with h | h | h | h<;>exact h
 subst this;exact ⟨QY w lo hi h,QY w lo hi h,fun k h1 _=>by cases h1⟩,by show ([]:List Nat).Nodup;simp⟩
theorem QB {ts:List qf} (h:ts.length=4):∃ a b c d,ts=[a,b,c,d]:=by
 match ts,h with
 | [a,b,c,d],_=>exact ⟨a,b,c,d,rfl⟩
theorem Au {ss:List qf} (hl:∀ s∈ss,s.v.o.ints.length≤1048576∧s.v.o.refs.length≤1048576):∀ s∈ss,s.v.o.ints.length≤1099511627776∧s.v.o.refs.length≤1099511627776:=fun s hs=>by have:=hl s hs;omega
def wh (tx:Int):List qC→Nat→Int
 | [],_=> -1
 | l::r,k=>if l.tx=tx then (k:Int) else wh tx r (k+1)
def wT (ls:List qC) (tx:Int):Int:=wh tx ls 0
def jJ (no:Int):List jc→Nat→Int
 | [],_=> -1
 | l::r,k=>if l.no=no then (k:Int) else jJ no r (k+1)
def qy (ss:List jc) (no:Int):Int:=jJ no ss 0
def uj (tx:Int) (rs:List QW):Nat→Int
 | 0=>0
 | k+1=>if (rs.getD k qm.v).tx=tx then (k:Int)+1 else uj tx rs k
def lastOf (rs:List QW) (tx:Int):Int:=uj tx rs rs.length
theorem aD (ls:List qC) (k:Nat) (h:k<ls.length):ls.drop k=ls.getD k qA::ls.drop (k+1):=by
 rw [List.drop_eq_getElem_cons h];simp [List.getD,h]
theorem Gm (ls:List qb) (k:Nat) (h:k<ls.length):(ls.map qb.v).drop k=(ls.getD k qc).v::(ls.map qb.v).drop (k+1):=by
 rw [List.drop_eq_getElem_cons (by simpa using h)];simp [List.getD,h]
theorem Bf (e:qa) (hsh:e.shape) (tx:Int) (w:World) (hr:jW w e.aT e.txs) (hl:e.txs.length≤1099511627776):
  Calls Tryz.prog 108 #[.agg e.cells.toArray,.int .i64 tx] w fun r w'=>r=.returned (.int .i64 (wT e.txs tx))∧Below w.heap.size w w':=by
 obtain ⟨W,hW,b0,hbW,qp⟩:=qx w e.cells 42;have HT:Hid (∀ u,Below W.heap.size W u→u.cell? ⟨w.heap.size,140,none⟩=some (.slice e.aT e.txs.length e.cT)):=fun u hu=>qa.vV hsh (b0.below hu b0.lt) 4 _ rfl
 have HR:Hid (∀ u,Below W.heap.size W u→jW u e.aT e.txs):=fun u hu=>hr.below (hbW.trans (hu.mono hbW.size))
 have HF:Hid (wh tx (e.txs.drop 0) 0=wT e.txs tx):=rfl;generalize wT e.txs tx=R at*
 generalize e.cells=cs at*
 generalize e.txs=ls at*
 generalize e.aT=a at*
 generalize e.cT=c at*
 clear qp b0 hsh hr;go_enter Tryz.func108,Tryz.ntmps108;go_wp2_with fail;rw [hW.out];clear hW;go_loopw [5] (fun i wr=>∃ (k:Nat),i=.int .i64 k∧k≤ls.length∧Hid (wh tx (ls.drop k) k=R)∧Below W.heap.size W wr)
  (fun i _=>ls.length-(intOf i).toNat)
 case atStart=>exact ⟨0,rfl,by omega,HF,Below.refl _ _⟩
 case round=>
  obtain ⟨k,rfl,hk,hR,hbl⟩:=hrel;have x0:=HT.out wr hbl;have hrr:=HR.out wr hbl;have Jv:Below w.heap.size w wr:=hbW.trans (hbl.mono hbW.size);by_cases hlt:k<ls.length
  ·obtain ⟨b,off,rfl,hcell⟩:=hrr (by rintro rfl;simp at hlt);obtain ⟨c0,_,_⟩:=hcell k hlt;clear hcell;have hkk:(k:Int)<(ls.length:Int):=by omega
   have hi0:(0:Int)≤(k:Int):=by omega
   have HR2:Hid ((if (ls.getD k qA).tx=tx then (k:Int) else wh tx (ls.drop (k+1)) (k+1))=R):=by
    have h:=hR.out;rw [aD ls k hlt,wh] at h;exact h
   generalize ls.getD k qA=z at*
   by_cases hq:z.tx=tx
   ·have HR3:Hid ((k:Int)=R):=by have h:=HR2.out;rw [if_pos hq] at h;exact h
    have xB:(z.tx == tx)=true:=by simpa using hq
    clear hq hR HR2;go_wp2;go_ret;exact ⟨ja HR3.out,Jv⟩
   ·have HR3:Hid (wh tx (ls.drop (k+1)) (k+1)=R):=by have h:=HR2.out;rw [if_neg hq] at h;exact h
    have xB:(z.tx == tx)=false:=by simpa using hq
    clear hq hR HR2;go_wp2_with fail;go_roundw
    case rel=>exact ⟨k+1,by go_num,by omega,HR3,hbl⟩
    case measure=>simp [intOf];omega
  ·have hkk:¬ (k:Int)<(ls.length:Int):=by omega
   have M4:Hid (-1=R):=by
    have h:=hR.out;rw [List.drop_eq_nil_of_le (by omega),wh] at h;exact h
   clear hR;go_wp2;go_ret;exact ⟨ja M4.out,Jv⟩
theorem JX (a:Option Addr) (c:Nat) (ls:List qb) (hand no:Int) (w:World) (hr:j3 w a ls) (hl:ls.length≤1099511627776):
  Calls Tryz.prog 155 #[.agg #[.slice a ls.length c,.int .i64 hand],.int .i64 no] w fun r w'=>r=.returned (.int .i64 (qy (ls.map qb.v) no))∧Below w.heap.size w w':=by
 obtain ⟨W,hW,b0,hbW,qp⟩:=qx w [.slice a ls.length c,.int .i64 hand] 35;have HT:Hid (∀ u,Below W.heap.size W u→u.cell? ⟨w.heap.size,0,none⟩=some (.slice a ls.length c)):=fun u hu=>(b0.below hu b0.lt).cell 0 _ rfl
 have HR:Hid (∀ u,Below W.heap.size W u→j3 u a ls):=fun u hu=>hr.below (hbW.trans (hu.mono hbW.size))
 have HF:Hid (jJ no ((ls.map qb.v).drop 0) 0=qy (ls.map qb.v) no):=rfl;generalize qy (ls.map qb.v) no=R at*
 clear qp b0 hr;go_enter Tryz.func155,Tryz.ntmps155;go_wp2_with fail;rw [hW.out];clear hW;go_loopw [5] (fun i wr=>∃ (k:Nat),i=.int .i64 k∧k≤ls.length∧Hid (jJ no ((ls.map qb.v).drop k) k=R)∧Below W.heap.size W wr)
  (fun i _=>ls.length-(intOf i).toNat)
 case atStart=>exact ⟨0,rfl,by omega,HF,Below.refl _ _⟩
 case round=>
  obtain ⟨k,rfl,hk,hR,hbl⟩:=hrel;have x0:=HT.out wr hbl;have hrr:=HR.out wr hbl;have Jv:Below w.heap.size w wr:=hbW.trans (hbl.mono hbW.size);by_cases hlt:k<ls.length
  ·obtain ⟨b,off,rfl,hcell⟩:=hrr (by rintro rfl;simp at hlt);have c0:=(hcell k hlt).1 0 _ rfl;simp only [Nat.add_zero] at c0;clear hcell;have hkk:(k:Int)<(ls.length:Int):=by omega
   have hi0:(0:Int)≤(k:Int):=by omega
   have HR2:Hid ((if (ls.getD k qc).no=no then (k:Int) else jJ no ((ls.map qb.v).drop (k+1)) (k+1))=R):=by
    have h:=hR.out;rw [Gm ls k hlt,jJ] at h;exact h
   generalize ls.getD k qc=z at*
   by_cases hq:z.no=no
   ·have HR3:Hid ((k:Int)=R):=by have h:=HR2.out;rw [if_pos hq] at h;exact h
    have xB:(z.no == no)=true:=by simpa using hq
    clear hq hR HR2;go_wp2;go_ret;exact ⟨ja HR3.out,Jv⟩
   ·have HR3:Hid (jJ no ((ls.map qb.v).drop (k+1)) (k+1)=R):=by have h:=HR2.out;rw [if_neg hq] at h;exact h
    have xB:(z.no == no)=false:=by simpa using hq
    clear hq hR HR2;go_wp2_with fail;go_roundw
    case rel=>exact ⟨k+1,by go_num,by omega,HR3,hbl⟩
    case measure=>simp [intOf];omega
  ·have hkk:¬ (k:Int)<(ls.length:Int):=by omega
   have M4:Hid (-1=R):=by
    have h:=hR.out;rw [List.drop_eq_nil_of_le (by rw [List.length_map];omega),jJ] at h;exact h
   clear hR;go_wp2;go_ret;exact ⟨ja M4.out,Jv⟩
theorem Av (rs:List qg) (k:Nat):(rs.map qg.v).getD k qm.v=(rs.getD k qm).v:=by
 simp only [List.getD,List.getElem?_map];cases rs[k]? <;>rfl
theorem Bg (l:qz) (tx:Int) (w:World) (hr:l.reads w) (hl:l.recs.length≤1099511627776):
  Calls Tryz.prog 172 #[.agg l.cells.toArray,.int .i64 tx] w fun r w'=>r=.returned (.int .i64 (lastOf (l.recs.map qg.v) tx))∧Below w.heap.size w w':=by
 obtain ⟨rs,sure,a,c⟩:=l;simp only [qz.cells,qz.reads] at*
 obtain ⟨W,hW,b0,hbW,qp⟩:=qx w [.slice a rs.length c,.int .i64 sure] 38;have HT:Hid (∀ u,Below W.heap.size W u→u.cell? ⟨w.heap.size,0,none⟩=some (.slice a rs.length c)):=fun u hu=>(b0.below hu b0.lt).cell 0 _ rfl
 have HR:Hid (∀ u,Below W.heap.size W u→xc u a rs):=fun u hu=>hr.below (hbW.trans (hu.mono hbW.size))
 have HF:Hid (uj tx (rs.map qg.v) rs.length=lastOf (rs.map qg.v) tx):=by rw [Hid,lastOf,List.length_map]
 generalize lastOf (rs.map qg.v) tx=R at*
 have x0:=HT.out W (Below.refl _ _);clear qp b0 hr;go_enter Tryz.func172,Tryz.ntmps172;go_wp2_with fail;rw [hW.out];clear hW x0;go_loopw [5] (fun i wr=>∃ (k:Nat),i=.int .i64 ((k:Int)-1)∧k≤rs.length∧Hid (uj tx (rs.map qg.v) k=R)∧Below W.heap.size W wr)
  (fun i _=>(intOf i+1).toNat)
 case atStart=>exact ⟨rs.length,by go_num,by omega,HF,Below.refl _ _⟩
 case round=>
  obtain ⟨k,rfl,hk,hR,hbl⟩:=hrel;have x0:=HT.out wr hbl;have hrr:=HR.out wr hbl;have Jv:Below w.heap.size w wr:=hbW.trans (hbl.mono hbW.size);cases k with
  | zero=>
   have M4:Hid (0=R):=hR.out;clear hR;go_wp2;go_ret;exact ⟨ja M4.out,Jv⟩
  | succ k=>
   obtain ⟨b,off,rfl,hcell⟩:=hrr (by rintro rfl;simp at hk);have c0:=(hcell k (by omega)).1 1 _ rfl;clear hcell;have hkk:(k:Int)<(rs.length:Int):=by omega
   have hi0:(0:Int)≤(k:Int):=by omega
   have HR2:Hid ((if (rs.getD k qm).tx=tx then (k:Int)+1 else uj tx (rs.map qg.v) k)=R):=by
    have h:=hR.out;rw [uj,Av] at h;exact h
   have hk1:((k+1:Nat):Int)-1=(k:Int):=by omega
   rw [hk1];generalize rs.getD k qm=z at*
   by_cases hq:z.tx=tx
   ·have HR3:Hid ((k:Int)+1=R):=by have h:=HR2.out;rw [if_pos hq] at h;exact h
    have xB:(z.tx == tx)=true:=by simpa using hq
    clear hq hR HR2;go_wp2;go_ret;exact ⟨ja HR3.out,Jv⟩
   ·have HR3:Hid (uj tx (rs.map qg.v) k=R):=by have h:=HR2.out;rw [if_neg hq] at h;exact h
    have xB:(z.tx == tx)=false:=by simpa using hq
    clear hq hR HR2;go_wp2_with fail;go_roundw
    case rel=>exact ⟨k,by go_num,by omega,HR3,hbl⟩
    case measure=>simp [intOf]
def qg.with (r:qg) (t1 t2:qf) (aL:Option Addr) (cL:Nat):qg:=⟨r.lsn,r.tx,r.prev,r.kind,r.oid,t1,t2,r.next,r.txs,aL,cL⟩
theorem Rn {r:qg} {t1 t2:qf} {aL:Option Addr} {cL:Nat} (h1:t1.v=r.bf.v) (h2:t2.v=r.af.v):(r.with t1 t2 aL cL).v=r.v:=by simp only [qg.with,qg.v,h1,h2]
theorem aG {w W:World} (h:w.alloc (.cells #[] 118)=W):OwnL W w.heap.size W.heap.size (some ⟨w.heap.size,0,none⟩) 0 []:=by
 subst h;refine ⟨World.ownsRow_lit (size:=3) w #[] 0 (Nat.le_refl _) (by simp [maxLen]) rfl,Nat.le_refl _,fun k hk=>?_⟩;simp [Value.ownBlock] at hk;rw [World.size_alloc];omega
theorem GR (r:qg) (w:World) (hr:r.reads w) (hl:r.short 1099511627776) (hc:r.aL=none→r.cL=0):
  Calls Tryz.prog 242 #[.agg r.cells.toArray] w fun e w'=>∃ t:qg,e=.returned (.agg t.cells.toArray)∧Hid (t.v=r.v)∧t.own w' w.heap.size w'.heap.size∧Below w.heap.size w w':=by
 obtain ⟨W,hW,b0,b1,hbW,qp⟩:=jf w r.cells [.int .i64 0,.int .i64 0,.int .i64 0,.int .i64 0,.int .i64 0,.bool false,.int .i64 0,.slice none 0 0,.slice none 0 0,.bool false,.int .i64 0,.slice none 0 0,.slice none 0 0,.int .i64 0,.slice none 0 0] 189 189;have hs0:w.heap.size+1<W.heap.size:=by omega
 clear qp;have C1:=Qn r.bf W (qQ.below hr.bf hbW) hl.bf.1 hl.bf.2;have HC:Hid (r.aL=none→r.cL=0):=hc;have Ro:Hid (∀ (t1 t2:qf) (aL:Option Addr) (cL:Nat),t1.v=r.bf.v→t2.v=r.af.v→(r.with t1 t2 aL cL).v=r.v):=fun t1 t2 aL cL h1 h2=>Rn h1 h2
 have Rp:Hid (∀ (t1 t2:qf) (aL:Option Addr) (cL:Nat),(r.with t1 t2 aL cL).cells=[.int .i64 r.lsn,.int .i64 r.tx,.int .i64 r.prev,.int .i64 r.kind,.int .i64 r.oid,.bool t1.v.has,.int .i64 t1.v.o.kind,.slice t1.aI t1.v.o.ints.length t1.cI,.slice t1.aR t1.v.o.refs.length t1.cR,.bool t2.v.has,.int .i64 t2.v.o.kind,.slice t2.aI t2.v.o.ints.length t2.cI,.slice t2.aR t2.v.o.refs.length t2.cR,.int .i64 r.next,.slice aL r.txs.length cL]):=fun _ _ _ _=>rfl
 simp only [qg.cells] at b0 hW ⊢;simp only [qf.cells] at C1;clear hc;go_enter Tryz.func242,Tryz.ntmps242;go_wp2_with fail;rw [hW.out];clear hW;refine C1.mono ?_;clear C1;rintro e w1 ⟨t1,rfl,hv1,ho1,hb1⟩;have b01:=b0.below hb1 b0.lt;have b11:=b1.below hb1 b1.lt;have hs1:=hb1.size;clear b0 b1;have x5:=b01.cell 5 _ rfl;have Ic:=b01.frozen 5;have x6:=b01.cell 6 _ rfl;have Ie:=b01.frozen 6;have x7:=b01.cell 7 _ rfl;have Ig:=b01.frozen 7;have x8:=b01.cell 8 _ rfl;have Ih:=b01.frozen 8;obtain ⟨W2,hW2,b02,hw2,hs2⟩:=JY b01 5 6 7 8 (.bool t1.v.has) (.int .i64 t1.v.o.kind) (.slice t1.aI t1.v.o.ints.length t1.cI) (.slice t1.aR t1.v.o.refs.length t1.cR);have qfp:=Nat.le_of_eq hs2;have qfq:=Nat.le_of_eq hs2.symm;clear hs2;simp only [List.set] at b02;have b12:=b11.within hw2 (by omega);have hB2:Below w.heap.size w W2:=(hbW.trans (hb1.mono (by omega))).trans (hw2.below (by omega) (by omega));have ho2:=OwnO.within ho1 hw2 (.inr (by omega));have C2:=Qn r.af W2 (qQ.below hr.af hB2) hl.af.1 hl.af.2;simp only [qf.cells] at C2;clear b01 b11 hw2 ho1;go_upto_region 2 with fail;rw [hW2.out];clear x5 x6 x7 x8 Ic Ie Ig Ih hW2;have y9:=b02.cell 9 _ rfl;have Vi:=b02.cell 10 _ rfl;have YQ:=b02.cell 11 _ rfl;have YR:=b02.cell 12 _ rfl;go_wp2_with fail;refine C2.mono ?_;clear C2 y9 Vi YQ YR;rintro e w3 ⟨t2,rfl,hv2,ho3,hb3⟩;have JO:=b02.below hb3 b02.lt;have b13:=b12.below hb3 b12.lt;have hs3:=hb3.size;have M5:=OwnO.below ho2 hb3;clear b02 b12 ho2;have x9:=JO.cell 9 _ rfl;have Ii:=JO.frozen 9;have kJ:=JO.cell 10 _ rfl;have aJ:=JO.frozen 10;have xy:=JO.cell 11 _ rfl;have aK:=JO.frozen 11;have xz:=JO.cell 12 _ rfl;have aM:=JO.frozen 12;obtain ⟨W4,vg,lS,hw4,hs4⟩:=JY JO 9 10 11 12 (.bool t2.v.has) (.int .i64 t2.v.o.kind) (.slice t2.aI t2.v.o.ints.length t2.cI) (.slice t2.aR t2.v.o.refs.length t2.cR);have qdw:=Nat.le_of_eq hs4;have qdx:=Nat.le_of_eq hs4.symm;clear hs4;simp only [List.set] at lS;have b14:=b13.within hw4 (by omega);have hB4:Below w.heap.size w W4:=(hB2.trans (hb3.mono (by omega))).trans (hw4.below (by omega) (by omega));have Ij:=OwnO.within M5 hw4 (.inr (by omega));have Ik:=OwnO.within ho3 hw4 (.inr (by omega));clear JO b13 hw4 ho3 M5 hb3;go_upto_region 3 with fail;rw [vg.out];clear x9 kJ xy xz Ii aJ aK aM vg;obtain ⟨W5,uM,bE,hb5,hs5⟩:=qx W4 [] 118;have qfr:=Nat.le_of_eq hs5;have qfs:=Nat.le_of_eq hs5.symm;clear hs5;have aN:W4.alloc (.cells #[] 118)=W5:=uM.out;have fo:Hid (W4.alloc (.cells #[] 118)=W5):=aN;have oE:=aG aN;clear bE uM aN;have Il:=lS.below hb5 lS.lt;have b15:=b14.below hb5 b14.lt;have M6:=OwnO.below Ij hb5;have M7:=OwnO.below Ik hb5;have ZR:Below w.heap.size w W5:=hB4.trans (hb5.mono (by omega));have k14:=Il.cell 14 _ rfl;have qdC:(W4.alloc (.cells #[] 118)).cell? ⟨w.heap.size,14,none⟩=some (.slice r.aL r.txs.length r.cL):=by rw [fo.out];exact k14
 have hA1:([]:List qC).length+r.txs.length≤1099511627776:=by have:=hl.txs;simp only [List.length_nil];omega
 have hrt:jW W5 r.aL r.txs:=hr.txs.below ZR;have qdy:=hb5.size;clear lS b14 Ij Ik;have HNC:Hid (r.aL=none→r.cL=0):=HC.out;go_wp2_with (at_builtin;refine Xm rfl _ _ rfl W4.heap.size _ (some ⟨W4.heap.size,0,none⟩) 0 [] rfl (by rw [fo.out];exact oE) r.aL r.cL r.txs rfl (by rw [fo.out];exact hrt) HNC.out hA1 (by rw [fo.out];omega) ?_);intro aL cL ys w6 hys o6 g6;rw [fo.out] at g6;have Qa:Within W4.heap.size W5.heap.size W5 w6:=Within.jw g6 (fun j hj=>oE.lt j hj);have hs6:=Qa.size;have gT:=Il.within Qa (by omega);have b16:=b15.within Qa (by omega);have XB:=OwnO.within M6 Qa (.inl (by omega));have XC:=OwnO.within M7 Qa (.inl (by omega));have Im:Below w.heap.size w w6:=ZR.trans (Qa.below (by omega) (by omega));obtain rfl:ys=r.txs:=hys.out.trans (List.nil_append _);clear hys g6 Qa oE Il b15 M6 M7 k14 qdC hrt fo;have zX:Hid ((t1.blocks++(t2.blocks++(Value.slice aL r.txs.length cL).ownBlock.toList)).Nodup):=VH (c:=W4.heap.size) (OwnO.widen XB (Nat.le_refl _) (show _≤W2.heap.size by omega) (by omega)) (OwnO.widen XC (Nat.le_refl _) (show _≤W4.heap.size by omega) (by omega)) o6 (by omega);have xm:=gT.cell 14 _ rfl;have f14:=gT.frozen 14;obtain ⟨W7,JP,M8,hw7,hs7⟩:=jB gT 14 (.slice aL r.txs.length cL);have qdD:=Nat.le_of_eq hs7;have qdE:=Nat.le_of_eq hs7.symm;clear hs7;simp only [List.set] at M8;have b17:=b16.within hw7 (by omega);have M9:Box W7 w.heap.size (r.with t1 t2 aL cL).cells 189:=by rw [Rp.out];exact M8
 have Na:=OwnO.within XB hw7 (.inr (by omega));have Nb:=OwnO.within XC hw7 (.inr (by omega));have o7:=o6.within hw7 (.inr (by omega));have Io:Below w.heap.size w W7:=Im.trans (hw7.below (by omega) (by omega));clear hw7 gT b16 XB XC o6;go_upto_region 4 with fail;rw [JP.out];clear xm f14 JP;obtain ⟨WF,qF,hwF,qN,kz,yG,bF⟩:=Xb (r.with t1 t2 aL cL) _ rfl b17;have Xg:=Nat.le_of_eq qN;have uK:=Nat.le_of_eq qN.symm;clear qN;have xY:(r.with t1 t2 aL cL).own WF w.heap.size WF.heap.size:=⟨OwnO.widen (OwnO.within Na hwF (.inr (by omega))) (by omega) (by omega) (Nat.le_refl _),OwnO.widen (OwnO.within Nb hwF (.inr (by omega))) (by omega) (by omega) (Nat.le_refl _),(o7.within hwF (.inr (by omega))).widen (by omega) (by omega) (Nat.le_refl _),zX.out⟩;have xM:Below w.heap.size w WF:=Io.trans (hwF.below (by omega) (by omega));have HF:Hid (_∧_∧_):=⟨Ro.out t1 t2 aL cL hv1.out hv2.out,xY,xM⟩;have rT:W7.rangeAt w.heap.size 0 (r.with t1 t2 aL cL).cells:=Box.range [] _ [] (by simpa using M9);clear xY xM bF hwF M8 M9 b17 Na Nb o7 zX Rp Ro;generalize r.with t1 t2 aL cL=TT at*
 go_wp2_with (first | (guard_target=wpList _ _ _ (Oper.mk (some 16) _ _ _ _ _::_) _ _;refine wpList_load_mid rfl 189 (.tmp 1) rfl w.heap.size 0 rfl TT.cells _ rT Tryz.underlying189 rfl (JZ _) ?_) | (guard_target=wpList _ _ _ (Oper.mk none (Op.store _ (Operand.tmp 2) _) _ _ _ _::_) _ _;refine wpList_store_mid rfl 189 (.tmp 2) (.tmp 16) rfl (w.heap.size+1) 0 TT.cells.toArray rfl rfl kz.out (JZ _) (Q3 _) ?_) | fail);rw [qF.out];exact bodyPost_ret (v:=.agg TT.cells.toArray) (jk Tryz.results242 rfl yG.out) rfl ⟨TT,rfl,HF.out.1,HF.out.2.1,HF.out.2.2⟩
end Go.Proofs.YtjkckhfddgeboaaGreatDoor
namespace Go.Proofs.YtjkckhfddgeboaaGreatDoor
open Go.RowKit
attribute [local go_sem ↓] Go.wp_at_zero Go.wp_at_succ
theorem P8 (r:qg) (w:World) (hr:r.reads w) (hl:r.short 1099511627776) (hc:r.aL=none→r.cL=0):
  Calls Tryz.prog 280 #[.agg r.cells.toArray] w fun e w'=>∃ t:qg,e=.returned (.agg t.cells.toArray)∧Hid (t.v=r.v)∧t.own w' w.heap.size w'.heap.size∧Below w.heap.size w w':=by
 obtain ⟨W,hW,b0,b1,hbW,qp⟩:=jf w r.cells [.int .i64 0,.int .i64 0,.int .i64 0,.int .i64 0,.int .i64 0,.bool false,.int .i64 0,.slice none 0 0,.slice none 0 0,.bool false,.int .i64 0,.slice none 0 0,.slice none 0 0,.int .i64 0,.slice none 0 0] 189 189;have hs0:w.heap.size+1<W.heap.size:=by omega
 clear qp;have Ip:Hid (∀ u,Below W.heap.size W u→Calls _ _ _ _ _):=fun u hu=>Jj r.bf u (qQ.below hr.bf (hbW.trans (hu.mono (by omega)))) hl.bf.1 hl.bf.2
 have Iq:Hid (∀ u,Below W.heap.size W u→Calls _ _ _ _ _):=fun u hu=>Jj r.af u (qQ.below hr.af (hbW.trans (hu.mono (by omega)))) hl.af.1 hl.af.2
 have HC:Hid (r.aL=none→r.cL=0):=hc;have Ro:Hid (∀ (t1 t2:qf) (aL:Option Addr) (cL:Nat),t1.v=r.bf.v→t2.v=r.af.v→(r.with t1 t2 aL cL).v=r.v):=fun t1 t2 aL cL h1 h2=>Rn h1 h2
 have Rp:Hid (∀ (t1 t2:qf) (aL:Option Addr) (cL:Nat),(r.with t1 t2 aL cL).cells=[.int .i64 r.lsn,.int .i64 r.tx,.int .i64 r.prev,.int .i64 r.kind,.int .i64 r.oid,.bool t1.v.has,.int .i64 t1.v.o.kind,.slice t1.aI t1.v.o.ints.length t1.cI,.slice t1.aR t1.v.o.refs.length t1.cR,.bool t2.v.has,.int .i64 t2.v.o.kind,.slice t2.aI t2.v.o.ints.length t2.cI,.slice t2.aR t2.v.o.refs.length t2.cR,.int .i64 r.next,.slice aL r.txs.length cL]):=fun _ _ _ _=>rfl
 simp only [qg.cells] at b0 hW ⊢;simp only [qf.cells] at Ip Iq;clear hc;go_enter Tryz.func280,Tryz.ntmps280;go_wp2_with fail;rw [hW.out];clear hW;have x5:=b0.cell 5 _ rfl;have x6:=b0.cell 6 _ rfl;have x7:=b0.cell 7 _ rfl;have x8:=b0.cell 8 _ rfl;have x9:=b0.cell 9 _ rfl;have kJ:=b0.cell 10 _ rfl;have xy:=b0.cell 11 _ rfl;have xz:=b0.cell 12 _ rfl;have uO:Hid (∀ u,Below W.heap.size W u→Box u w.heap.size _ _):=fun u hu=>b0.below hu b0.lt
 have Gn:Hid (∀ u,Below W.heap.size W u→Box u (w.heap.size+1) _ _):=fun u hu=>b1.below hu b1.lt
 clear b0 b1
 go_region_law ((first
  | (go_simp;go_at_call 58;refine (Ip.out _ (Below.refl _ _).drew).mono ?_;clear Ip;rintro e u1 ⟨t1,rfl,hv1,ho1,hb1⟩;have hb1':=(Below.refl W.heap.size W).drew.trans hb1;have z9:=(uO.out u1 hb1').cell 9 _ rfl;have z10:=(uO.out u1 hb1').cell 10 _ rfl;have z11:=(uO.out u1 hb1').cell 11 _ rfl;have z12:=(uO.out u1 hb1').cell 12 _ rfl)
  | (go_simp;go_at_call 58;refine (Iq.out _ hb1').mono ?_;clear Iq;rintro e u2 ⟨t2,rfl,hv2,ho2,hb2⟩;have hb2':=hb1'.trans (hb2.mono hb1'.size);have y5:=(uO.out u2 hb2').cell 5 _ rfl;have y6:=(uO.out u2 hb2').cell 6 _ rfl;have y7:=(uO.out u2 hb2').cell 7 _ rfl;have y8:=(uO.out u2 hb2').cell 8 _ rfl;have y9:=(uO.out u2 hb2').cell 9 _ rfl;have Vi:=(uO.out u2 hb2').cell 10 _ rfl;have YQ:=(uO.out u2 hb2').cell 11 _ rfl;have YR:=(uO.out u2 hb2').cell 12 _ rfl;have g5:=(uO.out u2 hb2').frozen 5;have g6:=(uO.out u2 hb2').frozen 6;have g7:=(uO.out u2 hb2').frozen 7;have g8:=(uO.out u2 hb2').frozen 8;have g9:=(uO.out u2 hb2').frozen 9;have g10:=(uO.out u2 hb2').frozen 10;have g11:=(uO.out u2 hb2').frozen 11;have g12:=(uO.out u2 hb2').frozen 12)
  | fail))
 all_goals
  have hs1:=hb1'.size;have hs2:=hb2.size;have b02:=uO.out u2 hb2';have b12:=Gn.out u2 hb2';have hB2:Below w.heap.size w u2:=hbW.trans (hb2'.mono (by omega));have Ir:t1.own u2 W.heap.size u1.heap.size:=OwnO.below ho1 hb2;obtain ⟨Wa,hWa,b0a,Rq,hsa⟩:=JY b02 5 6 7 8 (.bool t1.v.has) (.int .i64 t1.v.o.kind) (.slice t1.aI t1.v.o.ints.length t1.cI) (.slice t1.aR t1.v.o.refs.length t1.cR);obtain ⟨Wb,F7,lU,hwb,hsb⟩:=JY b0a 9 10 11 12 (.bool t2.v.has) (.int .i64 t2.v.o.kind) (.slice t2.aI t2.v.o.ints.length t2.cI) (.slice t2.aR t2.v.o.refs.length t2.cR);have qft:=Nat.le_of_eq hsa;have qfu:=Nat.le_of_eq hsa.symm;have qfv:=Nat.le_of_eq hsb;have qfw:=Nat.le_of_eq hsb.symm;simp only [List.set] at lU;rw [hWa.out,F7.out];have b1b:=(b12.within Rq (by omega)).within hwb (by omega);have hoA:=OwnO.within (OwnO.within Ir Rq (.inr (by omega))) hwb (.inr (by omega));have lV:=OwnO.within (OwnO.within ho2 Rq (.inr (by omega))) hwb (.inr (by omega));have hB4:Below w.heap.size w Wb:=(hB2.trans (Rq.below (by omega) (by omega))).trans (hwb.below (by omega) (by omega));clear hWa F7 b02 b12 b0a Rq hwb hsa hsb ho1 ho2 Ir hb1 hb2 hb1' hb2' x5 x6 x7 x8 x9 kJ xy xz z9 z10 z11 z12 y5 y6 y7 y8 y9 Vi YQ YR g5 g6 g7 g8 g9 g10 g11 g12 uO Gn hB2;have xm:=lU.cell 14 _ rfl;have hA1:([]:List qC).length+r.txs.length≤1099511627776:=by have:=hl.txs;simp only [List.length_nil];omega
  have hrt:jW Wb r.aL r.txs:=hr.txs.below hB4;have oE:=U6 Wb Wb.heap.size Wb.heap.size (Nat.le_refl _);go_wp2_with (at_builtin;refine Xm rfl _ _ rfl Wb.heap.size _ none 0 [] rfl oE r.aL r.cL r.txs rfl hrt HC.out hA1 (Nat.le_refl _) ?_);intro aL cL ys w6 hys o6 g6;have Qa:Within Wb.heap.size Wb.heap.size Wb w6:=Within.jw g6 (fun j hj=>by cases hj);have hs6:=Qa.size;have gT:=lU.within Qa (by omega);have b16:=b1b.within Qa (by omega);have XB:=OwnO.within hoA Qa (.inl (by omega));have XC:=OwnO.within lV Qa (.inl (by omega));have Im:Below w.heap.size w w6:=hB4.trans (Qa.below (by omega) (by omega));obtain rfl:ys=r.txs:=hys.out.trans (List.nil_append _);clear hys g6 Qa oE lU b1b hoA lV xm hrt;have zX:Hid ((t1.blocks++(t2.blocks++(Value.slice aL r.txs.length cL).ownBlock.toList)).Nodup):=VH (c:=Wb.heap.size) XB (OwnO.widen XC (Nat.le_refl _) (show _≤Wb.heap.size by omega) (by omega)) o6 (by omega);have xm:=gT.cell 14 _ rfl;have f14:=gT.frozen 14;obtain ⟨W7,JP,M8,hw7,hs7⟩:=jB gT 14 (.slice aL r.txs.length cL);have qdD:=Nat.le_of_eq hs7;have qdE:=Nat.le_of_eq hs7.symm;clear hs7;simp only [List.set] at M8;have b17:=b16.within hw7 (by omega);have M9:Box W7 w.heap.size (r.with t1 t2 aL cL).cells 189:=by rw [Rp.out];exact M8
  have Na:=OwnO.within XB hw7 (.inr (by omega));have Nb:=OwnO.within XC hw7 (.inr (by omega));have o7:=o6.within hw7 (.inr (by omega));have Io:Below w.heap.size w W7:=Im.trans (hw7.below (by omega) (by omega));clear hw7 gT b16 XB XC o6;go_upto_region 3 with fail;rw [JP.out];clear xm f14 JP;obtain ⟨WF,qF,hwF,qN,kz,yG,bF⟩:=Xb (r.with t1 t2 aL cL) _ rfl b17;have Xg:=Nat.le_of_eq qN;have uK:=Nat.le_of_eq qN.symm;clear qN;have xY:(r.with t1 t2 aL cL).own WF w.heap.size WF.heap.size:=⟨OwnO.widen (OwnO.within Na hwF (.inr (by omega))) (by omega) (by omega) (Nat.le_refl _),OwnO.widen (OwnO.within Nb hwF (.inr (by omega))) (by omega) (by omega) (Nat.le_refl _),(o7.within hwF (.inr (by omega))).widen (by omega) (by omega) (Nat.le_refl _),zX.out⟩;have xM:Below w.heap.size w WF:=Io.trans (hwF.below (by omega) (by omega));have HF:Hid (_∧_∧_):=⟨Ro.out t1 t2 aL cL hv1.out hv2.out,xY,xM⟩;have rT:W7.rangeAt w.heap.size 0 (r.with t1 t2 aL cL).cells:=Box.range [] _ [] (by simpa using M9);clear xY xM bF hwF M8 M9 b17 Na Nb o7 zX Rp Ro;generalize r.with t1 t2 aL cL=TT at*
  go_wp2_with (first | (guard_target=wpList _ _ _ (Oper.mk (some 15) _ _ _ _ _::_) _ _;refine wpList_load_mid rfl 189 (.tmp 1) rfl w.heap.size 0 rfl TT.cells _ rT Tryz.underlying189 rfl (JZ _) ?_) | (guard_target=wpList _ _ _ (Oper.mk none (Op.store _ (Operand.tmp 2) _) _ _ _ _::_) _ _;refine wpList_store_mid rfl 189 (.tmp 2) (.tmp 15) rfl (w.heap.size+1) 0 TT.cells.toArray rfl rfl kz.out (JZ _) (Q3 _) ?_) | fail);rw [qF.out];exact bodyPost_ret (v:=.agg TT.cells.toArray) (jk Tryz.results280 rfl yG.out) rfl ⟨TT,rfl,HF.out.1,HF.out.2.1,HF.out.2.2⟩
end Go.Proofs.YtjkckhfddgeboaaGreatDoor
namespace Go.Proofs.YtjkckhfddgeboaaGreatDoor
open Go.RowKit
theorem Aw (n:Nat) (r:qg):(List.replicate n r).length=n:=by simp
theorem XD (n:Nat):(madeCells (Value.agg qm.cells.toArray).cells (n*15)).toList=jO (List.replicate n qm):=by
 apply List.ext_getElem?
 intro i;by_cases h:i<n*15
 ·have e:=Zz (List.replicate n qm) (i / 15) (i % 15) (by simp;omega) (Nat.mod_lt _ (by omega));rw [show i / 15*15+i % 15=i by omega] at e;rw [e];have hg:(List.replicate n qm).getD (i / 15) qm=qm:=by simp [List.getD,show i / 15<n by omega]
  rw [hg];simp only [madeCells,Array.toList_map,List.getElem?_map,Array.toList_range,List.getElem?_range h,Option.map_some];have hm:i % 15<15:=Nat.mod_lt _ (by omega);have hz:∀ j,j<15→some ((Value.agg qm.cells.toArray).cells[j]!)=qm.cells[j]? :=by
   intro j hj;rcases (by omega:j=0∨j=1∨j=2∨j=3∨j=4∨j=5∨j=6∨j=7∨j=8∨j=9∨j=10∨j=11∨j=12∨j=13∨j=14) with rfl | rfl | rfl | rfl | rfl | rfl | rfl | rfl | rfl | rfl | rfl | rfl | rfl | rfl | rfl<;>rfl
  exact hz _ hm
 ·rw [List.getElem?_eq_none (by simp [size_madeCells];omega),List.getElem?_eq_none (by rw [YG];simp;omega)]
theorem ZA {w:World} {lo hi g c:Nat} (n:Nat) (h:w.ownsRow lo 189 15 (.slice (some ⟨g,0,none⟩) n c) n (jO (List.replicate n qm))) (ht:hi≤w.heap.size) (hg:g<hi):qV w lo hi (some ⟨g,0,none⟩) c (List.replicate n qm):=by
 refine ⟨by rw [Aw];exact h,ht,fun k hk=>by cases hk;exact hg,fun r hr=>?_,?_⟩
 ·rw [(List.mem_replicate.1 hr).2];exact Rs w lo hi ht
 ·have e:(List.replicate n qm).flatMap qg.blocks=[]:=by
   rw [List.flatMap_eq_nil_iff];intro r hr;rw [(List.mem_replicate.1 hr).2];rfl
  rw [e];simp [Value.ownBlock]
def Came (rs ts:List qg) (k:Nat):Prop:=ts.length=k∧ts.map qg.v=(rs.take k).map qg.v
theorem Ve (rs:List qg):Came rs [] 0:=⟨rfl,by simp⟩
theorem Came.snoc {rs ts:List qg} {k:Nat} (h:Came rs ts k) (hk:k<rs.length) {q:qg} (hq:q.v=(rs.getD k qm).v):Came rs (ts++[q]) (k+1):=by
 refine ⟨by simp [h.1],?_⟩;have e:rs.getD k qm=rs[k]:=by simp [List.getD,hk]
 rw [List.map_append,h.2,List.take_succ_eq_append_getElem hk,List.map_append,List.map_singleton,List.map_singleton,hq,e]
theorem Came.all {rs ts:List qg} (h:Came rs ts rs.length):ts.map qg.v=rs.map qg.v:=by
 have:=h.2
 rwa [List.take_length] at this
theorem Qz {w w':World} {b o:Nat} {r:qg} (h:w.rangeAt b o r.cells) (hb:Below w.heap.size w w'):w'.rangeAt b o r.cells:=xU h hb (Kg h)
theorem Bh (a:Option Addr) (cap:Nat) (rs:List qg) (w:World) (hr:xc w a rs) (hl:rs.length≤1048576) (hs:∀ r∈rs,r.short 1048576):
  Calls Tryz.prog 216 #[.slice a rs.length cap] w fun e w'=>∃ a' c' ts,e=.returned (.slice a' ts.length c')∧Hid (ts.map qg.v=rs.map qg.v)∧qV w' w.heap.size w'.heap.size a' c' ts∧Below w.heap.size w w':=by
 obtain ⟨i0,hi,hz0,hz1,hz2⟩:=info_parts Tryz.pK;have HI:Hid ((Tryz.prog.info? 306).map (·.size)=some 15):=by rw [Hid];kernel_rfl
 have HJ:Hid ((Tryz.prog.info? 189).map (·.size)=some 15):=by rw [Hid];kernel_rfl
 rcases hr.cases with rfl | ⟨b,off,rfl,hpos,hcell⟩
 ·go_enter Tryz.func216,Tryz.ntmps216;go_wp2_with (at_make;refine wpList_make_full _ rfl _ _ 36 rfl w.heap.size 189 i0 (.agg qm.cells.toArray) 15 Tryz.underlying36 hi hz0 hz1 _ _ _ _ 0 rfl rfl (by simp) (by simp) (by omega) (by simp [maxLen]) (Nat.le_refl _) ?_);intro w0 hown0 j5;have hB:Below w.heap.size w w0:=(Below.refl _ _).grown j5 (Nat.le_refl _) (fun k h=>by cases h);have ho:w0.ownsRow w.heap.size 189 15 (.slice (some ⟨w.heap.size,0,none⟩) 0 0) 0 (jO (List.replicate 0 qm)):=by
   rw [← XD];exact hown0
  have HO:Hid (qV w0 w.heap.size w0.heap.size (some ⟨w.heap.size,0,none⟩) 0 []):=ZA 0 ho (Nat.le_refl _) (ho.lt _ rfl).2;clear hown0 j5 ho;go_wp2;refine wp_loop_rounds 1 ?_;rw [rounds_succ];go_wp2;go_ret;exact ⟨_,_,[],rfl,rfl,HO.out,hB⟩
 ·have JJ:b<w.heap.size:=Kg (hcell 0 hpos).1;go_enter Tryz.func216,Tryz.ntmps216;go_wp2_with (at_make;refine wpList_make_full _ rfl _ _ 36 rfl w.heap.size 189 i0 (.agg qm.cells.toArray) 15 Tryz.underlying36 hi hz0 hz1 _ _ _ _ rs.length rfl rfl rfl rfl (by rw [hz2];omega) (by simp [maxLen];omega) (Nat.le_refl _) ?_);intro w0 hown0 j5;have hb0:Below w.heap.size w w0:=(Below.refl _ _).grown j5 (Nat.le_refl _) (fun k h=>by cases h);have ho:w0.ownsRow w.heap.size 189 15 (.slice (some ⟨w.heap.size,0,none⟩) rs.length rs.length) rs.length (jO (List.replicate rs.length qm)):=by
   rw [← XD];exact hown0
  have HO:Hid (qV w0 w.heap.size w0.heap.size (some ⟨w.heap.size,0,none⟩) rs.length (List.replicate rs.length qm)):=ZA _ ho (Nat.le_refl _) (ho.lt _ rfl).2;clear hown0 j5 ho;go_wp2;go_loopw [4] (fun i wr=>∃ (k:Nat) (ts:List qg),k≤rs.length∧i=.int .i64 k∧Hid (Came rs ts k)∧Hid (qV wr w.heap.size wr.heap.size (some ⟨w.heap.size,0,none⟩) rs.length (ts++List.replicate (rs.length-k) qm))∧Below w.heap.size w wr)
   (fun i _=>rs.length-(intOf i).toNat)
  case atStart=>exact ⟨0,[],Nat.zero_le _,rfl,Ve rs,HO,hb0⟩
  case round=>
   obtain ⟨k,ts,hk,rfl,hc,hown,hnx⟩:=hrel;by_cases hlt:k<rs.length
   ·obtain ⟨c0,c1⟩:=hcell k hlt;have HR:Hid (wr.rangeAt b (off+k*15) (rs.getD k qm).cells):=xU c0 hnx JJ;have hrd:(rs.getD k qm).reads wr:=c1.below hnx;have hsh:(rs.getD k qm).short 1048576:=hs _ (zZ rs k hlt);have C:=Rt (rs.getD k qm) wr hrd hsh;have HS:Hid (∀ q:qg,q.v=(rs.getD k qm).v→Came rs (ts++[q]) (k+1)):=fun q hq=>hc.out.snoc hlt hq
    have HP:Hid (ts++List.replicate (rs.length-k) qm=ts++qm::List.replicate (rs.length-(k+1)) qm∧(ts++qm::List.replicate (rs.length-(k+1)) qm).length=rs.length∧ts.length=k):=by
     have e:rs.length-k=(rs.length-(k+1))+1:=by omega
     refine ⟨by rw [e,List.replicate_succ],?_,hc.out.1⟩;have:=hc.out.1;simp;omega
    clear c0 c1 hcell hb0 HO hs hrd hsh;generalize rs.getD k qm=z at*
    go_wp2_with (first | (guard_target=wpList _ _ _ (Oper.mk (some 19) _ _ _ _ _::_) _ _;refine wpList_load_mid rfl 306 (.tmp 18) rfl b (off+k*15) rfl z.cells _ HR.out Tryz.underlying306 rfl HI.out ?_) | fail);refine C.mono ?_;clear C HR;rintro e w1 ⟨q,rfl,hq,hqo,hb1⟩;have hs1:=hb1.size;have ho1:=hown.out.below hb1;rw [HP.out.1] at ho1;obtain ⟨W2,hW2,ho2,ht2,hs2⟩:=ho1.fill q hqo (Nat.le_refl _) (by have:=hnx.size;omega) (Nat.le_refl _);rw [HP.out.2.2] at hW2;have HT:Hid (w1.there w.heap.size (k*15) 15):=(pM ho1.row rfl k (by rw [HP.out.2.1];exact hlt)).2;have hB2:Below w.heap.size w W2:=(hnx.trans (hb1.mono hnx.size)).trans ((ht2.within (lo:=w.heap.size) (hi:=w.heap.size+1) (fun j hj=>by obtain rfl:=List.mem_singleton.1 hj;omega)).below (Nat.le_refl _) (by have:=hnx.size;omega));have HH:Hid (qV W2 w.heap.size W2.heap.size (some ⟨w.heap.size,0,none⟩) rs.length ((ts++[q])++List.replicate (rs.length-(k+1)) qm)):=by
     have:=ho2.widen (Nat.le_refl _) (show max wr.heap.size w1.heap.size≤W2.heap.size by omega) (Nat.le_refl _);rw [List.append_assoc,List.singleton_append];exact this
    have HB:Hid _:=hB2;have HC:=HS.out q hq.out;have YY:=Q3 q;clear ho1 ho2 ht2 hs2 hB2 hqo hb1 hnx hown hq HS hs1;go_wp2_with (first | (guard_target=wpList _ _ _ (Oper.mk none (Op.store _ (Operand.tmp 21) _) _ _ _ _::_) _ _;refine wpList_store_mid rfl 189 (.tmp 21) (.tmp 20) rfl w.heap.size (k*15) q.cells.toArray rfl rfl HT.out HJ.out YY ?_) | fail);rw [hW2.out];go_roundw
    case rel=>exact ⟨k+1,ts++[q],by omega,by go_num,HC,HH,HB.out⟩
    case measure=>simp [intOf];omega
   ·have HE:Hid (ts.map qg.v=rs.map qg.v∧qV wr w.heap.size wr.heap.size (some ⟨w.heap.size,0,none⟩) rs.length ts∧ts.length=rs.length):=by
     have e:k=rs.length:=by omega
     rw [e] at hown hc;rw [Nat.sub_self,List.replicate_zero,List.append_nil] at hown;exact ⟨hc.out.all,hown.out,hc.out.1⟩
    go_wp2;go_ret;exact ⟨some ⟨w.heap.size,0,none⟩,rs.length,ts,by rw [HE.out.2.2];rfl,HE.out.1,HE.out.2.1,hnx⟩
theorem aO {ts:List qg} (h:ts.map qg.v=([]:List qg).map qg.v):ts=[]:=by simpa using h
theorem Ru (l:qz) (w:World) (hr:l.reads w) (hl:l.short 1048576):
  Calls Tryz.prog 112 #[.agg l.cells.toArray] w fun e w'=>∃ t:qz,e=.returned (.agg t.cells.toArray)∧Hid (t.v=l.v)∧t.own w' w.heap.size w'.heap.size∧Below w.heap.size w w':=by
 obtain ⟨rs,s,a,c⟩:=l;obtain ⟨hl1,hl2⟩:=hl;simp only [qz.reads,qz.cells,qz.own] at*
 obtain ⟨W,hW,b0,b1,b2,hbW,qp⟩:=yn w [.slice a rs.length c,.int .i64 s] [.slice none 0 0,.int .i64 0] [.slice none 0 0,.int .i64 0] 73 38 38;have C:=Bh a c rs W (hr.below hbW) hl1 hl2;go_enter Tryz.func112,Tryz.ntmps112;go_wp2_with fail;rw [hW.out];clear hW;have hs0:w.heap.size+1+1<W.heap.size:=by omega
 clear qp;refine C.mono ?_;clear C;rintro e w1 ⟨a',c',ts,rfl,hv,ho1,hb1⟩;have hs1:=hb1.size;have b01:=b0.below hb1 b0.lt;have b11:=b1.below hb1 b1.lt;have zU:=b2.below hb1 b2.lt;have x1:=b01.cell 1 _ rfl;have y0:=zU.cell 0 _ rfl;have y1:=zU.cell 1 _ rfl;have f0:=zU.frozen 0;have f1:=zU.frozen 1;have z0:=b11.cell 0 _ rfl;have z1:=b11.cell 1 _ rfl;have g0:=b11.frozen 0;have g1:=b11.frozen 1;obtain ⟨W2,hW2,QH,hw2,hs2⟩:=jB zU 0 (.slice a' ts.length c');obtain ⟨W3,hW3,zh,hw3,hs3⟩:=jB QH 1 (.int .i64 s);have b13:=(b11.within hw2 (by omega)).within hw3 (by omega);obtain ⟨W4,vg,b14,hw4,hs4⟩:=jB b13 0 (.slice a' ts.length c');obtain ⟨W5,uM,b15,Kq,hs5⟩:=jB b14 1 (.int .i64 s);simp only [List.set] at b15;have q0:=b15.cell 0 _ rfl;have q1:=b15.cell 1 _ rfl;have ZR:Below w.heap.size w W5:=((((hbW.trans (hb1.mono (by omega))).trans (hw2.below (by omega) (by omega))).trans (hw3.below (by omega) (by omega))).trans (hw4.below (by omega) (by omega))).trans (Kq.below (by omega) (by omega));have gU:=((((ho1.within hw2 (.inr (by omega))).within hw3 (.inr (by omega))).within hw4 (.inr (by omega))).within Kq (.inr (by omega))).widen (show w.heap.size≤W.heap.size by omega) (show w1.heap.size≤W5.heap.size by omega) (Nat.le_refl _);have HH:Hid (_∧_∧_):=⟨gU,ZR,hv.out⟩;clear gU ZR hv ho1 hb1 hw2 hw3 hw4 Kq hs2 hs3 hs4 hs5 b01 b11 zU QH zh b13 b14 b15 b0 b1 b2 hbW;have fu:Hid (((((w1.setCell ⟨w.heap.size+1+1,0,none⟩ (.slice a' ts.length c')).setCell ⟨w.heap.size+1+1,1,none⟩ (.int .i64 s)).setCell ⟨w.heap.size+1,0,none⟩ (.slice a' ts.length c')).setCell ⟨w.heap.size+1,1,none⟩ (.int .i64 s))=W5):=by rw [Hid,hW2.out,hW3.out,vg.out,uM.out]
 clear hW2 hW3 vg uM;go_wp2;rw [fu.out];exact bodyPost_ret (v:=.agg #[.slice a' ts.length c',.int .i64 s]) (by simp [results,Tryz.results112,go_sem,q0,q1]) rfl ⟨⟨ts,s,a',c'⟩,rfl,by simp only [Hid,qz.v];rw [HH.out.2.2],HH.out.1,HH.out.2.1⟩
theorem P9 (a b:Option Addr) (ca cb:Nat) (rs ts:List qg) (he:ts.map qg.v=rs.map qg.v) (w:World) (ha:xc w a rs) (hb:xc w b ts) (hl:rs.length≤1099511627776) (hs:∀ r∈rs,r.short 1099511627776):
  Calls Tryz.prog 221 #[.slice a rs.length ca,.slice b ts.length cb] w fun e w'=>e=.returned (.bool true)∧Below w.heap.size w w':=by
 rcases ha.cases with rfl | ⟨b1,o1,rfl,hpos,hc1⟩
 ·obtain rfl:=aO he;go_enter Tryz.func221,Tryz.ntmps221;go_wp2;refine wp_loop_rounds 1 ?_;rw [rounds_succ];go_wp2;go_ret;exact ⟨rfl,Below.refl _ _⟩
 ·have hlen:=Xr he;rcases hb.cases with rfl | ⟨b2,o2,rfl,_,hc2⟩
  ·simp at hlen;omega
  ·have HV:Hid (∀ k,k<rs.length→(ts.getD k qm).v=(rs.getD k qm).v):=fun k hk=>fw he k hk
   have HS:Hid (∀ k,k<rs.length→(rs.getD k qm).short 1099511627776):=fun k hk=>hs _ (zZ rs k hk)
   have HI:Hid ((Tryz.prog.info? 189).map (·.size)=some 15):=by rw [Hid];kernel_rfl
   have hu:=Tryz.underlying189;rw [hlen] at hc2 ⊢;clear he hs hlen;go_enter Tryz.func221,Tryz.ntmps221;go_wp2;go_loopw [5] (fun i wr=>∃ k:Nat,k≤rs.length∧i=.int .i64 k∧Below w.heap.size w wr) (fun i _=>rs.length-(intOf i).toNat)
   case atStart=>exact ⟨0,Nat.zero_le _,rfl,Below.refl _ _⟩
   case round=>
    obtain ⟨k,hk,rfl,hbl⟩:=hrel;by_cases hlt:k<rs.length
    ·obtain ⟨h1,r1⟩:=hc1 k hlt;obtain ⟨h2,r2⟩:=hc2 k hlt;have hv:=HV.out k hlt;have hsh:=HS.out k hlt;clear hc1 hc2;generalize rs.getD k qm=z at*
     generalize ts.getD k qm=y at*
     have HR:Hid (∀ w1,Below w.heap.size w w1→w1.rangeAt b1 (o1+k*15) z.cells∧w1.rangeAt b2 (o2+k*15) y.cells):=fun w1 hh=>⟨Qz h1 hh,Qz h2 hh⟩
     have HD:Hid (∀ w1,Below w.heap.size w w1→z.reads w1∧y.reads w1):=fun w1 hh=>⟨r1.below hh,r2.below hh⟩
     clear h1 h2 r1 r2;go_wp2_with fail;refine wp_region_held_drew (S:=fun w'=>w'.rangeAt b1 (o1+k*15) z.cells∧w'.rangeAt b2 (o2+k*15) y.cells) (by kernel_rfl) ?_ (fun hHeld=>?_)
     ·exact HR.out _ hbl.drew
     refine tr 0 (.slice (some ⟨b1,o1,none⟩) rs.length ca) ?_;refine tr 1 (.int .i64 k) ?_;refine tr 2 (.pointer (some ⟨b1,o1+k*15,none⟩)) ?_;refine Go.Proofs.YtjkckhfddgeboaaGreatDoor.ts 3 rfl (yieldsIf_load_mid (by rfl) _ _ rfl _ _ rfl z.cells _ (fun _ h=>h.1) Tryz.underlying189 rfl HI.out) ?_;refine tr 4 (.slice (some ⟨b2,o2,none⟩) rs.length cb) ?_;refine tr 5 (.int .i64 k) ?_;refine tr 6 (.pointer (some ⟨b2,o2+k*15,none⟩)) ?_;refine Go.Proofs.YtjkckhfddgeboaaGreatDoor.ts 7 rfl (yieldsIf_load_mid (by rfl) _ _ rfl _ _ rfl y.cells _ (fun _ h=>h.2) Tryz.underlying189 rfl HI.out) ?_;refine wpAnyH_ready (rs:=[8]) (by kernel_rfl) (by simp) ?_;refine AllReadyH.cons rfl (fun K hK=>?_) AllReadyH.nil;go_simp;refine (Bi z y hv _ (HD.out _ hbl.drew).1 (HD.out _ hbl.drew).2 hsh).mono ?_;rintro e w2 ⟨rfl,hb2⟩;have hw2:Below w.heap.size w w2:=(hbl.drew).trans (hb2.mono hbl.size);refine hK.out _ _ (HR.out _ hw2) (fun hHeld=>?_);clear hK K;try simp only [zz]
     refine tr 9 (.bool false) ?_;refine wpAnyH_done (by kernel_rfl) ?_ _;go_wp2_with fail;go_roundw
     case rel=>exact ⟨k+1,by omega,by go_num,hw2⟩
     case measure=>simp [intOf];omega
    ·go_wp2;go_ret;exact ⟨rfl,hbl⟩
theorem Bj (l t:qz) (he:t.v=l.v) (w:World) (hr:l.reads w) (ht:t.reads w) (hl:l.short 1099511627776):
  Calls Tryz.prog 118 #[.agg l.cells.toArray,.agg t.cells.toArray] w fun e w'=>e=.returned (.bool true)∧Below w.heap.size w w':=by
 obtain ⟨rs,s,a,c⟩:=l;obtain ⟨ts,s',a',c'⟩:=t;obtain ⟨hl1,hl2⟩:=hl;simp only [qz.v,JR.mk.injEq] at he;obtain ⟨he,rfl⟩:=he;simp only [qz.reads,qz.cells] at*
 obtain ⟨W,hW,b0,b1,hbW,qp⟩:=jf w [.slice a rs.length c,.int .i64 s'] [.slice a' ts.length c',.int .i64 s'] 38 38;have C:=P9 a a' c c' rs ts he W (hr.below hbW) (ht.below hbW) hl1 hl2;clear qp he hl1 hl2 hr ht;go_enter Tryz.func118,Tryz.ntmps118;go_wp2_with fail;rw [hW.out];clear hW;refine C.mono ?_;clear C;rintro e w1 ⟨rfl,hb1⟩;have x1:=(b0.below hb1 b0.lt).cell 1 _ rfl;have y1:=(b1.below hb1 b1.lt).cell 1 _ rfl;clear b0 b1;go_wp2;go_ret;exact ⟨rfl,hbW.trans (hb1.mono hbW.size)⟩
theorem Bl (a:Option Addr) (cap:Nat) (rs:List qg) (left:Int) (w:World) (hr:xc w a rs) (hn:rs.length≤9223372036854775807) (hs:∀ r∈rs,r.short 9223372036854775807) (hl:0≤left∧left≤1048576):
  Calls Tryz.prog 212 #[.slice a rs.length cap,.int .i64 left] w fun e w'=>∃ z:Int,e=.returned (.int .i64 z)∧(z<0∨(0≤z∧z≤left∧rs.length≤1048576∧∀ r∈rs,r.short 1048576))∧Below w.heap.size w w':=by
 have HI:Hid ((Tryz.prog.info? 306).map (·.size)=some 15):=by rw [Hid];kernel_rfl
 by_cases hle:left-rs.length<0
 ·go_enter Tryz.func212,Tryz.ntmps212;go_wp2;go_ret;exact ⟨-1,rfl,.inl (by omega),Below.refl _ _⟩
 have HS:Hid (∀ k,k<rs.length→(rs.getD k qm).short 9223372036854775807):=fun k hk=>hs _ (zZ rs k hk)
 have hlen:rs.length≤1048576:=by omega
 have HC:Hid (∀ k,k<rs.length→∃ b off,a=some ⟨b,off,none⟩∧w.rangeAt b (off+k*15) (rs.getD k qm).cells):=fun k hk=>by
  obtain ⟨b,off,ha,hc⟩:=hr (by intro e;rw [e] at hk;simp at hk);exact ⟨b,off,ha,(hc k hk).1⟩
 have HA:Hid ((∀ k,k<rs.length→(rs.getD k qm).short 1048576)→∀ r∈rs,r.short 1048576):=by
  intro h r hr;obtain ⟨k,hk,rfl⟩:=List.getElem_of_mem hr;have:=h k hk
  simpa [List.getD,hk] using this
 clear hr hs;go_enter Tryz.func212,Tryz.ntmps212;go_wp2;go_loopw [1,5] (fun v i wr=>∃ (k:Nat) (z:Int),k≤rs.length∧i=.int .i64 k∧v=.int .i64 z∧0≤z∧z≤left∧Hid (∀ j,j<k→(rs.getD j qm).short 1048576)∧Below w.heap.size w wr) (fun _ i _=>rs.length-(intOf i).toNat)
 case atStart=>exact ⟨0,left-rs.length,Nat.zero_le _,rfl,by go_num,by omega,by omega,fun j hj=>by omega,Below.refl _ _⟩
 case round=>
  obtain ⟨k,z,hk,rfl,rfl,hz0,hz1,hsh,hbl⟩:=hrel;by_cases hlt:k<rs.length
  ·obtain ⟨b,off,rfl,hcell⟩:=HC.out k hlt;have HR:Hid (wr.rangeAt b (off+k*15) (rs.getD k qm).cells):=Qz hcell hbl;have C:=Rv (rs.getD k qm) z wr (HS.out k hlt) (by omega);clear hcell HC;have HN:Hid ((rs.getD k qm).short 1048576→∀ j,j<k+1→(rs.getD j qm).short 1048576):=fun h j hj=>by
    by_cases e:j=k
    ·rw [e];exact h
    ·exact hsh.out j (by omega)
   generalize rs.getD k qm=y at*
   go_wp2_with (first | (guard_target=wpList _ _ _ (Oper.mk (some 21) _ _ _ _ _::_) _ _;refine wpList_load_mid rfl 306 (.tmp 20) rfl b (off+k*15) rfl y.cells _ HR.out Tryz.underlying306 rfl HI.out ?_) | fail);refine C.mono ?_;clear C HR;rintro e w1 ⟨z1,rfl,hz,hb1⟩;have hB1:Below w.heap.size w w1:=hbl.trans (hb1.mono hbl.size);rcases hz with hneg | ⟨g0,g1,g2⟩
   ·go_wp2;go_ret;exact ⟨-1,rfl,.inl (by omega),hB1⟩
   ·have hzn:¬ z1<0:=by omega
    have HH:=HN.out g2;go_wp2;go_roundw
    case rel=>exact ⟨k+1,z1,by omega,by go_num,rfl,g0,by omega,HH,hB1⟩
    case measure=>simp [intOf];omega
  ·have HE:Hid (∀ r∈rs,r.short 1048576):=HA.out (fun j hj=>hsh.out j (by omega));go_wp2;go_ret;exact ⟨z,rfl,.inr ⟨hz0,hz1,hlen,HE.out⟩,hbl⟩
theorem Rw (l:qz) (left:Int) (w:World) (hr:l.reads w) (hs:l.short 9223372036854775807) (hl:0≤left∧left≤1048576):
  Calls Tryz.prog 103 #[.agg l.cells.toArray,.int .i64 left] w fun e w'=>∃ z:Int,e=.returned (.int .i64 z)∧(z<0∨(0≤z∧z≤left∧l.short 1048576))∧Below w.heap.size w w':=by
 obtain ⟨rs,s,a,c⟩:=l;obtain ⟨hl1,hl2⟩:=hs;simp only [qz.reads,qz.cells] at*
 obtain ⟨W,hW,b0,hbW,qp⟩:=qx w [.slice a rs.length c,.int .i64 s] 73;have C:=Bl a c rs left W (hr.below hbW) hl1 hl2 hl;clear qp hr hl1 hl2;go_enter Tryz.func103,Tryz.ntmps103;go_wp2_with fail;rw [hW.out];clear hW;refine C.mono ?_;clear C;rintro e w1 ⟨z,rfl,hz,hb1⟩;have hB:Below w.heap.size w w1:=hbW.trans (hb1.mono hbW.size);rcases hz with hneg | ⟨h0,h1,h2,h3⟩
 ·go_wp2;go_ret;exact ⟨-1,rfl,.inl (by omega),hB⟩
 ·have hzn:¬ z<0:=by omega
  go_wp2;go_ret;exact ⟨z,rfl,.inr ⟨h0,h1,h2,h3⟩,hB⟩
end Go.Proofs.YtjkckhfddgeboaaGreatDoor
namespace Go.Proofs.YtjkckhfddgeboaaGreatDoor
open Go.ChangeShapes Go.WideShapes Go.ChangeAt Go.RowKit
structure Uo (w:World) (l:qz):Prop where
 recs:xc w l.a l.recs
 each:∀ r∈l.recs,J8 w r
 len:l.recs.length≤maxLen
 num:yx l.sure
theorem Uo.short {w:World} {l:qz} (h:Uo w l):l.short 9223372036854775807:=⟨by have:=h.len;simp only [maxLen] at this;omega,fun r hr=>(h.each r hr).short⟩
section
variable {H:Type} {enc:TypeId × Value→H} {w:World} {base:Nat} {spare:Nat→Bool} {held:Bool}
theorem Tryz.aQ:Tryz.prog.cellsOf 71=1:=by kernel_rfl
theorem Tryz.Ay:Tryz.prog.cellsOf 73=2:=by kernel_rfl
theorem Rx {fuel:Nat} {cs:List Value} {x:DataW H × List MemPlace} (h:DataW.trod enc Tryz.prog w base spare held fuel 71 cs=some x):
  ∃ (a:Option Addr) (c:Nat) (rs:List qg),cs=[.slice a rs.length c]∧xc w a rs∧(∀ r∈rs,J8 w r)∧rs.length≤maxLen:=by
 rcases DataW.trod_slice Tryz.underlying71 h with ⟨rfl,_⟩ | ⟨a,len,cap,elems,rest,n,_,rfl,_,_,hl,hm,hlen,hel,_,_⟩
 ·exact ⟨none,0,[],rfl,xc.nil _ _,fun r hr=>by simp at hr,by simp⟩
 rw [Tryz.fA] at hel;have each:∀ i,i<len→∃ t:qg,w.cells? base (a.add (i*15)) 15=some t.cells∧J8 w t:=by
  intro i hi;have hy:=hel i hi;rw [List.getElem?_eq_getElem (by omega:i<elems.length),Option.bind_eq_some_iff] at hy;obtain ⟨cs',hcs,hy'⟩:=hy;obtain ⟨t,e,ht⟩:=Nc hy';exact ⟨t,by rw [hcs,e],ht⟩
 obtain ⟨f,hf⟩:∃ f:Nat→qg,∀ i,i<len→w.cells? base (a.add (i*15)) 15=some (f i).cells∧J8 w (f i):=by
  refine ⟨fun i=>if h:i<len then (each i h).choose else qm,fun i hi=>?_⟩;simp only [dif_pos hi];exact (each i hi).choose_spec
 refine ⟨some a,cap,(List.range len).map f,by simp,?_,?_,by simp;omega⟩
 ·intro hne;have hpos:=List.length_pos_iff.2 hne;simp only [List.length_map,List.length_range] at hpos ⊢;obtain ⟨b,off,spot⟩:=a;have c0:=(World.cells?_some (hf 0 hpos).1).2.2 0 (by decide);have hspot:spot=none:=by simpa [Addr.add] using World.cell?_spot c0
  subst hspot;refine ⟨b,off,rfl,fun k hk=>?_⟩;have e:((List.range len).map f).getD k qm=f k:=by simp [List.getD,hk]
  rw [e];have hc:=(World.cells?_some (hf k hk).1).2.2;refine ⟨fun j v hv=>?_,(hf k hk).2.reads⟩;have hj:j<15:=by have:=(List.getElem?_eq_some_iff.1 hv).1;rwa [zu] at this
  have d:=hc j (by simpa using hj);simp only [yS] at d;rw [d,hv]
 ·intro r hr;obtain ⟨k,hk,rfl⟩:=List.mem_map.1 hr;exact (hf k (List.mem_range.1 hk)).2
theorem Nf {fuel:Nat} {cs:List Value} {x:DataW H × List MemPlace} (h:DataW.trod enc Tryz.prog w base spare held fuel 73 cs=some x):
  ∃ l:qz,cs=l.cells∧Uo w l:=by
 obtain ⟨xs,n,_,_,hlen,hxl,hf⟩:=DataW.trod_struct Tryz.underlying73 h;rw [Tryz.Ay] at hlen
 match cs,hlen with
 | [v0,v1],_=>
  have f0:=hf 0 _ rfl;have f1:=hf 1 _ rfl;obtain ⟨y0,hx0⟩:=jm xs 0 (by rw [hxl];decide);rw [hx0] at f0;obtain ⟨y1,hx1⟩:=jm xs 1 (by rw [hxl];decide);rw [hx1] at f1;simp only [List.getElem_toArray,List.getElem_cons_zero,List.getElem_cons_succ,Tryz.Jw,Tryz.aQ,List.drop,List.take] at f0 f1;obtain ⟨a,c,rs,e0,h0,h1,h2⟩:=Rx f0;obtain ⟨m,e1,w1⟩:=yc f1;simp only [List.cons.injEq,and_true] at e0 e1;subst e0 e1;exact ⟨⟨rs,m,a,c⟩,rfl,h0,h1,h2,w1⟩
theorem qdF {b0:Nat} {v:Value} {d:DataW H} {ps:List MemPlace} (hval:Value.okWide Tryz.prog w .any b0 73 v) (h:DataW.Trod enc Tryz.prog w base spare held 73 v d ps):
  ∃ l:qz,v=.agg l.cells.toArray∧Uo w l:=by
 obtain ⟨cs,rfl,hcs⟩:=okWide_struct Tryz.underlying73 hval;obtain ⟨fuel,hf⟩:=h;have e:(Value.agg cs).cells.toList=cs.toList:=rfl;rw [e] at hf;obtain ⟨r,hc,rest⟩:=Nf hf;refine ⟨r,?_,rest⟩;congr 1;apply Array.toList_inj.1;rw [hc]
end
end Go.Proofs.YtjkckhfddgeboaaGreatDoor
namespace Go.Proofs.YtjkckhfddgeboaaGreatDoor
open Go.RowKit
theorem qz.reads.below {w w':World} {l:qz} (h:l.reads w) (hb:Below w.heap.size w w'):l.reads w':=xc.below h hb
theorem qz.own.reads {w:World} {lo hi:Nat} {l:qz} (h:l.own w lo hi):l.reads w:=qV.reads h
theorem qz.own.below {w w':World} {lo hi:Nat} {l:qz} (h:l.own w lo hi) (hb:Below w.heap.size w w'):l.own w' lo hi:=qV.below h hb
theorem qz.own.within {w w':World} {lo hi a b:Nat} {l:qz} (h:l.own w lo hi) (hw:Within a b w w') (hd:hi≤a∨b≤lo):l.own w' lo hi:=qV.within h hw hd
def qz.blocks (l:qz):List Nat:=kr l.a l.c l.recs
theorem qz.own.touch {w w':World} {lo hi:Nat} {l:qz} {bl:List Nat} (h:l.own w lo hi) (ht:Touch bl w w') (hd:∀ k∈l.blocks,k∉bl):l.own w' lo hi:=qV.touch h ht hd
theorem FO (l:qz):∀ v∈l.cells,v.oneCell'=true:=by
 intro v hv;simp only [qz.cells,List.mem_cons,List.not_mem_nil,or_false] at hv;rcases hv with rfl | rfl<;>rfl
theorem Uo.reads {w:World} {l:qz} (h:Uo w l):l.reads w:=h.recs
theorem Az (q:qz):q.cells.toArray.all (·.oneCell')=true:=all_oneCell_toArray (FO q)
theorem xQ (q:qz):(Tryz.prog.info? 38).map (·.size)=some q.cells.length:=by show _=some 2;kernel_rfl
theorem xD {w:World} {B:Nat} {x0 x1:Value} {t:TypeId} (b:Box w B [x0,x1] t) (v0 v1:Value):
  ∃ W,Hid ((w.setCell ⟨B,0,none⟩ v0).setCell ⟨B,1,none⟩ v1=W)∧Box W B [v0,v1] t∧Within B (B+1) w W∧W.heap.size=w.heap.size:=by
 refine ⟨_,rfl,by simpa using (b.set 0 v0).set 1 v1,(jh w B 0 v0 (by omega)).trans (jh _ B 1 v1 (by omega)),by simp⟩
theorem Ng (a:Option Addr) (cap:Nat) (rs:List qg) (w:World) (hr:xc w a rs) (hl:rs.length≤1048576) (hs:∀ r∈rs,r.short 1099511627776) (hcp:∀ r∈rs,r.aL=none→r.cL=0):
  Calls Tryz.prog 208 #[.slice a rs.length cap] w fun e w'=>∃ a' c' ts,e=.returned (.slice a' ts.length c')∧Hid (ts.map qg.v=rs.map qg.v)∧qV w' w.heap.size w'.heap.size a' c' ts∧Below w.heap.size w w':=by
 obtain ⟨i0,hi,hz0,hz1,hz2⟩:=info_parts Tryz.pK;have HJ:Hid ((Tryz.prog.info? 189).map (·.size)=some 15):=by rw [Hid];kernel_rfl
 rcases hr.cases with rfl | ⟨b,off,rfl,hpos,hcell⟩
 ·have HO:Hid (qV w w.heap.size w.heap.size none 0 []):=dO w _ _ (Nat.le_refl _);go_enter Tryz.func208,Tryz.ntmps208;go_wp2;go_ret;exact ⟨none,0,[],rfl,rfl,HO.out,Below.refl _ _⟩
 ·have JJ:b<w.heap.size:=Kg (hcell 0 hpos).1;have hne:((rs.length:Int) == 0)=false:=by simp;intro h;rw [h] at hpos;simp at hpos
  go_enter Tryz.func208,Tryz.ntmps208;go_wp2_with (at_make;refine wpList_make_full _ rfl _ _ 36 rfl w.heap.size 189 i0 (.agg qm.cells.toArray) 15 Tryz.underlying36 hi hz0 hz1 _ _ _ _ rs.length rfl rfl rfl rfl (by rw [hz2];omega) (by simp [maxLen];omega) (Nat.le_refl _) ?_);intro w0 hown0 j5;have hb0:Below w.heap.size w w0:=(Below.refl _ _).grown j5 (Nat.le_refl _) (fun k h=>by cases h);have ho:w0.ownsRow w.heap.size 189 15 (.slice (some ⟨w.heap.size,0,none⟩) rs.length rs.length) rs.length (jO (List.replicate rs.length qm)):=by
   rw [← XD];exact hown0
  have HO:Hid (qV w0 w.heap.size w0.heap.size (some ⟨w.heap.size,0,none⟩) rs.length (List.replicate rs.length qm)):=ZA _ ho (Nat.le_refl _) (ho.lt _ rfl).2;clear hown0 j5 ho;go_wp2;go_loopw [14] (fun i wr=>∃ (k:Nat) (ts:List qg),k≤rs.length∧i=.int .i64 k∧Hid (Came rs ts k)∧Hid (qV wr w.heap.size wr.heap.size (some ⟨w.heap.size,0,none⟩) rs.length (ts++List.replicate (rs.length-k) qm))∧Below w.heap.size w wr)
   (fun i _=>rs.length-(intOf i).toNat)
  case atStart=>exact ⟨0,[],Nat.zero_le _,rfl,Ve rs,HO,hb0⟩
  case round=>
   obtain ⟨k,ts,hk,rfl,hc,hown,hnx⟩:=hrel;by_cases hlt:k<rs.length
   ·obtain ⟨c0,c1⟩:=hcell k hlt;have HR:Hid (wr.rangeAt b (off+k*15) (rs.getD k qm).cells):=xU c0 hnx JJ;have hrd:(rs.getD k qm).reads wr:=c1.below hnx;have hsh:(rs.getD k qm).short 1099511627776:=hs _ (zZ rs k hlt);have hnc:=hcp _ (zZ rs k hlt);have HS:Hid (∀ q:qg,q.v=(rs.getD k qm).v→Came rs (ts++[q]) (k+1)):=fun q hq=>hc.out.snoc hlt hq
    have HP:Hid (ts++List.replicate (rs.length-k) qm=ts++qm::List.replicate (rs.length-(k+1)) qm∧(ts++qm::List.replicate (rs.length-(k+1)) qm).length=rs.length∧ts.length=k):=by
     have e:rs.length-k=(rs.length-(k+1))+1:=by omega
     refine ⟨by rw [e,List.replicate_succ],?_,hc.out.1⟩;have:=hc.out.1;simp;omega
    clear c0 c1 hcell hb0 HO hs hcp;generalize rs.getD k qm=z at*
    obtain ⟨W1,hW1,b1,hb1,hs1⟩:=qx wr [.int .i64 0,.int .i64 0,.int .i64 0,.int .i64 0,.int .i64 0,.bool false,.int .i64 0,.slice none 0 0,.slice none 0 0,.bool false,.int .i64 0,.slice none 0 0,.slice none 0 0,.int .i64 0,.slice none 0 0] 189;obtain ⟨W2,hW2,hw2,hs2,HT2,_,b2⟩:=Xb z _ rfl b1;have B2:Below wr.heap.size wr W2:=hb1.trans (hw2.below (Nat.le_refl _) (by omega));have R2:Hid (W2.rangeAt wr.heap.size 0 z.cells):=Box.range [] z.cells [] (by simpa using b2);have C:=P8 z W2 (hrd.below B2) hsh hnc;have N2:Below w.heap.size w W2:=hnx.trans (B2.mono hnx.size);have O2:Hid _:=hown.out.below B2;have Vo:=Q3 z;have qdG:=B2.size;have qdH:=hnx.size;clear hs1 hs2 b1 b2 hb1 hw2 hrd hsh hnc hown hnx B2;go_wp2_with (first | (guard_target=wpList _ _ _ (Oper.mk (some 18) _ _ _ _ _::_) _ _;refine wpList_load_mid rfl 189 (.tmp 17) rfl b (off+k*15) rfl z.cells _ HR.out Tryz.underlying189 rfl HJ.out ?_) | (guard_target=wpList _ _ _ (Oper.mk none (Op.store _ (Operand.tmp 5) _) _ _ _ _::_) _ _;refine wpList_store_mid rfl 189 (.tmp 5) (.tmp 18) rfl wr.heap.size 0 z.cells.toArray rfl rfl (by rw [hW1.out];exact HT2.out) HJ.out Vo ?_) | (guard_target=wpList _ _ _ (Oper.mk (some 21) _ _ _ _ _::_) _ _;refine wpList_load_mid rfl 189 (.tmp 5) rfl wr.heap.size 0 rfl z.cells _ (by rw [hW1.out,hW2.out];exact R2.out) Tryz.underlying189 rfl HJ.out ?_) | fail);rw [hW1.out,hW2.out];refine C.mono ?_;clear C HR hW1 hW2 HT2 R2 Vo;rintro e w3 ⟨q,rfl,hq,hqo,hb3⟩;have hs3:=hb3.size;have ho1:=O2.out.below hb3;rw [HP.out.1] at ho1;obtain ⟨W4,vg,lW,ht4,hs4⟩:=ho1.fill q hqo (by omega) (by omega) (Nat.le_refl _);rw [HP.out.2.2] at vg;have HT:Hid (w3.there w.heap.size (k*15) 15):=(pM ho1.row rfl k (by rw [HP.out.2.1];exact hlt)).2;have hB4:Below w.heap.size w W4:=(N2.trans (hb3.mono (by omega))).trans ((ht4.within (lo:=w.heap.size) (hi:=w.heap.size+1) (fun j hj=>by obtain rfl:=List.mem_singleton.1 hj;omega)).below (Nat.le_refl _) (by omega));have HH:Hid (qV W4 w.heap.size W4.heap.size (some ⟨w.heap.size,0,none⟩) rs.length ((ts++[q])++List.replicate (rs.length-(k+1)) qm)):=by
     have:=lW.widen (Nat.le_refl _) (show max wr.heap.size w3.heap.size≤W4.heap.size by omega) (Nat.le_refl _);rw [List.append_assoc,List.singleton_append];exact this
    have HB:Hid _:=hB4;have HC:=HS.out q hq.out;have YY:=Q3 q;clear ho1 lW ht4 hs4 hB4 hqo hb3 N2 O2 hq HS hs3 qdG qdH;go_wp2_with (first | (guard_target=wpList _ _ _ (Oper.mk none (Op.store _ (Operand.tmp 23) _) _ _ _ _::_) _ _;refine wpList_store_mid rfl 189 (.tmp 23) (.tmp 22) rfl w.heap.size (k*15) q.cells.toArray rfl rfl HT.out HJ.out YY ?_) | fail);rw [vg.out];go_roundw
    case rel=>exact ⟨k+1,ts++[q],by omega,by go_num,HC,HH,HB.out⟩
    case measure=>simp [intOf];omega
   ·have HE:Hid (ts.map qg.v=rs.map qg.v∧qV wr w.heap.size wr.heap.size (some ⟨w.heap.size,0,none⟩) rs.length ts∧ts.length=rs.length):=by
     have e:k=rs.length:=by omega
     rw [e] at hown hc;rw [Nat.sub_self,List.replicate_zero,List.append_nil] at hown;exact ⟨hc.out.all,hown.out,hc.out.1⟩
    go_wp2;go_ret;exact ⟨some ⟨w.heap.size,0,none⟩,rs.length,ts,by rw [HE.out.2.2];rfl,HE.out.1,HE.out.2.1,hnx⟩
theorem qV.KA {w:World} {lo hi:Nat} {a:Option Addr} {c:Nat} {rs:List qg} (h:qV w lo hi a c rs):∀ r∈rs,r.aL=none→r.cL=0:=fun r hr=>(h.each r hr).txs.XZ
theorem PQ (l:qz) (w:World) (hr:l.reads w) (hl:l.short 1048576) (hcp:∀ r∈l.recs,r.aL=none→r.cL=0):
  Calls Tryz.prog 148 #[.agg l.cells.toArray] w fun e w'=>∃ t:qz,e=.returned (.agg t.cells.toArray)∧Hid (t.v=l.v)∧t.own w' w.heap.size w'.heap.size∧Below w.heap.size w w':=by
 obtain ⟨rs,s,a,c⟩:=l;obtain ⟨hl1,hl2⟩:=qz.qZ hl;have hl0:=hl.len;simp only [qz.reads,qz.cells,qz.own] at*
 obtain ⟨W,hW,b0,b1,hbW,qp⟩:=jf w [.slice a rs.length c,.int .i64 s] [.slice none 0 0,.int .i64 0] 38 38;have hs0:w.heap.size+1<W.heap.size:=by omega
 clear qp;have HC:Hid (∀ u,Below W.heap.size W u→Calls _ _ _ _ _):=fun u hu=>Ng a c rs u (hr.below (hbW.trans (hu.mono (by omega)))) hl0 hl2 hcp
 have uO:Hid (∀ u,Below W.heap.size W u→Box u w.heap.size _ _):=fun u hu=>b0.below hu b0.lt
 have Gn:Hid (∀ u,Below W.heap.size W u→Box u (w.heap.size+1) _ _):=fun u hu=>b1.below hu b1.lt
 have x0:=b0.cell 0 _ rfl;have x1:=b0.cell 1 _ rfl;clear b0 b1 hr hl hl0 hl1 hl2 hcp;go_enter Tryz.func148,Tryz.ntmps148;go_wp2_with fail;rw [hW.out];clear hW
 go_region_law ((first
  | (go_simp;go_at_call 208;refine (HC.out _ (Below.refl _ _).drew).mono ?_;clear HC;rintro e u1 ⟨a',c',ts,rfl,hv1,ho1,hb1⟩;have hb1':=(Below.refl W.heap.size W).drew.trans hb1;have z1:=(uO.out u1 hb1').cell 1 _ rfl;have y0:=(Gn.out u1 hb1').cell 0 _ rfl;have y1:=(Gn.out u1 hb1').cell 1 _ rfl;have g0:=(Gn.out u1 hb1').frozen 0;have g1:=(Gn.out u1 hb1').frozen 1)
  | fail))
 all_goals
  have hs1:=hb1'.size;obtain ⟨WF,qF,bF,hwF,qN⟩:=xD (Gn.out u1 hb1') (.slice a' ts.length c') (.int .i64 s);have q0:=bF.cell 0 _ rfl;have q1:=bF.cell 1 _ rfl;have VA:qV u1 W.heap.size u1.heap.size a' c' ts:=ho1;have xY:=(VA.within hwF (.inr (by omega))).widen (show w.heap.size≤W.heap.size by omega) (show u1.heap.size≤WF.heap.size by omega) (Nat.le_refl _);have xM:Below w.heap.size w WF:=(hbW.trans (hb1'.mono (by omega))).trans (hwF.below (by omega) (by omega));rw [qF.out];clear hwF qN bF ho1 VA z1 y0 y1 g0 g1;go_wp2;exact bodyPost_ret (v:=.agg #[.slice a' ts.length c',.int .i64 s]) (by simp [results,Tryz.results148,go_sem,q0,q1]) rfl ⟨⟨ts,s,a',c'⟩,rfl,by simp only [Hid,qz.v];rw [hv1.out],xY,xM⟩
end Go.Proofs.YtjkckhfddgeboaaGreatDoor
namespace Go.Proofs.YtjkckhfddgeboaaGreatDoor
open Go.RowKit
theorem pO {w:World} (ty:TypeId) (lo hi:Nat) (a:Option Addr) (c:Nat) (rs:List qg) (hown:qV w lo hi a c rs)
  (b off:Nat) (sc:Nat) (q:qg) (hr:w.rangeAt b off q.cells) (l u:Nat) (hq:q.own w l u) (hl:hi≤l) (hu:u≤w.heap.size)
  (hb:rs.length+1≤68719476736) (hlo:lo≤hi):
  ∃ a' c' w',(Builtin.append_ #[36,36] ty #[.slice a rs.length c,.slice (some ⟨b,off,none⟩) 1 sc]).run Tryz.prog w=.ok (.slice a' (rs++[q]).length c') w'∧qV w' lo w'.heap.size a' c' (rs++[q])∧w.grownBy w' (Value.slice a rs.length c).ownBlock:=by
 obtain ⟨i0,hi0,hz0,hz1,hz2⟩:=info_parts Tryz.pK;have xB:=hq.ql;have htop:=hown.top;obtain ⟨v',w',hrun,h1,h2,_,_⟩:=run_append_own_at (P:=Tryz.prog) w lo 36 ty 189 i0 (.agg qm.cells.toArray) 15 200 Tryz.underlying36 hi0 hz0 hz1 hz2 rfl (by decide) _ _ _ hown.row ⟨b,off,none⟩ 1 sc q.cells (by rfl) (by
  intro j v hj;rw [yS];exact hr j v hj) (ZB q) (by simp only [maxLen];omega) (by omega) (by omega)
 have e:jO rs++q.cells=jO (rs++[q]):=by rw [QK,vW];simp [jO]
 have e2:rs.length+1=(rs++[q]).length:=by simp
 rw [e,e2] at h1;have sh:∃ a' c',v'=.slice a' (rs++[q]).length c':=by
  rcases h1.2 with ⟨rfl,h0⟩ | ⟨g,cap,cur,rfl,_⟩
  ·simp at h0
  ·exact ⟨_,_,rfl⟩
 obtain ⟨a',c',rfl⟩:=sh;have hsz:=h2.size;have ht:Touch (Value.slice a rs.length c).ownBlock.toList w w':=Touch.jw h2 (fun k hk=>Option.mem_toList.2 hk);have hrow:=h1.lt;have hold:∀ r∈rs,r.own w' lo w'.heap.size:=fun r hr=>((hown.each r hr).touch ht (fun k hk hk'=>(List.nodup_append.1 hown.apart).2.2 k hk' k (List.mem_flatMap.2 ⟨r,hr,hk⟩) rfl)).widen (Nat.le_refl _) (by omega) (Nat.le_refl _)
 have hnew:q.own w' lo w'.heap.size:=(hq.touch ht (fun k hk hk'=>by have:=xB k hk;have:=hown.blk k (Option.mem_toList.1 hk');omega)).widen (by omega) (by omega) (Nat.le_refl _);refine ⟨a',c',w',hrun,⟨h1,Nat.le_refl _,fun k hk=>(hrow k hk).2,fun r hr=>?_,?_⟩,h2⟩
 ·rcases List.mem_append.1 hr with hr | hr
  ·exact hold r hr
  ·obtain rfl:=List.mem_singleton.1 hr;exact hnew
 ·rw [List.flatMap_append,List.nodup_append,List.nodup_append];have hap:=(List.nodup_append.1 hown.apart).2.1;have hin:∀ x∈rs.flatMap qg.blocks,lo≤x∧x<hi:=fun x hx=>by
   obtain ⟨r,hr,hx⟩:=List.mem_flatMap.1 hx;exact (hown.each r hr).ql x hx
  refine ⟨by cases (Value.slice a' (rs++[q]).length c').ownBlock<;>simp,⟨hap,by simpa using hq.apart,fun x hx y hy e=>?_⟩,fun x hx y hy e=>?_⟩
  ·have:=hin x hx;simp only [List.flatMap_cons,List.flatMap_nil,List.append_nil] at hy;have:=xB y hy;omega
  ·have hx':=Option.mem_toList.1 hx;subst e;rcases List.mem_append.1 hy with hy | hy
   ·obtain ⟨r,hr,hy⟩:=List.mem_flatMap.1 hy;exact VI h1 (hold r hr) x hx' hy
   ·simp only [List.flatMap_cons,List.flatMap_nil,List.append_nil] at hy;exact VI h1 hnew x hx' hy
theorem Jd {w:World} {ops:Array Oper} {o:Oper} {act:Act} {K:Act→World→Prop} {Q:Exit→Act→World→Prop} {E:Prop} (hgd:o.guard=none) (s x:Operand)
  (ho:o.op=.call { callee:=.builtin .append,args:=#[s,x],argTypes:=#[36,36] })
  (lo hi:Nat) (a:Option Addr) (c:Nat) (rs:List qg) (hs:act.eval s=.slice a rs.length c) (hown:qV w lo hi a c rs)
  (b off:Nat) (sc:Nat) (q:qg) (hx:act.eval x=.slice (some ⟨b,off,none⟩) 1 sc) (hr:w.rangeAt b off q.cells) (l u:Nat) (hq:q.own w l u) (hl:hi≤l) (hu:u≤w.heap.size)
  (hb:rs.length+1≤68719476736) (hlo:lo≤hi)
  (h:∀ a' c' w',qV w' lo w'.heap.size a' c' (rs++[q])→w.grownBy w' (Value.slice a rs.length c).ownBlock→K (act.put o.dst (.slice a' (rs++[q]).length c')) w'):
  if Region.wanted o (yielded ops act.tmps)=true then Oper.wp Tryz.prog o act w K Q else E:=by
 have hw:Region.wanted o (yielded ops act.tmps)=true:=by simp [Region.wanted,hgd]
 rw [if_pos hw];obtain ⟨a',c',w',hrun,h2,h3⟩:=pO (w:=w) o.type lo hi a c rs hown b off sc q hr l u hq hl hu hb hlo;unfold Oper.wp;simp [execOp,ho,resolve,invoke,builtin,hs,hx,hrun,Result.andThen];have:=h a' c' w' h2 h3;rw [List.length_append,List.length_singleton] at this;exact this
end Go.Proofs.YtjkckhfddgeboaaGreatDoor