/- Texts. -/
import Derived.Test.YtnfdccldabbobaaGreatDoorP11
import Derived.Test.YtnfdccldabbobaaGreatDoorP12
set_option maxHeartbeats 8000000
set_option maxRecDepth 100000
namespace Go.Proofs.YtnfdccldabbobaaGreatDoor
open Go.RowKit Go.Proofs.Tryz
def yz (n:Int) (r:xS):Bool:=
 if r.kind == 1 then (jX n r.tx r.prev && (inB r.oid 1 31 && (qL r.bf && qL r.af)))
 else if r.kind == 2 then jX n r.tx r.prev
 else if r.kind == 3 then jX n r.tx r.prev
 else if r.kind == 4 then (jX n r.tx r.prev && (inB r.oid 1 31 && (qL r.af && inB r.next 0 (n-1))))
 else if r.kind == 5 then jX n r.tx r.prev
 else if r.kind == 6 then xI n r.txs
 else false
def zh (n:Int) (r:ql):ql:=
 if r.kind == 1 then ⟨n,r.tx,r.prev,1,r.oid,r.bf,r.af,0,[],none,0⟩
 else if r.kind == 2 then xK n r.tx r.prev 2
 else if r.kind == 3 then xK n r.tx r.prev 3
 else if r.kind == 4 then ⟨n,r.tx,r.prev,4,r.oid,qw,r.af,r.next,[],none,0⟩
 else if r.kind == 5 then xK n r.tx r.prev 5
 else if r.kind == 6 then ⟨n,0,0,6,0,qw,qw,0,r.txs,r.aL,r.cL⟩
 else xK 0 0 0 0
theorem ma {s:qj} (h:s.v.o.ints.length≤1099511627776∧s.v.o.refs.length≤1099511627776):Fit [s]:=fun t ht=>by obtain rfl:=qac.1 ht;exact h
theorem Eo (n:Int) (r:ql) (w:World) (hg:jR w) (hr:r.reads w) (hl:r.short 1099511627776):
  Calls prog 174 #[.int .i64 n,kW r] w fun e w'=>e=.returned (.bool (yz n r.v))∧qa w w':=by
 cases k1:(r.kind == 1) with
 | true=>
  have e1:kW r=wM (XM r.tx r.prev r.oid r.bf r.af):=by simp [kW,k1]
  have e2:yz n r.v=(jX n r.tx r.prev && (inB r.oid 1 31 && (qL r.bf.v && qL r.af.v))):=by simp [yz,ql.v,k1]
  rw [e1,e2];exact iy n r.tx r.prev r.oid r.bf r.af w hg hr.bf hr.af (ma hl.bf) (ma hl.af)
 | false=>
  cases k2:(r.kind == 2) with
  | true=>
   have e1:kW r=zX (za r.tx r.prev):=by simp [kW,k1,k2]
   have e2:yz n r.v=jX n r.tx r.prev:=by simp [yz,ql.v,k1,k2]
   rw [e1,e2];exact fw n r.tx r.prev w
  | false=>
   cases k3:(r.kind == 3) with
   | true=>
    have e1:kW r=vC (za r.tx r.prev):=by simp [kW,k1,k2,k3]
    have e2:yz n r.v=jX n r.tx r.prev:=by simp [yz,ql.v,k1,k2,k3]
    rw [e1,e2];exact tN n r.tx r.prev w
   | false=>
    cases k4:(r.kind == 4) with
    | true=>
     have e1:kW r=zG (JQ r.tx r.prev r.oid r.af r.next):=by simp [kW,k1,k2,k3,k4]
     have e2:yz n r.v=(jX n r.tx r.prev && (inB r.oid 1 31 && (qL r.af.v && inB r.next 0 (n-1)))):=by simp [yz,ql.v,k1,k2,k3,k4]
     rw [e1,e2];exact Rx n r.tx r.prev r.oid r.af r.next w hg hr.af (ma hl.af)
    | false=>
     cases k5:(r.kind == 5) with
     | true=>
      have e1:kW r=uU (za r.tx r.prev):=by simp [kW,k1,k2,k3,k4,k5]
      have e2:yz n r.v=jX n r.tx r.prev:=by simp [yz,ql.v,k1,k2,k3,k4,k5]
      rw [e1,e2];exact iA n r.tx r.prev w
     | false=>
      cases k6:(r.kind == 6) with
      | true=>
       have e1:kW r=vF (Kj r.txs r.aL r.cL):=by simp [kW,k1,k2,k3,k4,k5,k6]
       have e2:yz n r.v=xI n r.txs:=by simp [yz,ql.v,k1,k2,k3,k4,k5,k6]
       rw [e1,e2];exact tQ n r.txs r.aL r.cL w hr.txs hl.txs
      | false=>
       have e1:kW r=.nilIface:=by simp [kW,k1,k2,k3,k4,k5,k6]
       have e2:yz n r.v=false:=by simp [yz,ql.v,k1,k2,k3,k4,k5,k6]
       rw [e1,e2];exact iB n w
theorem qaJ (n:Int) (r:ql) (w:World):
  Calls prog 176 #[.int .i64 n,kW r] w fun e w'=>e=.returned (.agg (zh n r).cells.toArray)∧qa w w':=by
 cases k1:(r.kind == 1) with
 | true=>
  have e1:kW r=wM (XM r.tx r.prev r.oid r.bf r.af):=by simp [kW,k1]
  have e2:zh n r=⟨n,r.tx,r.prev,1,r.oid,r.bf,r.af,0,[],none,0⟩:=by simp [zh,k1]
  rw [e1,e2];exact Ib n r.tx r.prev r.oid r.bf r.af w
 | false=>
  cases k2:(r.kind == 2) with
  | true=>
   have e1:kW r=zX (za r.tx r.prev):=by simp [kW,k1,k2]
   have e2:zh n r=xK n r.tx r.prev 2:=by simp [zh,k1,k2]
   rw [e1,e2];exact tZ n r.tx r.prev w
  | false=>
   cases k3:(r.kind == 3) with
   | true=>
    have e1:kW r=vC (za r.tx r.prev):=by simp [kW,k1,k2,k3]
    have e2:zh n r=xK n r.tx r.prev 3:=by simp [zh,k1,k2,k3]
    rw [e1,e2];exact Ry n r.tx r.prev w
   | false=>
    cases k4:(r.kind == 4) with
    | true=>
     have e1:kW r=zG (JQ r.tx r.prev r.oid r.af r.next):=by simp [kW,k1,k2,k3,k4]
     have e2:zh n r=⟨n,r.tx,r.prev,4,r.oid,qw,r.af,r.next,[],none,0⟩:=by simp [zh,k1,k2,k3,k4]
     rw [e1,e2];exact iC n r.tx r.prev r.oid r.af r.next w
    | false=>
     cases k5:(r.kind == 5) with
     | true=>
      have e1:kW r=uU (za r.tx r.prev):=by simp [kW,k1,k2,k3,k4,k5]
      have e2:zh n r=xK n r.tx r.prev 5:=by simp [zh,k1,k2,k3,k4,k5]
      rw [e1,e2];exact Ic n r.tx r.prev w
     | false=>
      cases k6:(r.kind == 6) with
      | true=>
       have e1:kW r=vF (Kj r.txs r.aL r.cL):=by simp [kW,k1,k2,k3,k4,k5,k6]
       have e2:zh n r=⟨n,0,0,6,0,qw,qw,0,r.txs,r.aL,r.cL⟩:=by simp [zh,k1,k2,k3,k4,k5,k6]
       rw [e1,e2];exact Rz n r.txs r.aL r.cL w
      | false=>
       have e1:kW r=.nilIface:=by simp [kW,k1,k2,k3,k4,k5,k6]
       have e2:zh n r=xK 0 0 0 0:=by simp [zh,k1,k2,k3,k4,k5,k6]
       rw [e1,e2];exact Ie n w
theorem F5 {P:Prop} (h:P:=by
 unfold zh;split
 ·exact ⟨h.bf,h.af,y⟩
 split
 ·exact ⟨z,z,y⟩
 split
 ·exact ⟨z,z,y⟩
 split
 ·exact ⟨z,h.af,y⟩
 split
 ·exact ⟨z,z,y⟩
 split
 ·exact ⟨z,z,h.txs⟩
 ·exact ⟨z,z,y⟩):P:=h
theorem Ep (n:Int) {r:ql} {w:World} (h:r.reads w):(zh n r).reads w:=by
 have z:qw.reads w:=⟨xH.nil _ _,xH.nil _ _,fun _=>rfl,fun _=>rfl⟩;have y:kQ w none []:=kQ.nil _ _;exact F5
theorem Er (n:Int) {r:ql} {m:Nat} (h:r.short m):(zh n r).short m:=by
 have z:qw.v.o.ints.length≤m∧qw.v.o.refs.length≤m:=⟨qaw _,qaw _⟩;have y:([]:List qM).length≤m:=qaw _;exact F5
theorem gG (v:qO):ym XZ v=xu v:=by
 obtain ⟨h,k,i,f⟩:=v;cases h
 ·simp [ym,xu,XZ,nC,zR,eq_comm]
 ·simp [ym,xu,XZ]
theorem Nu (v:qO):ym v v=true:=by simp [ym,zR]
theorem Qz {v:qO} (h:xu v=true):qL v=true:=by
 obtain ⟨b,k,i,f⟩:=v;cases b
 ·simp [xu,zR] at h;simp [qL,h]
 ·simp [xu] at h
theorem F6 {P:Prop} (h:P:=by
 generalize xu b=ib at*
 generalize xu a=ia at*
 generalize qL b=sb at*
 generalize qL a=sa at*
 by_cases hl:l=[]
 all_goals cases ib<;>cases ia<;>cases sb<;>cases sa<;>simp [inB,hl] at hb ha ⊢ <;>omega):P:=h
theorem qeu (n t v o:Int) (b a:qO) (x:Int) (l:List qM):((inB n 1 1000000 && ((jX n t v && (inB o 1 31 && (qL b && qL a))) && vG ⟨n,t,v,1,o,b,a,0,[]⟩ ⟨n,t,v,1,o,b,a,x,l⟩))=true) ↔ xx ⟨n,t,v,1,o,b,a,x,l⟩=true:=by
 have hb:xu b=true→qL b=true:=Qz;have ha:xu a=true→qL a=true:=Qz;simp only [vG,Nu,VN,xx,kX,jX,qam,beq_self_eq_true,qfu,qcB,Bool.true_or,qf5];exact F6
theorem qev (r:ql) (hk:r.kind=1):((inB r.lsn 1 1000000 && ((jX r.lsn r.tx r.prev && (inB r.oid 1 31 && (qL r.bf.v && qL r.af.v))) && vG (ql.v (⟨r.lsn,r.tx,r.prev,1,r.oid,r.bf,r.af,0,[],none,0⟩)) r.v))=true) ↔ xx r.v=true:=by
 obtain ⟨n,t,v,k,o,b,a,x,l,aL,cL⟩:=r;simp only at hk;subst hk;exact qeu n t v o b.v a.v x l
theorem Gx {P:Prop} (h:P:=by
 have hb:xu b=true→qL b=true:=Qz;have ha:xu a=true→qL a=true:=Qz;simp only [vG,gG,VN,xx,kX,jX,qam,beq_self_eq_true,qfu,qcB,Bool.true_or,qf5];generalize xu b=ib at*
 generalize xu a=ia at*
 generalize qL b=sb at*
 generalize qL a=sa at*
 by_cases hl:l=[]
 all_goals cases ib<;>cases ia<;>cases sb<;>cases sa<;>simp [inB,hl] at hb ha ⊢ <;>omega):P:=h
theorem Es (n t v o:Int) (b a:qO) (x:Int) (l:List qM):((inB n 1 1000000 && (jX n t v && vG ⟨n,t,v,2,0,XZ,XZ,0,[]⟩ ⟨n,t,v,2,o,b,a,x,l⟩))=true) ↔ xx ⟨n,t,v,2,o,b,a,x,l⟩=true:=by
 exact Gx
theorem Et (r:ql) (hk:r.kind=2):((inB r.lsn 1 1000000 && (jX r.lsn r.tx r.prev && vG (ql.v (xK r.lsn r.tx r.prev 2)) r.v))=true) ↔ xx r.v=true:=by
 obtain ⟨n,t,v,k,o,b,a,x,l,aL,cL⟩:=r;simp only at hk;subst hk;exact Es n t v o b.v a.v x l
theorem qaK (n t v o:Int) (b a:qO) (x:Int) (l:List qM):((inB n 1 1000000 && (jX n t v && vG ⟨n,t,v,3,0,XZ,XZ,0,[]⟩ ⟨n,t,v,3,o,b,a,x,l⟩))=true) ↔ xx ⟨n,t,v,3,o,b,a,x,l⟩=true:=by
 exact Gx
theorem qaL (r:ql) (hk:r.kind=3):((inB r.lsn 1 1000000 && (jX r.lsn r.tx r.prev && vG (ql.v (xK r.lsn r.tx r.prev 3)) r.v))=true) ↔ xx r.v=true:=by
 obtain ⟨n,t,v,k,o,b,a,x,l,aL,cL⟩:=r;simp only at hk;subst hk;exact qaK n t v o b.v a.v x l
theorem qcr (n t v o:Int) (b a:qO) (x:Int) (l:List qM):((inB n 1 1000000 && ((jX n t v && (inB o 1 31 && (qL a && inB x 0 (n-1)))) && vG ⟨n,t,v,4,o,XZ,a,x,[]⟩ ⟨n,t,v,4,o,b,a,x,l⟩))=true) ↔ xx ⟨n,t,v,4,o,b,a,x,l⟩=true:=by
 have hb:xu b=true→qL b=true:=Qz;have ha:xu a=true→qL a=true:=Qz;simp only [vG,gG,Nu,VN,xx,kX,jX,qam,beq_self_eq_true,qfu,qcB,Bool.true_or,qf5];exact F6
theorem qcs (r:ql) (hk:r.kind=4):((inB r.lsn 1 1000000 && ((jX r.lsn r.tx r.prev && (inB r.oid 1 31 && (qL r.af.v && inB r.next 0 (r.lsn-1)))) && vG (ql.v (⟨r.lsn,r.tx,r.prev,4,r.oid,qw,r.af,r.next,[],none,0⟩)) r.v))=true) ↔ xx r.v=true:=by
 obtain ⟨n,t,v,k,o,b,a,x,l,aL,cL⟩:=r;simp only at hk;subst hk;exact qcr n t v o b.v a.v x l
theorem qew (n t v o:Int) (b a:qO) (x:Int) (l:List qM):((inB n 1 1000000 && (jX n t v && vG ⟨n,t,v,5,0,XZ,XZ,0,[]⟩ ⟨n,t,v,5,o,b,a,x,l⟩))=true) ↔ xx ⟨n,t,v,5,o,b,a,x,l⟩=true:=by
 exact Gx
theorem qex (r:ql) (hk:r.kind=5):((inB r.lsn 1 1000000 && (jX r.lsn r.tx r.prev && vG (ql.v (xK r.lsn r.tx r.prev 5)) r.v))=true) ↔ xx r.v=true:=by
 obtain ⟨n,t,v,k,o,b,a,x,l,aL,cL⟩:=r;simp only at hk;subst hk;exact qew n t v o b.v a.v x l
theorem qaM (n t v o:Int) (b a:qO) (x:Int) (l:List qM):((inB n 1 1000000 && (xI n l && vG ⟨n,0,0,6,0,XZ,XZ,0,l⟩ ⟨n,t,v,6,o,b,a,x,l⟩))=true) ↔ xx ⟨n,t,v,6,o,b,a,x,l⟩=true:=by
 have hb:xu b=true→qL b=true:=Qz;have ha:xu a=true→qL a=true:=Qz;simp only [vG,gG,RP,xx,kX,qam,beq_self_eq_true,qfu,Bool.true_or,qf5];generalize xu b=ib at*
 generalize xu a=ia at*
 generalize qL b=sb at*
 generalize qL a=sa at*
 generalize xI n l=L at*
 all_goals cases L<;>cases ib<;>cases ia<;>cases sb<;>cases sa<;>simp [inB] at hb ha ⊢ <;>omega
theorem qaN (r:ql) (hk:r.kind=6):((inB r.lsn 1 1000000 && (xI r.lsn r.txs && vG (ql.v (⟨r.lsn,0,0,6,0,qw,qw,0,r.txs,r.aL,r.cL⟩)) r.v))=true) ↔ xx r.v=true:=by
 obtain ⟨n,t,v,k,o,b,a,x,l,aL,cL⟩:=r;simp only at hk;subst hk;exact qaM n t v o b.v a.v x l
theorem qhn (r:ql):(inB r.lsn 1 1000000 && (yz r.lsn r.v && vG (zh r.lsn r).v r.v))=xx r.v:=by
 rw [Bool.eq_iff_iff];cases k1:(r.kind == 1) with
 | true=>
  have e2:yz r.lsn r.v=(jX r.lsn r.tx r.prev && (inB r.oid 1 31 && (qL r.bf.v && qL r.af.v))):=by simp [yz,ql.v,k1]
  have e3:zh r.lsn r=⟨r.lsn,r.tx,r.prev,1,r.oid,r.bf,r.af,0,[],none,0⟩:=by simp [zh,k1]
  rw [e2,e3];have hk:r.kind=1:=by simpa using k1
  exact qev _ (by simpa using k1)
 | false=>
  cases k2:(r.kind == 2) with
  | true=>
   have e2:yz r.lsn r.v=jX r.lsn r.tx r.prev:=by simp [yz,ql.v,k1,k2]
   have e3:zh r.lsn r=xK r.lsn r.tx r.prev 2:=by simp [zh,k1,k2]
   rw [e2,e3];have hk:r.kind=2:=by simpa using k2
   exact Et _ (by simpa using k2)
  | false=>
   cases k3:(r.kind == 3) with
   | true=>
    have e2:yz r.lsn r.v=jX r.lsn r.tx r.prev:=by simp [yz,ql.v,k1,k2,k3]
    have e3:zh r.lsn r=xK r.lsn r.tx r.prev 3:=by simp [zh,k1,k2,k3]
    rw [e2,e3];have hk:r.kind=3:=by simpa using k3
    exact qaL _ (by simpa using k3)
   | false=>
    cases k4:(r.kind == 4) with
    | true=>
     have e2:yz r.lsn r.v=(jX r.lsn r.tx r.prev && (inB r.oid 1 31 && (qL r.af.v && inB r.next 0 (r.lsn-1)))):=by simp [yz,ql.v,k1,k2,k3,k4]
     have e3:zh r.lsn r=⟨r.lsn,r.tx,r.prev,4,r.oid,qw,r.af,r.next,[],none,0⟩:=by simp [zh,k1,k2,k3,k4]
     rw [e2,e3];have hk:r.kind=4:=by simpa using k4
     exact qcs _ (by simpa using k4)
    | false=>
     cases k5:(r.kind == 5) with
     | true=>
      have e2:yz r.lsn r.v=jX r.lsn r.tx r.prev:=by simp [yz,ql.v,k1,k2,k3,k4,k5]
      have e3:zh r.lsn r=xK r.lsn r.tx r.prev 5:=by simp [zh,k1,k2,k3,k4,k5]
      rw [e2,e3];have hk:r.kind=5:=by simpa using k5
      exact qex _ (by simpa using k5)
     | false=>
      cases k6:(r.kind == 6) with
      | true=>
       have e2:yz r.lsn r.v=xI r.lsn r.txs:=by simp [yz,ql.v,k1,k2,k3,k4,k5,k6]
       have e3:zh r.lsn r=⟨r.lsn,0,0,6,0,qw,qw,0,r.txs,r.aL,r.cL⟩:=by simp [zh,k1,k2,k3,k4,k5,k6]
       rw [e2,e3];have hk:r.kind=6:=by simpa using k6
       exact qaN _ (by simpa using k6)
      | false=>
       have e2:yz r.lsn r.v=false:=by simp [yz,ql.v,k1,k2,k3,k4,k5,k6]
       have e3:xx r.v=false:=by simp [xx,ql.v,k1,k2,k3,k4,k5,k6]
       rw [e2,e3];simp
theorem F7 {P:Prop} (h:P:=by
 go_wp2_with fail;obtain ⟨x0,x1,x2,x3,x4,x5,x6,x7,x8,x9,xO,yA,yE,yQ,yC⟩:=hh
 go_quiet (fail)
 go_wp2;go_ret;exact ⟨qm HR.out.symm,qfI B1 _⟩):P:=h
theorem XT (r:ql) (w:World) (hg:jR w) (hr:r.reads w) (hl:r.short 1099511627776):
  Calls prog 154 #[.agg r.cells.toArray] w fun e w'=>e=.returned (.bool (xx r.v))∧qa w w':=by
 obtain ⟨W,hW,b0,hbW,qD⟩:=qB w r.cells 124;have HZ:Hid (xx r.v=_):=(qhn r).symm;have HX:Hid (∀ u,qa W u→Box u w.heap.size r.cells 124):=fun u hu=>b0.below hu b0.lt
 have C1:=MS r W;have HD:Hid (∀ u,qa w u→Calls _ _ _ _ _):=fun u hu=>Eo r.lsn r u (hg.keep hu) (hr.below hu) hl
 have HM:Hid (∀ u,qa w u→Calls _ _ _ _ _):=fun u hu=>RQ (zh r.lsn r) r u (Ep r.lsn (hr.below hu)) (hr.below hu) (Er r.lsn hl) hl
 generalize xx r.v=R at*
 generalize yz r.lsn r.v=G at*
 generalize vG (zh r.lsn r).v r.v=M at*
 have HN:Hid (∀ u,Calls _ _ _ _ _):=fun u=>qaJ r.lsn r u
 generalize kW r=D at*
 generalize zh r.lsn r=cc at*
 simp only [ql.cells] at*
 have HC:Hid (∀ w',Box w' w.heap.size [.int .i64 r.lsn,.int .i64 r.tx,.int .i64 r.prev,.int .i64 r.kind,.int .i64 r.oid,.bool r.bf.v.has,.int .i64 r.bf.v.o.kind,.slice r.bf.aI r.bf.v.o.ints.length r.bf.cI,.slice r.bf.aR r.bf.v.o.refs.length r.bf.cR,.bool r.af.v.has,.int .i64 r.af.v.o.kind,.slice r.af.aI r.af.v.o.ints.length r.af.cI,.slice r.af.aR r.af.v.o.refs.length r.af.cR,.int .i64 r.next,.slice r.aL r.txs.length r.cL] 124→w'.cell? ⟨w.heap.size,0,none⟩=some (.int .i64 r.lsn)∧w'.cell? ⟨w.heap.size,1,none⟩=some (.int .i64 r.tx)∧w'.cell? ⟨w.heap.size,2,none⟩=some (.int .i64 r.prev)∧w'.cell? ⟨w.heap.size,3,none⟩=some (.int .i64 r.kind)∧w'.cell? ⟨w.heap.size,4,none⟩=some (.int .i64 r.oid)∧w'.cell? ⟨w.heap.size,5,none⟩=some (.bool r.bf.v.has)∧w'.cell? ⟨w.heap.size,6,none⟩=some (.int .i64 r.bf.v.o.kind)∧w'.cell? ⟨w.heap.size,7,none⟩=some (.slice r.bf.aI r.bf.v.o.ints.length r.bf.cI)∧w'.cell? ⟨w.heap.size,8,none⟩=some (.slice r.bf.aR r.bf.v.o.refs.length r.bf.cR)∧w'.cell? ⟨w.heap.size,9,none⟩=some (.bool r.af.v.has)∧w'.cell? ⟨w.heap.size,10,none⟩=some (.int .i64 r.af.v.o.kind)∧w'.cell? ⟨w.heap.size,11,none⟩=some (.slice r.af.aI r.af.v.o.ints.length r.af.cI)∧w'.cell? ⟨w.heap.size,12,none⟩=some (.slice r.af.aR r.af.v.o.refs.length r.af.cR)∧w'.cell? ⟨w.heap.size,13,none⟩=some (.int .i64 r.next)∧w'.cell? ⟨w.heap.size,14,none⟩=some (.slice r.aL r.txs.length r.cL)):=fun w' b=>fifteen b
 obtain ⟨x0,x1,x2,x3,x4,x5,x6,x7,x8,x9,xO,yA,yE,yQ,yC⟩:=HC.out W b0;clear qD b0 hg hr hl;go_enter func154,ntmps154;go_wp2_with fail;rw [hW.out];clear hW;refine C1.mono ?_;clear C1 x0 x1 x2 x3 x4 x5 x6 x7 x8 x9 xO yA yE yQ yC;rintro e w1 ⟨rfl,hb1⟩;have B1:=qf hbW hb1;have hh:=HC.out w1 (HX.out _ hb1);by_cases h1:1≤r.lsn
 case neg=>
  have HR:Hid (R=false):=by rw [Hid,HZ.out];simp [inB];omega
  have hd:decide (1≤r.lsn)=false:=by simp;omega
  clear HZ HD HM HN h1;exact F7
 case pos=>
 by_cases h2:r.lsn≤1000000
 case neg=>
  have HR:Hid (R=false):=by rw [Hid,HZ.out];simp [inB];omega
  have hd:decide (1≤r.lsn)=true:=by simp;omega
  have hd2:decide (r.lsn≤1000000)=false:=by simp;omega
  clear HZ HD HM HN h1 h2;exact F7
 case pos=>
 have h12:inB r.lsn 1 1000000=true:=by simp [inB];omega
 cases G with
 | false=>
  have HR:Hid (R=false):=by rw [Hid,HZ.out];simp
  clear HZ HM HN h12;go_wp2_with fail;refine wU HC (HX.out _ hb1.drew) fun qc=>?_
  iterate 12 refine jv ?_
  refine jc 12 (fun K hK=>?_);go_simp;refine (HD.out _ B1.drew).mono ?_;rintro e u2 ⟨rfl,VQ⟩;have PI:qa W u2:=(hb1.drew).trans (VQ.mono (hb1.drew).size);refine qX hK (HC.out _ (HX.out _ PI)) fun qc=>?_
  clear hK K;try simp only [zz]
  iterate 10 refine jv ?_
  refine qau (by kernel_rfl) ?_ _;go_wp2;go_ret;exact ⟨qm HR.out.symm,qf hbW PI⟩
 | true=>
  have HR:Hid (R=M):=by rw [Hid,HZ.out,h12];simp
  clear HZ h12;go_wp2_with fail;refine wU HC (HX.out _ hb1.drew) fun qc=>?_
  iterate 12 refine jv ?_
  refine jc 12 (fun K hK=>?_);go_simp;refine (HD.out _ B1.drew).mono ?_;rintro e u2 ⟨rfl,VQ⟩;have PI:qa W u2:=(hb1.drew).trans (VQ.mono (hb1.drew).size);refine qX hK (HC.out _ (HX.out _ PI)) fun qc=>?_
  clear hK K;try simp only [zz]
  iterate 5 refine jv ?_
  refine jg 19 ?_;refine jc 18 (fun K hK=>?_);go_simp;refine (HN.out _).mono ?_;rintro e u3 ⟨rfl,qmu⟩;have Eu:qa W u3:=(PI).trans (qmu.mono (PI).size);refine qX hK (HC.out _ (HX.out _ Eu)) fun qc=>?_
  clear hK K;try simp only [zz]
  refine jc 20 (fun K hK=>?_);go_simp;refine (HM.out _ (qf hbW Eu)).mono ?_;rintro e u4 ⟨rfl,qmv⟩;have qho:qa W u4:=(Eu).trans (qmv.mono (Eu).size);refine qX hK (HC.out _ (HX.out _ qho)) fun qc=>?_
  clear hK K;try simp only [zz]
  iterate 2 refine jv ?_
  refine qau (by kernel_rfl) ?_ _;go_wp2;go_ret;exact ⟨qm HR.out.symm,qf hbW qho⟩
end Go.Proofs.YtnfdccldabbobaaGreatDoor
