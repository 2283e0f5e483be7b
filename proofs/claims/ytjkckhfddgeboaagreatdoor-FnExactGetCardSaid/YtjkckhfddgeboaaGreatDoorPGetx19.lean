/- Several texts in one, in their order. -/
import Derived.Test.YtjkckhfddgeboaaGreatDoorPGetx18
import Derived.Test.YtjkckhfddgeboaaGreatDoorPGetx4
import Derived.Test.YtjkckhfddgeboaaGreatDoorPGetx17
import Derived.Test.YtjkckhfddgeboaaGreatDoorPGetx12
import Derived.Test.YtjkckhfddgeboaaGreatDoorPGetx14
import Derived.Test.YtjkckhfddgeboaaGreatDoorPGetx7
import Derived.Test.YtjkckhfddgeboaaGreatDoorPGetx5
import Derived.Test.YtjkckhfddgeboaaGreatDoorPGetx1
set_option maxHeartbeats 8000000
set_option maxRecDepth 100000
namespace Go.Proofs.YtjkckhfddgeboaaGreatDoor
open Go.RowKit
def Jo (e:ji) (o:Nat):jy:=(e.seats.getD (qy e.seats (o / 4:Nat)).toNat qD).ss.getD (o % 4) ⟨false,⟨0,[],[]⟩⟩
theorem xX (s:qf):(Tryz.prog.info? 28).map (·.size)=some s.cells.length:=by show _=some 4;kernel_rfl
theorem X8 {w:World} {C:Nat} (q:qf) (old:List Value) (ho:old.length=4) (bC:Box w C old 28):
  ∃ WF,Hid (w.setCells C 0 q.cells=WF)∧Within C (C+1) w WF∧WF.heap.size=w.heap.size∧Hid (w.there C 0 q.cells.toArray.size)∧Hid ((loadVar 28 ⟨C,0,none⟩).run Tryz.prog WF=.ok (.agg q.cells.toArray) WF)∧Box WF C q.cells 28:=by
 obtain ⟨WF,qF,bF,hwF,qN⟩:=jb [] old q.cells [] (by simpa using bC) (by rw [ho];rfl);have Jp:Box WF C q.cells 28:=by simpa using bF
 exact ⟨WF,qF,hwF,qN,bC.there 0 _ (by rw [ho];show 0+4≤4;decide),run_loadVar_mid (P:=Tryz.prog) WF C 0 28 q.cells _ (Box.range [] q.cells [] (by simpa using Jp)) Tryz.underlying28 rfl (xX q),Jp⟩
theorem zM (x:qf):x.cells.toArray.all (·.oneCell')=true:=all_oneCell_toArray (fun v hv=>by
 simp only [qf.cells,List.mem_cons,List.not_mem_nil,or_false] at hv;rcases hv with rfl | rfl | rfl | rfl<;>rfl)
theorem Aq (ls:List qf) (k:Nat):(ls.map (·.v)).getD k ⟨false,⟨0,[],[]⟩⟩=(ls.getD k qh).v:=by
 simp only [List.getD,List.getElem?_map];cases ls[k]? <;>rfl
theorem sP (M:Nat) (m:Int) (E:Nat) (e:qa) (o:Nat) (w:World) (h:Qk M m w E e) (hg:kK w) (hp:e.v.QD) (hls:e.qB.short 1048576) (Ya:e.log.sure≤e.log.recs.length) (h32:o<32) (HK:∃ k:Nat,k<(jv e.v (o / 4)).seats.length∧qy (jv e.v (o / 4)).seats (o / 4:Nat)=k) (Gc:Hid (∀ t:qa,t.v=jv e.v (o / 4)→t.short 1048576)):
  Calls Tryz.prog 133 #[.pointer (some ⟨E,0,none⟩),.int .i64 o] w fun r w'=>∃ x:qf,r=.returned (.agg x.cells.toArray)∧Hid (x.v=Jo (jv e.v (o / 4)) o)∧∃ (e':qa) (b:Nat),Hid (e'.v=jv e.v (o / 4))∧Hid (e'.log.recs=e.log.recs)∧x.own w' b w'.heap.size∧Hid (∀ k∈e'.blocks,k<b)∧w.heap.size≤b∧ym M m E e w e' w':=by
 obtain ⟨W,hW,bR,hbW,qp⟩:=qx w qh.cells 28;have hW':Hid (w.alloc (.cells #[.bool false,.int .i64 0,.slice none 0 0,.slice none 0 0] 28)=W):=hW.out;have a1:=h.below hbW;have hoff:Off E e w.heap.size:=h.new (Nat.le_refl _);have hws:w.heap.size<W.heap.size:=by omega
 have C:Calls Tryz.prog 233 #[.pointer (some ⟨E,0,none⟩),.int .i64 ((o:Int) / 4)] W fun r w'=>∃ q:qw,r=.returned (.agg q.cells.toArray)∧q.ss.length=4∧∃ e':qa,Hid (e'.v=jv e.v (o / 4))∧Hid (e'.log.recs=e.log.recs)∧bO e' (o / 4) q∧ym M m E e W e' w':=by
  rw [show (o:Int) / 4=((o / 4:Nat):Int) from by omega];exact ME M m E e (o / 4) W a1 (hg.keep hbW) hp hls Ya (by omega) HK Gc
 have HN:Hid (w.heap.size<W.heap.size∧Below w.heap.size w W):=⟨hws,hbW⟩;clear qp hW hg HK h hbW hws;go_enter Tryz.func133,Tryz.ntmps133;go_upto_region 1 with fail;rw [hW'.out];clear hW';have qfk:(o:Int)≤31:=by omega
 have ho0:(0:Int)≤(o:Int):=by omega
 go_wp2_with fail;refine C.mono ?_;clear C;rintro r w1 ⟨q,rfl,hq4,e',hv,hl,⟨k,hk,hsk,hqk⟩,st⟩;have Vv:=st.boxes bR hoff;have O4:=st.off HN.out.1 hoff;have z1:=st.size;obtain ⟨j,hj⟩:∃ j:Nat,Hid (o % 4=j):=⟨_,rfl⟩;have Gd:j<4:=by have:=hj.out;omega
 have ll:Hid ((o:Int) % 4=(j:Int)):=by have:=hj.out;rw [Hid];omega
 obtain ⟨z,hz⟩:∃ z,Hid (q.ss.getD j qh=z):=⟨_,rfl⟩;have hmz:z∈(e'.seats.getD k qc).ss:=by
  have h1:q.ss=(e'.seats.getD k qc).ss:=by rw [hqk.out];rfl
  have h2:j<q.ss.length:=by omega
  rw [← h1,← hz.out];simp [List.getD,h2]
 have hzr:z.reads w1:=(qG.reads (st.at'.own.pool.each _ (xE _ k hk))) z hmz;have hsh:=(Gc.out e' hv.out).pool.each _ (xE e'.seats k hk) z hmz;have Y0:Hid (z.v=Jo (jv e.v (o / 4)) o):=by
  rw [Hid,Jo,← hv.out,hsk.out,Int.toNat_natCast];have e1:e'.v.seats=e'.seats.map qb.v:=rfl;rw [e1,jZ,hj.out];have e2:(e'.seats.getD k qc).v.ss=(e'.seats.getD k qc).ss.map (·.v):=rfl;have h1:q.ss=(e'.seats.getD k qc).ss:=by rw [hqk.out];rfl
  rw [e2,Aq,← h1,hz.out]
 have C:=Jj z w1 hzr (Nat.le_trans hsh.1 (by decide)) (Nat.le_trans hsh.2 (by decide));have HL1:Hid (∀ i∈e'.blocks,i<w1.heap.size):=fun i hi=>st.at'.lt i hi
 have ej:=ll.out;clear bR hmz hzr hsh hqk hsk hk Gc hp hls Ya;go_wp2_with (first | (guard_target=wpList _ _ _ (Oper.mk (some 9) _ _ _ _ _::_) _ _;refine MF (.tmp 8) q hq4 rfl ?_) | (guard_target=wpList _ _ _ (Oper.mk (some 12) _ _ _ _ _::_) _ _;refine PR (.tmp 9) (.tmp 11) q.ss hq4 j Gd z hz.out rfl (by show Value.int .i64 ((o:Int) % 4)=_;rw [ej]) ?_) | fail);refine C.mono ?_;clear C;rintro r w2 ⟨x,rfl,hx,ox,hb2⟩;have st2:=st.below hb2;have Vw:=Vv.below hb2 Vv.lt;have z2:=hb2.size;obtain ⟨WF,qF,hwF,qN,kz,yG,bF⟩:=X8 x _ rfl Vw;have hws:w.heap.size<W.heap.size:=HN.out.1;have HX:Hid (x.own WF w1.heap.size WF.heap.size):=(OwnO.within ox hwF (.inr (by omega))).widen (Nat.le_refl _) (by omega) (Nat.le_refl _);have HS:Hid (ym M m E e w e' WF):=(q8.after HN.out.2 st2).sQ hwF O4 (Nat.le_refl _);have FP:Hid (x.v=Jo (jv e.v (o / 4)) o):=by rw [Hid,hx.out,Y0.out]
 have MG:=xX x;have bQ:=zM x;clear st st2 Vv Vw hwF qN bF ox hb2 hx hz;go_wp2_with (first | (guard_target=wpList _ _ _ (Oper.mk none (Op.store _ (Operand.tmp 4) _) _ _ _ _::_) _ _;refine wpList_store_mid rfl 28 (.tmp 4) (.tmp 13) rfl w.heap.size 0 x.cells.toArray rfl rfl kz.out (by rw [List.size_toArray];exact MG) bQ ?_) | fail);rw [qF.out];exact bodyPost_ret (v:=.agg x.cells.toArray) (jk Tryz.results133 rfl yG.out) rfl ⟨x,rfl,FP,e',w1.heap.size,hv,hl,HX.out,HL1,by omega,HS.out⟩
theorem MH (no:Int) (ss:List jc) (k:Nat) (h:∃ s∈ss,s.no=no):jJ no ss k≠ -1:=by
 induction ss generalizing k with
 | nil=>obtain ⟨s,hs,_⟩:=h;cases hs
 | cons s r ih=>
  rw [jJ];by_cases hq:s.no=no
  ·rw [if_pos hq];omega
  ·rw [if_neg hq];refine ih _ ?_;obtain ⟨x,hx,he⟩:=h;rcases List.mem_cons.1 hx with rfl | hx
   ·exact absurd he hq
   ·exact ⟨x,hx,he⟩
theorem WZ {ss:List jc} {no:Int} (h:∃ s∈ss,s.no=no):∃ k:Nat,qy ss no=k∧k<ss.length∧(ss.getD k qD).no=no:=by
 rcases QR ss no with h1 | h1
 ·exact absurd h1 (MH no ss 0 h)
 ·exact h1
theorem FQ (ss:List jc) (h:Nat) (new:jc) (hl:ss.length≤3) (hh:h<3):new∈(jX ss h new).1:=by
 unfold jX;split
 ·simp
 ·next hn=>
  have hk:=(QE 4 ss h hh).2;have hlen:=KY 4 ss h;exact List.mem_iff_getElem.2 ⟨(qL 4 ss h).2.2,by rw [List.length_set];omega,by simp⟩
theorem Gf (ss:List jc) (h:Nat) (new:jc):∀ s∈(jX ss h new).1,s=new∨∃ s0∈ss,s.no=s0.no∧s.ss=s0.ss:=by
 unfold jX;split
 ·intro s hs;rcases List.mem_append.1 hs with hs | hs
  ·exact .inr ⟨s,hs,rfl,rfl⟩
  ·exact .inl (List.mem_singleton.1 hs)
 ·intro s hs;rcases List.mem_or_eq_of_mem_set hs with hs | hs
  ·obtain ⟨s0,h0,e1,e2,_,_⟩:=gm 4 ss h s hs;exact .inr ⟨s0,h0,e1,e2⟩
  ·exact .inl hs
theorem sS (ss:List jc) (h:Nat) (new:jc) (hh:h<3):(jX ss h new).2.1<3:=by
 unfold jX;split
 ·exact hh
 ·exact (QE 4 ss h hh).1
theorem gp (e:ji) (hp:e.QD) (n:Nat):∃ k:Nat,(jF e n).2=k∧k<(jF e n).1.seats.length∧((jF e n).1.seats.getD k qD).no=n:=by
 rcases QR e.seats n with hs | ⟨k,hs,hk,hno⟩
 ·rw [jF,if_neg (by rw [hs];omega)];obtain ⟨h,hh,h3⟩:=hp.hand;have hin:∃ s∈(jX e.seats e.hand.toNat ⟨n,(e.disk.getD n (0,[])).1,(e.disk.getD n (0,[])).2,false,true⟩).1,s.no=(n:Int):=
   ⟨_,FQ _ _ _ hp.len (by rw [hh];simpa using h3),rfl⟩
  simp only;split
  ·exact WZ hin
  ·exact WZ hin
 ·rw [jF,hs,if_pos (by omega),Int.toNat_natCast];refine ⟨k,rfl,by rw [List.length_set];exact hk,?_⟩;simp only [List.getD,List.getElem?_set_self hk,Option.getD_some];rw [← List.getD_eq_getElem?_getD];exact hno
theorem ai (e:ji) (hp:e.QD) (n:Nat) (h8:n<8):(jF e n).1.QD:=by
 obtain ⟨h,hh,h3⟩:=hp.hand;rcases QR e.seats n with hs | ⟨k,hs,hk,hno⟩
 ·rw [jF,if_neg (by rw [hs];omega)];have hd:n<e.disk.length:=by rw [hp.eight];exact h8
  have hdm:e.disk.getD n (0,[])∈e.disk:=by simp only [List.getD,List.getElem?_eq_getElem hd,Option.getD_some];exact List.getElem_mem hd
  have sU:∀ s∈(jX e.seats e.hand.toNat ⟨n,(e.disk.getD n (0,[])).1,(e.disk.getD n (0,[])).2,false,true⟩).1,(∃ m:Nat,s.no=m∧m<8)∧sW s.ss:=fun s hs1=>by
   rcases Gf _ _ _ s hs1 with h1 | ⟨s0,h0,e1,e2⟩
   ·rw [h1];exact ⟨⟨n,rfl,h8⟩,hp.fitD _ hdm⟩
   ·rw [e1,e2];exact ⟨hp.nos s0 h0,hp.fitS s0 h0⟩
  have hlen:=Yb e.seats e.hand.toNat ⟨n,(e.disk.getD n (0,[])).1,(e.disk.getD n (0,[])).2,false,true⟩ hp.len;have hhd:=sS e.seats e.hand.toNat ⟨n,(e.disk.getD n (0,[])).1,(e.disk.getD n (0,[])).2,false,true⟩ (by rw [hh];simpa using h3);have hold:=fun hw=>Kn e.seats e.hand.toNat ⟨n,(e.disk.getD n (0,[])).1,(e.disk.getD n (0,[])).2,false,true⟩ hw (by rw [hh];simpa using h3)
  simp only;split
  ·next hw=>
   obtain ⟨s0,h0,e1,e2⟩:=hold hw.1;refine ⟨hlen,⟨_,rfl,hhd⟩,fun s hs1=>(sU s hs1).1,fun s hs1=>(sU s hs1).2,?_,fun p hp1=>?_⟩
   ·simp only [zg,List.length_set];exact hp.eight
   ·simp only [zg] at hp1;rcases List.mem_or_eq_of_mem_set hp1 with h1 | h1
    ·exact hp.fitD p h1
    ·rw [h1];simp only;rw [e2];exact hp.fitS s0 h0
  ·exact ⟨hlen,⟨_,rfl,hhd⟩,fun s hs1=>(sU s hs1).1,fun s hs1=>(sU s hs1).2,hp.eight,hp.fitD⟩
 ·rw [jF,hs,if_pos (by omega),Int.toNat_natCast];have hkm:e.seats.getD k qD∈e.seats:=by simp only [List.getD,List.getElem?_eq_getElem hk,Option.getD_some];exact List.getElem_mem hk
  refine ⟨by rw [List.length_set];exact hp.len,⟨h,hh,h3⟩,fun s hs1=>?_,fun s hs1=>?_,hp.eight,hp.fitD⟩
  ·rcases List.mem_or_eq_of_mem_set hs1 with h1 | h1
   ·exact hp.nos s h1
   ·rw [h1];have:=hp.nos _ hkm;exact this
  ·rcases List.mem_or_eq_of_mem_set hs1 with h1 | h1
   ·exact hp.fitS s h1
   ·rw [h1];have:=hp.fitS _ hkm;exact this
theorem gq (e:ji) (n:Nat):(jF e n).1.txs=e.txs∧(jF e n).1.holds=e.holds∧(jF e n).1.log.recs=e.log.recs∧(jF e n).1.next=e.next:=by
 unfold jF;split
 ·exact ⟨rfl,rfl,rfl,rfl⟩
 ·simp only;split<;>exact ⟨rfl,rfl,rfl,rfl⟩
theorem pq (ss:List jc):∀ (ts:List jc) (no:Int) (b:Nat),ss.map (·.no)=ts.map (·.no)→jJ no ss b=jJ no ts b:=by
 induction ss with
 | nil=>intro ts no b h;cases ts with
  | nil=>rfl
  | cons t r=>simp at h
 | cons s r ih=>
  intro ts no b h;cases ts with
  | nil=>simp at h
  | cons t q=>
   simp only [List.map_cons,List.cons.injEq] at h;rw [jJ,jJ,h.1,ih q no (b+1) h.2]
theorem MI {ss ts:List jc} (no:Int) (h:ss.map (·.no)=ts.map (·.no)):qy ss no=qy ts no:=pq ss ts no 0 h
theorem tC (ss:List jc) (k:Nat) (x:jc) (h:x.no=(ss.getD k qD).no):(ss.set k x).map (·.no)=ss.map (·.no):=by
 induction ss generalizing k with
 | nil=>rfl
 | cons s r ih=>
  cases k with
  | zero=>simp only [List.set_cons_zero,List.map_cons,List.getD_cons_zero] at h ⊢;rw [h]
  | succ k=>simp only [List.set_cons_succ,List.map_cons,List.getD_cons_succ] at h ⊢;rw [ih k h]
theorem tH {d:List (Int × List jy)} {k:Nat} {q:Int × List jy} {m:Nat} (h:∀ p∈d,∀ x∈p.2,x.o.ints.length≤m∧x.o.refs.length≤m) (hq:∀ x∈q.2,x.o.ints.length≤m∧x.o.refs.length≤m):∀ p∈d.set k q,∀ x∈p.2,x.o.ints.length≤m∧x.o.refs.length≤m:=fun p hp=>(List.mem_or_eq_of_mem_set hp).elim (h p) (fun e=>by rw [e];exact hq)
theorem Vx {t:qa} {m:Nat} (hd:∀ p∈t.v.disk,∀ x∈p.2,x.o.ints.length≤m∧x.o.refs.length≤m) (hs:t.v.seats.length≤m) (hp:∀ s∈t.v.seats,∀ x∈s.ss,x.o.ints.length≤m∧x.o.refs.length≤m) (hl:t.log.short m) (ht:t.txs.length≤m) (hh:t.holds.length≤m):t.short m:=by
 refine ⟨fun p hp' x hx=>hd _ (List.mem_map.2 ⟨p,hp',rfl⟩) x.v (List.mem_map.2 ⟨x,hx,rfl⟩),⟨by show t.seats.length≤m;simpa [qa.v] using hs,fun s hs' x hx=>hp s.v (List.mem_map.2 ⟨s,hs',rfl⟩) x.v ?_⟩,hl,ht,hh⟩;exact List.mem_map.2 ⟨x,hx,rfl⟩
theorem Zp {e:qa} {m:Nat} (h:e.short m):∀ p∈e.v.disk,∀ x∈p.2,x.o.ints.length≤m∧x.o.refs.length≤m:=fun p hp x hx=>by
 obtain ⟨q,hq,rfl⟩:=List.mem_map.1 hp;obtain ⟨y,hy,rfl⟩:=List.mem_map.1 hx;exact h.disk q hq y hy
theorem Xp {e:qa} {m:Nat} (h:e.short m):∀ s∈e.v.seats,∀ x∈s.ss,x.o.ints.length≤m∧x.o.refs.length≤m:=fun s hs x hx=>by
 obtain ⟨q,hq,rfl⟩:=List.mem_map.1 hs;obtain ⟨y,hy,rfl⟩:=List.mem_map.1 hx;exact h.pool.each q hq y hy
theorem PS {e:ji} (h:jA e=true):jg e.wF=true:=by
 unfold jA at h;simp only [Bool.and_eq_true] at h;exact h.2.1
theorem tJ {e:ji} (h:jA e=true) {n:Nat} (h8:n<8):ze (e.disk.getD n (0,[])).1 (e.disk.getD n (0,[])).2=true∨¬ n<e.disk.length:=by
 unfold jA yP at h;simp only [Bool.and_eq_true] at h;have h1:=gu h.2.2.2.2.2.1 n h8;unfold zJ at h1;simp only [Bool.and_eq_true] at h1;by_cases hn:n<e.disk.length
 ·refine .inl ?_;have e1:e.disk.getD n pz=e.disk.getD n (0,[]):=by simp [List.getD,hn]
  rw [← e1];exact h1.1
 ·exact .inr hn
theorem Zq {e:ji} (h:jA e=true) (hd:e.disk.length=8) {n:Nat} (h8:n<8):jF e n=(jv e n,qy (jv e n).seats n):=by
 have hp:=PS h;have Y1:ze (e.disk.getD n (0,[])).1 (e.disk.getD n (0,[])).2=true:=(tJ h h8).resolve_right (fun q=>q (by omega));unfold jF jv;by_cases hs:0≤qy e.seats n
 ·rw [if_pos hs,if_pos hs];have hu:wy e.wF n=Xq e.wF (qy e.seats n).toNat Mf:=by
   unfold wy;rw [if_pos (show 0≤qy e.wF.seats n from hs)];rfl
  rw [hu];unfold Xq;refine Prod.ext rfl ?_;show qy e.seats n=qy (e.seats.set _ _) n;exact MI (n:Int) (tC e.seats (qy e.seats n).toNat (Mf (e.seats.getD (qy e.seats n).toNat qD)) rfl).symm
 ·rw [if_neg hs,if_neg hs];have hm:xw e.wF n (e.disk.getD n (0,[])).1 (e.disk.getD n (0,[])).2=true:=MJ hp (by simp only [inB,decide_eq_true_eq];omega) Y1 (by show qy e.seats n<0;omega);unfold Jq vv;rw [if_pos hm];show (_,_)=(_,_);have e1:e.wF.seats=e.seats:=rfl;have e2:e.wF.hand=e.hand:=rfl;rw [e1,e2];obtain ⟨us,hh,old,went,hb⟩:∃ us hh old went,jX e.seats e.hand.toNat ⟨n,(e.disk.getD n (0,[])).1,(e.disk.getD n (0,[])).2,false,true⟩=(us,hh,old,went):=⟨_,_,_,_,rfl⟩;have hw:went=false→old.dirty=false:=fun q=>by
   subst q;unfold jX at hb;split at hb
   ·have:=congrArg (fun x=>x.2.2.1) hb;simp only at this;rw [← this];rfl
   ·have:=congrArg (fun x=>x.2.2.2) hb;simp at this
  simp only [hb];cases went with
  | false=>simp only [hw rfl];simp
  | true=>simp
theorem PT {t e:qa} {n:Nat} (h:t.v=(jF e.v n).1) (hp:e.v.QD) (he:e.short 1048576):t.short 1048576:=by
 obtain ⟨m,hm⟩:∃ m:Nat,Hid ((1048576:Nat)=m):=⟨1048576,rfl⟩;have hm3:3≤m:=by have:=hm.out;omega
 rw [hm.out] at he ⊢;clear hm;have hzs:∀ k,∀ x∈(e.v.seats.getD k qD).ss,x.o.ints.length≤m∧x.o.refs.length≤m:=fun k x hx=>by
  rw [List.getD] at hx;cases hg:e.v.seats[k]? with
  | none=>
   rw [hg] at hx;simp only [Option.getD_none,qD] at hx;simp [qc,qb.v,qb.ss,qh] at hx;rw [hx];exact ⟨Nat.zero_le _,Nat.zero_le _⟩
  | some s=>rw [hg] at hx;exact Xp he s (List.mem_of_getElem? hg) x hx
 have hzd:∀ x∈(e.v.disk.getD n (0,[])).2,x.o.ints.length≤m∧x.o.refs.length≤m:=fun x hx=>by
  rw [List.getD] at hx;cases hg:e.v.disk[n]? with
  | none=>rw [hg] at hx;simp at hx
  | some p=>rw [hg] at hx;exact Zp he p (List.mem_of_getElem? hg) x hx
 obtain ⟨r1,r2,r3,r4⟩:=gq e.v n;have q4:t.v.log.recs=e.v.log.recs:=by rw [h];exact r3
 have q5:t.txs=e.txs:=by have:=congrArg ji.txs h;rw [r1] at this;exact this
 have q6:t.holds=e.holds:=by have:=congrArg ji.holds h;rw [r2] at this;exact this
 have hr:t.log.recs.map qg.v=e.log.recs.map qg.v:=q4;have bU:t.log.short m:=⟨by rw [Xr hr];exact he.log.len,MK hr (fun r=>r.short m) (fun a b e hb=>Go.Proofs.YtjkckhfddgeboaaGreatDoor.yC e hb) he.log.each⟩;have hsl:e.v.seats.length≤m:=by have h5:e.seats.length≤m:=he.pool.len;simpa [qa.v] using h5
 unfold jF at h;by_cases hs:0≤qy e.v.seats n
 ·rw [if_pos hs] at h;have q1:t.v.disk=e.v.disk:=(congrArg ji.disk h).trans rfl;have q2:t.v.seats=e.v.seats.set (qy e.v.seats n).toNat (aj (e.v.seats.getD (qy e.v.seats n).toNat qD)):=congrArg ji.seats h;refine Vx (by rw [q1];exact Zp he) (by rw [q2,List.length_set];exact hsl) (by
   rw [q2];intro s hs';rcases List.mem_or_eq_of_mem_set hs' with q | q
   ·exact Xp he s q
   ·rw [q];exact hzs _) bU (by rw [q5];exact he.txs) (by rw [q6];exact he.holds)
 ·rw [if_neg hs] at h;obtain ⟨hd,hhd,Gg⟩:=hp.hand;have hh:e.v.hand.toNat=hd:=by rw [hhd];rfl
  rw [hh] at h;obtain ⟨us,hh',old,went,hb⟩:∃ us hh old went,jX e.v.seats hd ⟨n,(e.v.disk.getD n (0,[])).1,(e.v.disk.getD n (0,[])).2,false,true⟩=(us,hh,old,went):=⟨_,_,_,_,rfl⟩;have hmem:=Gf e.v.seats hd ⟨n,(e.v.disk.getD n (0,[])).1,(e.v.disk.getD n (0,[])).2,false,true⟩;have hl3:us.length≤3:=by
   have:=Yb e.v.seats hd ⟨n,(e.v.disk.getD n (0,[])).1,(e.v.disk.getD n (0,[])).2,false,true⟩ hp.len;rw [hb] at this;exact this
  have FR:∀ s∈us,∀ x∈s.ss,x.o.ints.length≤m∧x.o.refs.length≤m:=fun s hs' x hx=>by
   rw [hb] at hmem;rcases hmem s hs' with q | ⟨s0,h0,_,q⟩
   ·rw [q] at hx;exact hzd x hx
   ·rw [q] at hx;exact Xp he s0 h0 x hx
  have hold:went=true→∀ x∈old.ss,x.o.ints.length≤m∧x.o.refs.length≤m:=fun q x hx=>by
   have g1:=Kn e.v.seats hd ⟨n,(e.v.disk.getD n (0,[])).1,(e.v.disk.getD n (0,[])).2,false,true⟩ (by rw [hb];exact q) Gg;rw [hb] at g1;obtain ⟨s0,h0,_,g2⟩:=g1;have g3:old.ss=s0.ss:=g2;rw [g3] at hx;exact Xp he s0 h0 x hx
  rw [hb] at h;simp only at h;by_cases hw:went=true∧old.dirty=true
  ·rw [if_pos hw] at h;have q1:t.v.disk=e.v.disk.set old.no.toNat (old.lsn,old.ss):=congrArg ji.disk h;have q2:t.v.seats=us:=congrArg ji.seats h;exact Vx (by rw [q1];exact tH (Zp he) (hold hw.1)) (by rw [q2];omega) (by rw [q2];exact FR) bU (by rw [q5];exact he.txs) (by rw [q6];exact he.holds)
  ·rw [if_neg hw] at h;have q1:t.v.disk=e.v.disk:=(congrArg ji.disk h).trans rfl;have q2:t.v.seats=us:=congrArg ji.seats h;exact Vx (by rw [q1];exact Zp he) (by rw [q2];omega) (by rw [q2];exact FR) bU (by rw [q5];exact he.txs) (by rw [q6];exact he.holds)
theorem Uw {e:qa} (se:e.shape) (h:jA e.v=true) (he:e.short 1048576) {n:Nat} (h8:n<8):(∃ k:Nat,k<(jv e.v n).seats.length∧qy (jv e.v n).seats n=k)∧Hid (∀ t:qa,t.v=jv e.v n→t.short 1048576):=by
 have hp:=Zr se h he;have hs:=Zq h (by show (e.disk.map _).length=8;rw [List.length_map];exact se.eight) h8;obtain ⟨k,h1,h2,_⟩:=gp e.v hp n;rw [hs] at h1 h2;exact ⟨⟨k,h2,h1⟩,fun t ht=>PT (by rw [hs];exact ht) hp he⟩
theorem ui {P:Program} {fn:Func} {s t u:Nat} {ty tz:TypeId} {tmps:Array Value} {w:World} {v x b:Value} {ad ae:Addr} (hf:fn.results=#[.cell s ty,.cell t tz,.tmp u]) (ht:tmps[s]?.getD undef=.pointer (some ad)) (hu:tmps[t]?.getD undef=.pointer (some ae)) (hl:(loadVar ty ad).run P w=.ok v w) (hm:(loadVar tz ae).run P w=.ok x w) (hb:tmps[u]?.getD undef=b):(results fn tmps).run P w=.ok (.tuple #[v,x,b]) w:=by
 unfold results;rw [hf];simp [ht,hu,hb,asAddr,hl,hm]
def bY (x:ji × jy × Int) (w:World) (r:Ending) (w':World):Prop:=∃ (t:qa) (y:qf),r=.returned (.tuple #[.agg t.cells.toArray,.agg y.cells.toArray,.int .i64 x.2.2])∧t.shape∧Hid (t.v=x.1)∧Hid (y.v=x.2.1)∧t.own w' w.heap.size w'.heap.size∧y.own w' w.heap.size w'.heap.size∧Hid (∀ k∈y.blocks,k∉t.blocks)∧Below w.heap.size w w'
def xA (e:ji) (oid:Int):ji × jy × Int:=if jS e (inB oid 1 31)≠0 then (e,qh.v,jS e (inB oid 1 31)) else (jv e (oid.toNat / 4),Jo (jv e (oid.toNat / 4)) oid.toNat,0)
theorem tK (w:World):(Instr.build 28 #[]).run Tryz.prog w=.ok (.agg qh.cells.toArray) w:=run_build w _ _ _ (by kernel_rfl)
theorem QF {w:World} {ops:Array Oper} {rest:List Oper} {dst:Option Nat} {ty:TypeId} {pos:String} {KN:Array Edge} {act:Act} {Q:Exit→Act→World→Prop}
  (h:wpList Tryz.prog ops Q rest (act.put dst (.agg qh.cells.toArray)) w):
  wpList Tryz.prog ops Q ({ dst:=dst,op:=.build 28 #[],type:=ty,pos:=pos,after:=KN,guard:=none }::rest) act w:=by
 refine wpList_plain rfl fun K hK=>?_
 unfold Oper.wp execOp;simp only [List.map_toArray,List.map_nil];simp only [Sem.run_bind,tK w,Result.andThen_ok,Sem.run_pure];exact hK _ _ h
theorem cu {w W u:World} {Z D:qa} {y:qf} {b:Nat} (sZ:Z.shape) (sD:D.shape) (hbW:Below w.heap.size w W) (hw0:w.heap.size+2<W.heap.size) (hu:Below W.heap.size W u) (bR:Box u (w.heap.size+1) Z.cells 42) (bS:Box u (w.heap.size+2) qh.cells 28) (od:D.own u W.heap.size u.heap.size) (oy:y.own u b u.heap.size) (hb:W.heap.size≤b):
  ∃ W1 WF,Hid (u.setCells (w.heap.size+1) 0 D.cells.toArray.toList=W1)∧Hid (u.there (w.heap.size+1) 0 D.cells.toArray.size)∧Hid (W1.setCells (w.heap.size+2) 0 y.cells.toArray.toList=WF)∧Hid (W1.there (w.heap.size+2) 0 y.cells.toArray.size)∧Hid ((loadVar 42 ⟨w.heap.size+1,0,none⟩).run Tryz.prog WF=.ok (.agg D.cells.toArray) WF)∧Hid ((loadVar 28 ⟨w.heap.size+2,0,none⟩).run Tryz.prog WF=.ok (.agg y.cells.toArray) WF)∧Within (w.heap.size+1) (w.heap.size+3) u WF∧Within (w.heap.size+1) (w.heap.size+3) u W1∧Hid (D.own WF w.heap.size WF.heap.size∧y.own WF w.heap.size WF.heap.size∧Below w.heap.size w WF):=by
 obtain ⟨W1,hW1,hw1,hs1,HT1,b1⟩:=Qj sD sZ bR;obtain ⟨WF,qF,hwF,qN,kz,yG,bF⟩:=X8 y _ rfl (bS.within hw1 (by omega));have hz:=hu.size;have w1:Within (w.heap.size+1) (w.heap.size+3) u W1:=⟨hw1.os,hw1.tape,hw1.output,hw1.size,fun k hk hn=>hw1.block k hk (by omega)⟩;have w2:Within (w.heap.size+1) (w.heap.size+3) u WF:=⟨hwF.os.trans hw1.os,hwF.tape.trans hw1.tape,hwF.output.trans hw1.output,Nat.le_trans hw1.size hwF.size,fun k hk hn=>(hwF.block k (Nat.lt_of_lt_of_le hk hw1.size) (by omega)).trans (hw1.block k hk (by omega))⟩;have bE:=b1.within hwF (by omega);have oy':y.own WF b WF.heap.size:=(OwnO.within oy w2 (.inr (by omega))).widen (Nat.le_refl _) (by omega) (Nat.le_refl _);exact ⟨W1,WF,hW1,HT1,qF,kz,Xn sD bE,yG,w2,w1,(od.within w2 (.inr (by omega))).widen (by omega) (by omega) (Nat.le_refl _),oy'.widen (by omega) (Nat.le_refl _) (Nat.le_refl _),hbW.trans ((hu.mono (by omega)).trans (w2.below (by omega) (by omega)))⟩
theorem Ux (e:qa) (oid:Int) (se:e.shape) (w:World) (hg:kK w) (re:e.reads w) (hl:e.short 1048576) (hc:e.KA):
  Calls Tryz.prog 38 #[.agg e.cells.toArray,.int .i64 oid] w fun r w'=>bY (xA e.v oid) w r w':=by
 obtain ⟨Z,hZ⟩:∃ Z,Hid (zeroE=Z):=⟨_,rfl⟩;have sZ:Z.shape:=by rw [← hZ.out];exact yM
 have HZ:=Tryz.JV;rw [hZ.out] at HZ;obtain ⟨W,hW0,b0,bR,bS,hbW,qp⟩:=yn w e.cells Z.cells qh.cells 42 42 28;have hW:Hid (((w.alloc (.cells e.cells.toArray 42)).alloc (.cells Z.cells.toArray 42)).alloc (.cells #[.bool false,.int .i64 0,.slice none 0 0,.slice none 0 0] 28)=W):=hW0.out;have ML:Box W (w.heap.size+2) qh.cells 28:=bS;have HB:Hid (∀ u,Below W.heap.size W u→Box u w.heap.size e.cells 42):=fun u hu=>b0.below hu b0.lt
 have Yc:Hid (∀ u,Below W.heap.size W u→Box u (w.heap.size+1) Z.cells 42∧Box u (w.heap.size+2) qh.cells 28):=fun u hu=>⟨bR.below hu bR.lt,ML.below hu ML.lt⟩
 have HR:Hid (∀ u,Below W.heap.size W u→e.reads u):=fun u hu=>(re.below hbW).below hu
 have qR:Hid (∀ u,Below W.heap.size W u→Below w.heap.size w u):=fun u hu=>hbW.trans (hu.mono hbW.size)
 have hw0:w.heap.size+2<W.heap.size:=by omega
 have N0:Below W.heap.size W W:=Below.refl _ _;have cz:=kI se;have EB:Hid (Below w.heap.size w W):=hbW;have FIN:Hid (∀ (D:qa) (y:qf) (b:Nat) (u:World),D.shape→Below W.heap.size W u→D.own u W.heap.size u.heap.size→y.own u b u.heap.size→W.heap.size≤b→∃ W1 WF,Hid (u.setCells (w.heap.size+1) 0 D.cells.toArray.toList=W1)∧Hid (u.there (w.heap.size+1) 0 D.cells.toArray.size)∧Hid (W1.setCells (w.heap.size+2) 0 y.cells.toArray.toList=WF)∧Hid (W1.there (w.heap.size+2) 0 y.cells.toArray.size)∧Hid ((loadVar 42 ⟨w.heap.size+1,0,none⟩).run Tryz.prog WF=.ok (.agg D.cells.toArray) WF)∧Hid ((loadVar 28 ⟨w.heap.size+2,0,none⟩).run Tryz.prog WF=.ok (.agg y.cells.toArray) WF)∧Within (w.heap.size+1) (w.heap.size+3) u WF∧Within (w.heap.size+1) (w.heap.size+3) u W1∧Hid (D.own WF w.heap.size WF.heap.size∧y.own WF w.heap.size WF.heap.size∧Below w.heap.size w WF)):=fun D y b u sD hu od oy hb=>cu sZ sD EB.out hw0 hu (Yc.out u hu).1 (Yc.out u hu).2 od oy hb
 have QG:Hid (∀ u b,b≤(u:World).heap.size→qf.own u b u.heap.size qh):=fun u b _=>Xt u b u.heap.size (Nat.le_refl _)
 have HG:Hid (∀ u,Below W.heap.size W u→kK u):=fun u hu=>hg.keep (hbW.trans (hu.mono hbW.size))
 have D0:Below W.heap.size W W.drew:=N0.drew;have wQ:Hid (∀ u,Below W.heap.size W u→u.rangeAt w.heap.size 0 e.cells):=fun u hu=>Box.range [] e.cells [] (by simpa using HB.out _ hu)
 have C0:=Yd oid W.drew;have C:=PU e (inB oid 1 31) se W.drew (HG.out _ D0) (HR.out _ D0) hl;clear b0 bR bS ML qp hW0;go_enter Tryz.func38,Tryz.ntmps38;go_upto_region 1 with (first | (guard_target=wpList _ _ _ (Oper.mk _ (Op.alloc 42) _ _ _ _::_) _ _;refine z8 42 Z.cells HZ ?_) | fail);rw [hW.out];clear hW;refine wp_region_held_drew (S:=fun u=>u.rangeAt w.heap.size 0 e.cells) (by kernel_rfl) (wQ.out _ D0) (fun hHeld=>?_);generalize W.drew=d0 at*
 refine Go.Proofs.YtjkckhfddgeboaaGreatDoor.ts 0 rfl (yieldsIf_load_mid (by rfl) _ _ rfl _ _ rfl (e.cells) _ (fun _ h=>h) Tryz.underlying42 rfl cz) ?_;refine tr 1 (.int .i64 oid) ?_;refine wpAnyH_ready (rs:=[2]) (by kernel_rfl) (by simp) ?_;refine AllReadyH.cons rfl (fun K hK=>?_) AllReadyH.nil;go_simp;refine C0.mono ?_;clear C0;rintro r dd ⟨rfl,rfl⟩;refine hK.out _ _ (wQ.out _ D0) (fun hHeld=>?_);clear hK K;try simp only [zz]
 refine wpAnyH_ready (rs:=[3]) (by kernel_rfl) (by simp) ?_;refine AllReadyH.cons rfl (fun K hK=>?_) AllReadyH.nil;go_simp;refine C.mono ?_;clear C;rintro r d1 ⟨rfl,hb⟩;have N1:Below W.heap.size W d1:=D0.trans (hb.mono D0.size);clear hb;refine hK.out _ _ (wQ.out _ N1) (fun hHeld=>?_);clear hK K;try simp only [zz]
 refine tr 4 (.int .i64 (jS e.v (inB oid 1 31))) ?_;refine wpAnyH_done (by kernel_rfl) ?_ _;clear hHeld;have r1:d1.rangeAt w.heap.size 0 e.cells:=wQ.out _ N1;by_cases hz:jS e.v (inB oid 1 31)=0;rotate_left
 ·have HV:Hid (xA e.v oid=(e.v,qh.v,jS e.v (inB oid 1 31))):=by rw [Hid,xA,if_pos hz]
  have hzb:(jS e.v (inB oid 1 31) == 0)=false:=by simpa using hz
  have C:=YZ e se d1 (HR.out _ N1) hl hc;generalize jS e.v (inB oid 1 31)=RV at*
  go_wp2_with (first | (guard_target=wpList _ _ _ (Oper.mk (some 16) _ _ _ _ _::_) _ _;refine wpList_load_mid rfl 42 (.tmp 2) rfl w.heap.size 0 rfl (e.cells) _ (r1) Tryz.underlying42 rfl cz ?_) | fail);refine C.mono ?_;clear C r1;rintro r d2 ⟨t,rfl,st,hv,ot,hb⟩;have N2:Below W.heap.size W d2:=N1.trans (hb.mono N1.size);obtain ⟨W1,WF,hW1,HT1,qF,kz,KR,Y2,_,_,HE⟩:=FIN.out t qh W.heap.size d2 st N2 (ot.widen (by have:=N1.size;omega) (Nat.le_refl _) (Nat.le_refl _)) (QG.out _ _ N2.size) (Nat.le_refl _);have Ko:=kI st;have MM:=all_oneCell_toArray (JW t);clear hb ot;go_wp2_with (first | (guard_target=wpList _ _ _ (Oper.mk _ (Op.build _ _) _ _ _ _::_) _ _;refine QF ?_) | (guard_target=wpList _ _ _ (Oper.mk none (Op.store _ (Operand.tmp 4) _) _ _ _ _::_) _ _;refine wpList_store_mid rfl 42 (.tmp 4) (.tmp 17) rfl (w.heap.size+1) 0 (t.cells).toArray rfl rfl HT1.out (by rw [List.size_toArray];exact Ko) MM ?_) | (guard_target=wpList _ _ _ (Oper.mk none (Op.store _ (Operand.tmp 5) _) _ _ _ _::_) _ _;refine wpList_store_mid rfl 28 (.tmp 5) (.tmp 18) rfl (w.heap.size+2) 0 (qh.cells).toArray rfl rfl (by rw [hW1.out];exact kz.out) (by rw [List.size_toArray];exact (xX qh)) (zM qh) ?_) | fail);rw [hW1.out,qF.out];exact bodyPost_ret (v:=.tuple #[.agg t.cells.toArray,.agg qh.cells.toArray,.int .i64 RV]) (ui Tryz.results38 rfl rfl KR.out Y2.out rfl) rfl ⟨t,qh,by rw [HV.out],st,by rw [HV.out];exact hv,by rw [HV.out];exact rfl,HE.out.1,HE.out.2.1,fun k hk=>absurd hk (by simp [qf.blocks,qh,Value.ownBlock]),HE.out.2.2⟩
 have hok:=Zt hz;have HCO:Hid (vN (q9 e.holds e.holds.length) e.holds):=PV hok;have jP:Hid (∃ m:Nat,oid=m∧m<32):=by
  have h1:inB oid 1 31=true:=by
   cases hi:inB oid 1 31 with
   | true=>rfl
   | false=>rw [hi] at hz;unfold jS at hz;simp at hz
  have h2:1≤oid∧oid≤31:=by simpa [inB] using h1
  exact ⟨oid.toNat,by omega,by omega⟩
 have HV:Hid (xA e.v oid=(jv e.v (oid.toNat / 4),Jo (jv e.v (oid.toNat / 4)) oid.toNat,0)):=by rw [Hid,xA,if_neg (fun q=>q hz)]
 have yA:Hid (jA e.v=true):=hok;have C:=Ar e se d1 (HR.out _ N1) hl hc;have hlH:=hl.holds;rw [hz];clear hok hz;go_wp2_with (first | (guard_target=wpList _ _ _ (Oper.mk (some 20) _ _ _ _ _::_) _ _;refine wpList_load_mid rfl 42 (.tmp 2) rfl w.heap.size 0 rfl (e.cells) _ (r1) Tryz.underlying42 rfl cz ?_) | fail);refine C.mono ?_;clear C r1;rintro r d2 ⟨t,M,R,rfl,st,hv,ot,hMR,hRl,hM,hm,bRr,hb⟩;have N2:Below W.heap.size W d2:=N1.trans (hb.mono N1.size);have z1:=N1.size;have z2:=hb.size;clear hb;obtain ⟨m,rfl,EC⟩:=jP.out;have hlt:=qa.yC hv.out hl;have Vy:jA t.v=true:=by rw [hv.out];exact yA.out
 have hra:=ak st ot hMR bRr;have au:=Uw st Vy hlt (n:=m / 4) (by omega);have C:=sP M (e.holds.length:Int) R t m d2 hra (HG.out _ N2) (Zr st Vy hlt) hlt.pool (by have:=tL Vy;simpa [qa.v,qz.v] using this) EC au.1 au.2;clear hlt Vy jP au;rw [Int.toNat_natCast] at HV;go_wp2_with fail;refine C.mono ?_;clear C bRr;rintro r d3 ⟨x,rfl,hxv,s,b,hvs,_,ox,hsb,hb2,s3⟩;have z3:=s3.size;obtain ⟨d4,hd4,hb4,bX,hz4⟩:∃ d4,Hid (d3.alloc (.cells #[.bool false,.int .i64 0,.slice none 0 0,.slice none 0 0] 28)=d4)∧Below d3.heap.size d3 d4∧Box d4 d3.heap.size qh.cells 28∧d4.heap.size=d3.heap.size+1:=⟨_,rfl,(Below.refl _ _).alloc (Nat.le_refl _) _,yF d3 qh.cells 28,by simp⟩;obtain ⟨d5,hd5,Kq,hs5,FT,_,b5⟩:=X8 x _ rfl bX;have s5:ym M (e.holds.length:Int) R t d2 s d5:=(s3.below hb4).sQ Kq (s3.at'.new (Nat.le_refl _)) z3;have ox5:x.own d5 b d5.heap.size:=(OwnO.within (ox.below hb4) Kq (.inl (Nat.le_refl _))).widen (Nat.le_refl _) (by omega) (Nat.le_refl _);have ED:∀ k∈x.blocks,b≤k∧k<d3.heap.size:=fun k hk=>qf.ql ox k hk
 have HXL:Hid (∀ k∈x.blocks,b≤k∧k<d3.heap.size):=ED;have C:=fun {u:World} (hu:Below d5.heap.size d5 u)=>G9 W d1 d2 u M R e.holds t s ot hMR hM hm (s5.below hu) HCO.out hlH N2 z1 z2
 have hRd:R<d2.heap.size:=hra.box.lt;have gy:Hid (∀ u,Touch [R] d5 u→u.rangeAt d3.heap.size 0 x.cells):=fun u hu=>Box.range [] x.cells [] (by simpa using b5.touch hu (by simp;omega))
 have MG:=xX x;have bQ:=zM x;clear ot hm s3 ox bX Kq hb4 hra ED s5 b5;go_upto_region 6 with (first | (guard_target=wpList _ _ _ (Oper.mk none (Op.store _ (Operand.tmp 9) _) _ _ _ _::_) _ _;refine wpList_store_mid rfl 28 (.tmp 9) (.tmp 24) rfl d3.heap.size 0 (x.cells).toArray rfl rfl (by rw [hd4.out];exact FT.out) (by rw [List.size_toArray];exact MG) bQ ?_) | fail);rw [hd4.out,hd5.out];clear hd4 hd5 FT;have B0:Below d5.heap.size d5 d5.drew:=(Below.refl _ _).drew;have T0:Touch [R] d5 d5.drew:=Touch.of_below B0;refine wp_region_held_drew (S:=fun u=>u.rangeAt d3.heap.size 0 x.cells) (by kernel_rfl) (gy.out _ T0) (fun hHeld=>?_);refine tr 0 (.pointer (some ⟨R,0,none⟩)) ?_;refine Go.Proofs.YtjkckhfddgeboaaGreatDoor.ts 2 rfl (yieldsIf_load_mid (by rfl) _ _ rfl _ _ rfl (x.cells) _ (fun _ h=>h) Tryz.underlying28 rfl MG) ?_;refine wpAnyH_ready (rs:=[1]) (by kernel_rfl) (by simp) ?_;refine AllReadyH.cons rfl (fun K hK=>?_) AllReadyH.nil;go_simp;refine (C B0).mono ?_;clear C;rintro r d6 ⟨D,rfl,sD,hvD,oD,N6,t6,hnew⟩;have T6:Touch [R] d5 d6:=T0.trans t6;have z6:=T6.size;have ox6:x.own d6 b d6.heap.size:=(qf.touch ox5 T6 (fun k hk hm=>by have:=HXL.out k hk;have:=List.mem_singleton.1 hm;omega)).widen (Nat.le_refl _) z6 (Nat.le_refl _);obtain ⟨W1,WF,hW1,HT1,qF,kz,KR,Y2,EE,Zu,HE⟩:=FIN.out D x b d6 sD N6 oD ox6 (by omega);have EG:Hid (∀ k∈x.blocks,k∉D.blocks):=fun k hk hkD=>by
  have h1:=HXL.out k hk;rcases hnew.out k hkD with h2 | h2
  ·have:=hsb.out k h2;omega
  ·have h3:d5.drew.heap.size=d5.heap.size:=rfl;omega
 have HRW:Hid (∀ u,Within (w.heap.size+1) (w.heap.size+3) d6 u→u.rangeAt d3.heap.size 0 x.cells):=fun u hu j v hv=>by
  have h1:=gy.out _ T6 j v hv;have h2:=hu.block d3.heap.size (block_lt h1) (by omega);unfold World.cell? at*
  rw [h2];exact h1
 refine hK.out _ _ (gy.out _ T6) (fun hHeld=>?_);clear hK K;try simp only [zz]
 have EH:Hid (D.v=(xA e.v (m:Int)).1):=by
  rw [Hid,HV.out,hvD.out,hvs.out,hv.out];show ({ jv e.v (m / 4) with holds:=e.holds }:ji)=jv e.v (m / 4);have e1:(jv e.v (m / 4)).holds=e.holds:=by
   have h1:=Zq yA.out (show e.v.disk.length=8 by show (e.disk.map _).length=8;rw [List.length_map];exact se.eight) (n:=m / 4) (by omega);have h2:=(gq e.v (m / 4)).2.1;rw [h1] at h2;exact h2
  rw [← e1]
 have FP:Hid (x.v=(xA e.v (m:Int)).2.1):=by rw [Hid,HV.out,hxv.out,hv.out]
 have lq:=kI sD;have EI:=all_oneCell_toArray (JW D);clear oD ox5 ox6 T6 T0 B0 t6 hnew hvD hvs hxv;refine wpAnyH_ready (rs:=[3]) (by kernel_rfl) (by simp) ?_;refine AllReadyH.cons rfl (fun K hK=>?_) AllReadyH.nil;rw [if_pos (by rfl)];refine wp_store_mid 42 (.tmp 4) (.tmp 26) rfl (w.heap.size+1) 0 D.cells.toArray rfl rfl HT1.out (by rw [List.size_toArray];exact lq) EI ?_;rw [hW1.out];refine hK.out _ _ (HRW.out _ Zu) (fun hHeld=>?_);clear hK K;try simp only [Act.put,zA,zB,zC]
 refine wpAnyH_ready (rs:=[4]) (by kernel_rfl) (by simp) ?_;refine AllReadyH.cons rfl (fun K hK=>?_) AllReadyH.nil;rw [if_pos (by rfl)];refine wp_store_mid 28 (.tmp 5) (.tmp 27) rfl (w.heap.size+2) 0 x.cells.toArray rfl rfl kz.out (by rw [List.size_toArray];exact MG) bQ ?_;rw [qF.out];refine hK.out _ _ (HRW.out _ EE) (fun hHeld=>?_);clear hK K;try simp only [Act.put,zA,zB,zC]
 refine tr 5 (.int .i64 0) ?_;refine wpAnyH_done (by kernel_rfl) ?_ _;clear hHeld;go_wp2;exact bodyPost_ret (v:=.tuple #[.agg D.cells.toArray,.agg x.cells.toArray,.int .i64 0]) (ui Tryz.results38 rfl rfl KR.out Y2.out rfl) rfl ⟨D,x,by rw [HV.out],sD,EH,FP,HE.out.1,HE.out.2.1,EG,HE.out.2.2⟩
end Go.Proofs.YtjkckhfddgeboaaGreatDoor
namespace Go.Proofs.YtjkckhfddgeboaaGreatDoor
open Go.RowKit
attribute [local go_sem ↓] Go.wp_at_zero Go.wp_at_succ
def qb.slot (s:qb) (j:Nat):qf:=match j with
 | 0=>s.s0
 | 1=>s.s1
 | 2=>s.s2
 | _=>s.s3
theorem MN (s:qb) (j:Nat) (hj:j<4):s.slot j∈s.ss:=by
 match j,hj with
 | 0,_=>simp [qb.slot,qb.ss]
 | 1,_=>simp [qb.slot,qb.ss]
 | 2,_=>simp [qb.slot,qb.ss]
 | 3,_=>simp [qb.slot,qb.ss]
theorem EJ (s:qb) (j:Nat) (hj:j<4):(s.slot j).v=s.v.ss.getD j ⟨false,⟨0,[],[]⟩⟩:=by
 match j,hj with
 | 0,_=>rfl
 | 1,_=>rfl
 | 2,_=>rfl
 | 3,_=>rfl
theorem tN {w:World} {g b:Nat} {s:qb} (h:w.rangeAt g b s.cells) (j:Nat) (hj:j<4):w.rangeAt g (b+1+1+j*4) (s.slot j).cells:=by
 intro i v hv;have hi:i<4:=(List.getElem?_eq_some_iff.1 hv).1;have h1:=h (2+j*4+i) v (by
  match j,hj with
  | 0,_=>match i,hi with
   | 0,_=>exact hv
   | 1,_=>exact hv
   | 2,_=>exact hv
   | 3,_=>exact hv
  | 1,_=>match i,hi with
   | 0,_=>exact hv
   | 1,_=>exact hv
   | 2,_=>exact hv
   | 3,_=>exact hv
  | 2,_=>match i,hi with
   | 0,_=>exact hv
   | 1,_=>exact hv
   | 2,_=>exact hv
   | 3,_=>exact hv
  | 3,_=>match i,hi with
   | 0,_=>exact hv
   | 1,_=>exact hv
   | 2,_=>exact hv
   | 3,_=>exact hv)
 rw [show b+1+1+j*4+i=b+(2+j*4+i) by omega];exact h1
end Go.Proofs.YtjkckhfddgeboaaGreatDoor