/- Several texts in one, in their order. -/
import Derived.Test.YtjkckhfddgeboaaGreatDoorPGetx16
import Derived.Test.YtjkckhfddgeboaaGreatDoorPGetx9
import Derived.Deep.CutRange
import Derived.Deep.RegionLaw
import Derived.Test.YtjkckhfddgeboaaGreatDoorPGetx15
import Derived.Test.YtjkckhfddgeboaaGreatDoorPGetx5
import Derived.Test.YtjkckhfddgeboaaGreatDoorPGetx8
import Derived.Test.YtjkckhfddgeboaaGreatDoorPGetx4
import Derived.Deep.Cut
import Derived.Test.YtjkckhfddgeboaaGreatDoorPGetx10
import Derived.Test.YtjkckhfddgeboaaGreatDoorPGetx11
import Derived.Test.YtjkckhfddgeboaaGreatDoorPGetx14
import Derived.Test.YtjkckhfddgeboaaGreatDoorPGetx12
import Derived.Test.YtjkckhfddgeboaaGreatDoorPGetx13
import Derived.Test.YtjkckhfddgeboaaGreatDoorPGetx3
import Derived.BigQuiet
import Derived.Deep.DrawnRows
import Derived.WalkMore
import Derived.ScopeJumps
import Derived.Deep.RegionHeld3
import Derived.Test.YtjkckhfddgeboaaGreatDoorPGetx7
import Derived.Test.YtjkckhfddgeboaaGreatDoorPGetx1
set_option maxHeartbeats 8000000
set_option maxRecDepth 100000
namespace Go.Proofs.YtjkckhfddgeboaaGreatDoor
open Go.RowKit
def jS (e:ji) (asked:Bool):Int:=if jA e && (!e.down && asked) then (if 3800<e.log.recs.length then 4 else 0) else 1
theorem PU (e:qa) (asked:Bool) (se:e.shape) (w:World) (hg:kK w) (re:e.reads w) (hl:e.short 1048576):
  Calls Tryz.prog 73 #[.agg e.cells.toArray,.bool asked] w fun r w'=>r=.returned (.int .i64 (jS e.v asked))∧Below w.heap.size w w':=by
 have HV:Hid (jS e.v asked=if jA e.v && (!e.down && asked) then (if 3800<e.log.recs.length then 4 else 0) else 1):=by
  rw [Hid];unfold jS;rw [show e.v.log.recs.length=e.log.recs.length by simp [qa.v,qz.v]];rfl
 generalize jS e.v asked=RV at*
 have CE:=fun u (hu:kK u) (hr:e.reads u)=>Wv e se u hu hr hl
 have hrl:e.log.recs.length≤1048576:=hl.log.len;have HI:=kI se;obtain ⟨W,hW,b0,hbW,qp⟩:=qx w e.cells 42;have HB:Hid (∀ u,Below W.heap.size W u→Box u w.heap.size e.cells 42):=fun u hu=>b0.below hu b0.lt
 have HR:Hid (∀ u,Below W.heap.size W u→e.reads u):=fun u hu=>(re.below hbW).below hu
 have qR:Hid (∀ u,Below W.heap.size W u→Below w.heap.size w u):=fun u hu=>hbW.trans (hu.mono hbW.size)
 have hw0:w.heap.size<W.heap.size:=by omega
 have N:Below W.heap.size W W:=Below.refl _ _;clear b0 qp;have HG:Hid (∀ u,Below W.heap.size W u→kK u):=fun u hu=>hg.keep (qR.out u hu)
 have pe:W.rangeAt w.heap.size 0 e.cells:=Box.range [] e.cells [] (by simpa using HB.out W N);clear re hl hg;have C1:=CE W (HG.out W N) (HR.out W N);clear CE;go_enter Tryz.func73,Tryz.ntmps73;go_wp2_with (first | (guard_target=wpList _ _ _ (Oper.mk (some 6) _ _ _ _ _::_) _ _;refine wpList_load_mid rfl 42 (.tmp 2) rfl w.heap.size 0 rfl (e.cells) _ (by rw [hW.out];exact pe) Tryz.underlying42 rfl HI ?_) | fail);rw [hW.out];clear hW pe;refine C1.mono ?_;clear C1;rintro r w1 ⟨rfl,hb⟩;replace N:=N.trans (hb.mono N.size);clear hb;have p2:=(qH se (HB.out _ N)).2.2.1;have l0:w1.cell? ⟨w.heap.size,138,none⟩=some (.slice e.log.a e.log.recs.length e.log.c):=p2 0 _ rfl;have p6:=(qH se (HB.out _ N)).2.2.2.2.2.2;have HE:Hid (Below w.heap.size w w1):=qR.out _ N;obtain ⟨vO,hO⟩:∃ b,Hid (jA e.v=b):=⟨_,rfl⟩;obtain ⟨vD,hD⟩:∃ b,Hid (e.down=b):=⟨_,rfl⟩;rw [hO.out,hD.out] at HV;rw [hD.out] at p6;rw [hO.out];clear p2 hO hD;cases vO with
 | false=>
  have HF:Hid (RV=1):=HV.out.trans rfl;go_wp2;go_ret;exact ⟨ja HF.out.symm,HE.out⟩
 | true=>
  cases vD with
  | true=>
   have HF:Hid (RV=1):=HV.out.trans rfl;go_wp2;go_ret;exact ⟨ja HF.out.symm,HE.out⟩
  | false=>
   cases asked with
   | false=>
    have HF:Hid (RV=1):=HV.out.trans rfl;go_wp2;go_ret;exact ⟨ja HF.out.symm,HE.out⟩
   | true=>
    by_cases hx:3800<e.log.recs.length
    ·have hxi:(3800:Int)<(e.log.recs.length:Int):=by omega
     have HF:Hid (RV=4):=HV.out.trans (if_pos hx);clear hx;go_wp2;go_ret;exact ⟨ja HF.out.symm,HE.out⟩
    ·have hxi:¬ (3800:Int)<(e.log.recs.length:Int):=by omega
     have HF:Hid (RV=0):=HV.out.trans (if_neg hx);clear hx;go_wp2;go_ret;exact ⟨ja HF.out.symm,HE.out⟩
theorem Within.XI {B:Nat} {w w':World} (h:Within B (B+1) w w'):Touch [B] w w':=⟨h.os,h.tape,h.output,h.size,fun k hk hn=>h.block k hk (fun hh=>hn (List.mem_singleton.2 (by omega)))⟩
def qg.at (r:qg) (n:Int):qg:={ r with lsn:=n }
theorem PV {e:ji} (h:jA e=true):vN (q9 e.holds e.holds.length) e.holds:=by
 have h1:xI e=true:=by
  unfold jA zy at h;simp only [Bool.and_eq_true] at h;exact h.2.2.2.1.2.1
 have hat:∀ i,i<e.holds.length→zi e i=true:=fun i hi=>List.all_eq_true.1 h1 i (List.mem_range.2 hi)
 refine Dh (fun i hi j hj=>?_) (fun x hx=>?_)
 ·have:=hat i hi;unfold zi Y8 at this;simp only [Bool.and_eq_true] at this;have:=List.all_eq_true.1 this.2.2 j (List.mem_range.2 hj)
  simpa using this
 ·obtain ⟨i,hi,rfl⟩:=List.mem_iff_getElem.1 hx;have:=hat i hi;unfold zi at this;simp only [Bool.and_eq_true] at this;have h2:=this.1;have e1:e.holds.getD i qY=e.holds[i]:=by simp [List.getD,hi]
  rw [e1] at h2
  simpa [inB] using h2
abbrev iA:TypeId:=140
def qa.run (M:Nat) (n:Int) (e:qa):List Value:=wm e.cells M n
abbrev Qk (M:Nat) (n:Int):=j6 (qa.run M n) iA
abbrev ym (M:Nat) (n:Int):=q8 (qa.run M n) iA
def qa.Ja (e:qa) (M:Nat) (n:Int):List Value:=[.slice e.aS e.seats.length e.cS,.int .i64 e.hand,.slice e.log.a e.log.recs.length e.log.c,.int .i64 e.log.sure,.slice e.aT e.txs.length e.cT,.slice e.aH e.holds.length e.cH,.int .i64 e.next,.bool e.down,.map (some M),.int .i64 n]
theorem Qd (e:qa) (M:Nat) (n:Int):e.run M n=qj e.disk++e.Ja M n:=by
 unfold qa.run wm qa.cells;rw [List.append_assoc];rfl
theorem N7 {e:qa} (se:e.shape) (M:Nat) (n:Int) (j:Nat):(e.run M n)[136+j]? =(e.Ja M n)[j]? :=by
 rw [Qd,List.getElem?_append_right (by rw [qa.xx se];omega),qa.xx se,show 136+j-136=j by omega]
theorem run_set {e:qa} (se:e.shape) (M:Nat) (n:Int) (j:Nat) (v:Value):(e.run M n).set (136+j) v=qj e.disk++(e.Ja M n).set j v:=by
 rw [Qd,List.set_append_right _ _ (by rw [qa.xx se];omega),qa.xx se,show 136+j-136=j by omega]
theorem j6.Mh {M:Nat} {n:Int} {w:World} {R:Nat} {e:qa} (h:Qk M n w R e) (j:Nat) (v:Value) (hv:(e.Ja M n)[j]? =some v):w.cell? ⟨R,136+j,none⟩=some v:=h.box.cell (136+j) v (by rw [N7 h.shape];exact hv)
theorem N8 (M:Nat) (n:Int) (R:Nat) (e:qa) (x:Int) (w:World) (h:Qk M n w R e) (hs:e.log.sure≤e.log.recs.length):
  Calls Tryz.prog 179 #[.pointer (some ⟨R,138,none⟩),.int .i64 x] w fun r w'=>(∃ v,r=.returned v)∧ym M n R e w (e.zo (e.log.upTo x)) w'∧Touch [R] w w':=by
 have h0:(e.run M n)[138]? =some (.slice e.log.a e.log.recs.length e.log.c):=(N7 h.shape M n 2).trans rfl;have h1:(e.run M n)[138+1]? =some (.int .i64 e.log.sure):=(N7 h.shape M n 3).trans rfl;refine (N9 R 138 (e.run M n) iA e.log.a e.log.c e.log.recs.length e.log.sure x w h.box h0 h1).mono ?_;rintro r w' ⟨hr,bx,hw,hz⟩;have hm:min (max e.log.sure x) (e.log.recs.length:Int)=max e.log.sure (min x e.log.recs.length):=by omega
 rw [hm] at bx;have ht:Touch [R] w w':=hw.XI;have hR:∀ k∈kr e.log.a e.log.c e.log.recs,k∉[R]:=fun k hk hm=>h.off (by rw [← List.mem_singleton.1 hm];exact qa.J3 hk)
 refine ⟨hr,h.logs (e.log.upTo x) ?_ ((h.own.log.touch ht hR).widen (Nat.le_refl _) (by omega) (Nat.le_refl _)) (ht.mono (fun k hk=>by rw [List.mem_singleton.1 hk];exact List.mem_cons_self)) (fun k hk=>.inl hk),ht⟩;have e1:=run_set h.shape M n 3 (.int .i64 (max e.log.sure (min x e.log.recs.length)));rw [show 136+3=138+1 from rfl] at e1;rw [e1] at bx;have e2:(e.zo (e.log.upTo x)).run M n=qj e.disk++(e.Ja M n).set 3 (.int .i64 (max e.log.sure (min x e.log.recs.length))):=by
  rw [Qd];rfl
 rw [e2];exact bx
theorem qf.raise {w:World} {lo lo' hi:Nat} {s:qf} (h:s.own w lo hi) (hb:∀ k∈s.blocks,lo'≤k):s.own w lo' hi:=
 ⟨⟨kM h.ints.1 (fun k hk=>hb k (List.mem_append.2 (.inl (Option.mem_toList.2 hk)))),h.ints.2⟩,⟨kM h.refs.1 (fun k hk=>hb k (List.mem_append.2 (.inr (Option.mem_toList.2 hk)))),h.refs.2⟩,h.apart⟩
theorem qa.own.raise {w:World} {lo hi:Nat} {e:qa} (h:e.own w 0 hi) (hb:∀ k∈e.blocks,lo≤k):e.own w lo hi:=by
 refine ⟨⟨fun s hs=>?_,h.disk.apart⟩,⟨kM h.pool.row (fun k hk=>hb k (qa.wW (List.mem_append.2 (.inl (Option.mem_toList.2 hk))))),h.pool.top,h.pool.blk,fun s hs=>?_,h.pool.apart⟩,⟨kM h.log.row (fun k hk=>hb k (qa.J3 (List.mem_append.2 (.inl (Option.mem_toList.2 hk))))),h.log.top,h.log.blk,fun r hr=>?_,h.log.apart⟩,
  ⟨kM h.txs.1 (fun k hk=>hb k (qa.Uq (Option.mem_toList.2 hk))),h.txs.2⟩,⟨kM h.holds.1 (fun k hk=>hb k (qa.Ym (Option.mem_toList.2 hk))),h.holds.2⟩,h.apart⟩
 ·exact qf.raise (h.disk.each s hs) (fun k hk=>hb k (qa.J4 (List.mem_flatMap.2 ⟨s,hs,hk⟩)))
 ·have hS:qG w 0 hi s.ss:=h.pool.each s hs;exact ⟨fun x hx=>qf.raise (hS.each x hx) (fun k hk=>hb k (qa.wW (List.mem_append.2 (.inr (List.mem_flatMap.2 ⟨s,hs,List.mem_flatMap.2 ⟨x,hx,hk⟩⟩))))),hS.apart⟩
 ·have hr1:=h.log.each r hr;have hk:∀ k∈r.blocks,lo≤k:=fun k hk=>hb k (qa.J3 (List.mem_append.2 (.inr (List.mem_flatMap.2 ⟨r,hr,hk⟩))))
  exact ⟨qf.raise hr1.bf (fun k h1=>hk k (List.mem_append.2 (.inl h1))),qf.raise hr1.af (fun k h1=>hk k (List.mem_append.2 (.inr (List.mem_append.2 (.inl h1))))),⟨kM hr1.txs.1 (fun k h1=>hk k (List.mem_append.2 (.inr (List.mem_append.2 (.inr (Option.mem_toList.2 h1)))))),hr1.txs.2⟩,hr1.apart⟩
theorem ak {w:World} {lo M R:Nat} {n:Int} {t:qa} (st:t.shape) (ot:t.own w lo M) (hMR:M<R) (bR:Box w R (wm t.cells M n) 140):Qk M n w R t:=by
 have hl:=bR.lt;exact ⟨bR,st,ot.widen (Nat.zero_le _) (by omega) (Nat.le_refl _),fun hk=>by have:=(ot.ql R hk).2;omega⟩
theorem G9 (W d1 d2 d3:World) (M R:Nat) (hs:List qJ) (t s:qa) (ot:t.own d2 d1.heap.size M) (hMR:M<R) (hM:d1.heap.size≤M) (hm:MapAt d2 M (q9 hs hs.length)) (st:ym M (hs.length:Int) R t d2 s d3)
  (hco:vN (q9 hs hs.length) hs) (hlen:hs.length≤1048576) (N2:Below W.heap.size W d2) (hW:W.heap.size≤d1.heap.size) (h12:d1.heap.size≤d2.heap.size):
  Calls Tryz.prog 79 #[.pointer (some ⟨R,0,none⟩)] d3 fun r w'=>∃ D:qa,r=.returned (.agg D.cells.toArray)∧D.shape∧Hid (D.v={ s.v with holds:=hs })∧D.own w' W.heap.size w'.heap.size∧Below W.heap.size W w'∧Touch [R] d3 w'∧Hid (∀ k∈D.blocks,k∈s.blocks∨d3.heap.size≤k):=by
 have z3:=st.size;have hb:=ot.ql;have oS:s.own d3 d1.heap.size d3.heap.size:=qa.own.raise st.at'.own (fun k hk=>(st.fresh k hk).elim (fun q=>(hb k q).1) (fun q=>by omega));have mS:MapAt d3 M (q9 hs hs.length):=hm.touch st.touch (fun hk=>by
  rcases List.mem_cons.1 hk with q | q
  ·omega
  ·have:=(hb M q).2;omega)
 have N3:Below W.heap.size W d3:=N2.trans ⟨st.touch.os,st.touch.tape,st.touch.output,st.touch.size,fun k hk=>st.touch.block k (by have:=N2.size;omega) (fun hq=>by
  rcases List.mem_cons.1 hq with q | q
  ·omega
  ·have:=(hb k q).1;omega)⟩
 have Yz:∀ k,0≤(kW k (q9 hs hs.length)).place∧(kW k (q9 hs hs.length)).place≤1099511627776:=fun k=>by have:=NC hs k hs.length;omega
 have hRl:=st.at'.box.lt;have hRW:W.heap.size≤R:=by omega
 refine (Sn R M s st.at'.shape _ _ d3 d1.heap.size d3.heap.size st.at'.box mS Yz oS st.at'.off (by omega) (Nat.le_refl _)).mono ?_;rintro r w' ⟨xs,a,c,rfl,HP,oD,tD,hN⟩;have hhs:xs=hs:=hco.sorted HP.out.1 HP.out.2;subst hhs;refine ⟨_,rfl,⟨st.at'.shape.eight,st.at'.shape.four⟩,rfl,oD.widen (by omega) (Nat.le_refl _) (Nat.le_refl _),N3.trans ⟨tD.os,tD.tape,tD.output,tD.size,fun k hk=>tD.block k (by have:=N3.size;omega) (fun hq=>by have:=List.mem_singleton.1 hq;omega)⟩,tD,fun k hk=>?_⟩;simp only [qa.blocks,List.mem_append] at hk ⊢;rcases hk with hk | hk | hk | hk | hk
 ·exact .inl (.inl hk)
 ·exact .inl (.inr (.inl hk))
 ·exact .inl (.inr (.inr (.inl hk)))
 ·exact .inl (.inr (.inr (.inr (.inl hk))))
 ·exact .inr (hN.out k hk)
end Go.Proofs.YtjkckhfddgeboaaGreatDoor
namespace Go.Proofs.YtjkckhfddgeboaaGreatDoor
open Go.RowKit
attribute [local go_sem ↓] Go.wp_at_zero Go.wp_at_succ
theorem Nr (M:Nat) (m:Int) (E:Nat) (e:qa) (s:qb) (w:World) (h:Qk M m w E e) (Ya:e.log.sure≤e.log.recs.length) (n:Nat) (hn:s.no=(n:Int)) (h8:n<8) (hr:∀ u,Touch [E] w u→s.reads u) (hl:Fit s.ss):
  Calls Tryz.prog 332 #[.pointer (some ⟨E,0,none⟩),.agg s.cells.toArray] w fun r w'=>(∃ v,r=.returned v)∧∃ e',Hid (e'.v=zg e.v s.v)∧Hid (e'.log.recs=e.log.recs)∧ym M m E e w e' w':=by
 obtain ⟨W,hW,b0,hbW,qp⟩:=qx w s.cells 167;have a1:=h.below hbW;have hoff:Off E e w.heap.size:=h.new (Nat.le_refl _);have hws:w.heap.size<W.heap.size:=by omega
 have QA:Hid (∀ u,Box u w.heap.size s.cells 167→u.rangeAt w.heap.size 0 s.cells∧u.rangeAt w.heap.size 1 s.page.cells):=fun u bu=>⟨Box.range [] s.cells [] (by simpa using bu),by
  have e1:s.cells=[.int .i64 s.no]++(s.page.cells++[.bool s.dirty,.bool s.hot]):=by rw [qb.zG];rfl
  rw [e1] at bu;exact Box.range _ _ _ bu⟩
 have HI:Hid ((Tryz.prog.info? 31).map (·.size)=some s.page.cells.length):=by rw [Hid,jo s.page rfl];kernel_rfl
 clear qp;go_enter Tryz.func332,Tryz.ntmps332;go_upto_region 1 with fail;rw [hW.out];clear hW;have ND:Below W.heap.size W W.drew:=(Below.refl _ _).drew;have a2:=a1.below ND;have b2:=b0.below ND b0.lt;refine wp_region_held_drew (S:=fun w'=>w'.rangeAt w.heap.size 0 s.cells∧w'.rangeAt w.heap.size 1 s.page.cells) (by kernel_rfl) ?_ (fun hHeld=>?_)
 ·exact QA.out _ b2
 refine tr 0 (.pointer (some ⟨E,0,none⟩)) ?_;refine tr 1 (.pointer (some ⟨E,0,none⟩)) ?_;refine tr 2 (.pointer (some ⟨E,0,none⟩)) ?_;refine tr 3 (.pointer (some ⟨E,138,none⟩)) ?_;refine tr 4 (.pointer (some ⟨w.heap.size,1,none⟩)) ?_;refine tr 5 (.pointer (some ⟨w.heap.size,1,none⟩)) ?_;refine tk 6 (v:=.int .i64 s.lsn) rfl (Or.inl ⟨by rfl,?_⟩) hHeld ?_
 ·intro w' hSw;have hx:w'.cell? ⟨w.heap.size,1,none⟩=some (.int .i64 s.lsn):=hSw.1 1 _ rfl;go_simp<;>rfl
 try simp only [zz]
 refine wpAnyH_ready (rs:=[7]) (by kernel_rfl) (by simp) ?_;refine AllReadyH.cons rfl (fun K hK=>?_) AllReadyH.nil;go_simp;refine (N8 M m E e s.lsn W.drew a2 Ya).mono ?_;rintro r w3 ⟨⟨v3,rfl⟩,s3,t3⟩;have b3:=s3.boxes b2 hoff;have N0:Below w.heap.size w W.drew:=hbW.trans (ND.mono hbW.size);have S3:ym M m E e w (e.zo (e.log.upTo s.lsn)) w3:=q8.after N0 s3;have r3:s.reads w3:=hr _ ((Touch.of_below N0).trans t3);have hs3:=S3.size;have U3:=s3.size;have hE:E<w.heap.size:=h.box.lt;have hb3:w.heap.size<w3.heap.size:=b3.lt;refine hK.out _ _ (QA.out _ b3) (fun hHeld=>?_);clear hK K;try simp only [zz]
 refine wpAnyH_done (by kernel_rfl) ?_ _;clear hHeld s3 a1 a2 b2 b0 t3 hr;have gZ:Below w3.heap.size w3 w3.drew:=(Below.refl _ _).drew;have a4:=S3.at'.below gZ;have b4:=b3.below gZ b3.lt;go_upto_region 2 with fail;refine wp_region_held_drew (S:=fun w'=>w'.rangeAt w.heap.size 0 s.cells∧w'.rangeAt w.heap.size 1 s.page.cells) (by kernel_rfl) ?_ (fun hHeld=>?_)
 ·exact QA.out _ b4
 refine tr 0 (.pointer (some ⟨E,0,none⟩)) ?_;refine tr 1 (.pointer (some ⟨w.heap.size,0,none⟩)) ?_;refine tk 2 (v:=.int .i64 s.no) rfl (Or.inl ⟨by rfl,?_⟩) hHeld ?_
 ·intro w' hSw;have hx:w'.cell? ⟨w.heap.size,0,none⟩=some (.int .i64 s.no):=hSw.1 0 _ rfl;go_simp<;>rfl
 try simp only [zz]
 refine tr 3 (.pointer (some ⟨w.heap.size,1,none⟩)) ?_;refine Go.Proofs.YtjkckhfddgeboaaGreatDoor.ts 4 rfl (yieldsIf_load_mid (by rfl) _ _ rfl _ _ rfl s.page.cells _ (fun _ h=>h.2) Tryz.underlying31 rfl HI.out) ?_;refine tr 6 (.pointer (some ⟨E,0,none⟩)) ?_;refine tr 7 (.pointer (some ⟨E,0,none⟩)) ?_;refine tr 8 (.pointer (some ⟨E,0,none⟩)) ?_;refine wpAnyH_ready (rs:=[5]) (by kernel_rfl) (by simp) ?_;refine AllReadyH.cons rfl (fun K hK=>?_) AllReadyH.nil;go_simp;refine (Jh s.page rfl w3.drew (r3.below gZ) hl).mono ?_;rintro r w5 ⟨ts,rfl,hts,gU,hb5⟩;have ma:Below w3.heap.size w3 w5:=gZ.trans hb5;have a5:=S3.at'.below ma;have b5:=b3.below ma b3.lt;have S5:=S3.below ma;have h4:ts.length=4:=by have:=congrArg List.length hts.out;simpa [qb.page,qb.ss] using this
 have hs5:=ma.size;refine hK.out _ _ (QA.out _ b5) (fun hHeld=>?_);clear hK K;try simp only [zz]
 obtain ⟨WF,qF,XX,aF,tF,qN,fF⟩:=a5.fK (fun e=>e.Ja M m) (fun e=>Qd e M m) (fun _ _=>rfl) n h8 ⟨s.lsn,ts⟩ h4 gU w3.drew (Nat.le_refl _) (fun k hk=>a4.lt k hk) a4.box.lt hb5.size (Nat.le_refl _);have zK:Hid (w5.setCells E (n*17) (qw.cells ⟨s.lsn,ts⟩).toArray.toList=WF):=qF.out;have bF:=b5.touch tF (by simp;omega);have I5:Hid ((Tryz.prog.info? 31).map (·.size)=some (qw.cells ⟨s.lsn,ts⟩).toArray.size):=by rw [Hid,List.size_toArray,jo _ h4];kernel_rfl
 have HS:Hid (∃ e',Hid (e'.v=zg e.v s.v)∧Hid (e'.log.recs=e.log.recs)∧ym M m E e w e' WF):=by
  refine ⟨_,?_,?_,aF,?_,?_⟩
  ·rw [Hid];simp only [qa.v,qa.vQ,qa.zo,zg,qz.upTo,qz.v,List.map_set,qb.v,hn,Int.toNat_natCast,hts.out,qb.page,List.length_map]
  ·rfl
  ·exact S5.touch.trans (tF.mono (by simp))
  ·intro k hk;rcases fF k hk with h1 | h1
   ·exact S5.fresh k h1
   ·exact .inr (by have:w3.drew.heap.size=w3.heap.size:=rfl;omega)
 clear qF aF tF qN fF;have Xi:(n:Int)<8:=by omega
 have hn0:(0:Int)≤(n:Int):=by omega
 refine tr 9 (.pointer (some ⟨E,n*17,none⟩)) ?_;refine wpAnyH_ready (rs:=[10]) (by kernel_rfl) (by simp) ?_;refine AllReadyH.cons rfl (fun K hK=>?_) AllReadyH.nil;rw [if_pos (by rfl)];refine wp_store_mid 31 (.tmp 21) (.tmp 17) rfl E (n*17) (qw.cells ⟨s.lsn,ts⟩).toArray rfl rfl XX.out I5.out (all_oneCell_toArray (Qx _)) ?_;rw [zK.out];refine hK.out _ _ (QA.out _ bF) (fun hHeld=>?_);clear hK K;try simp only [Act.put,zA,zB,zC]
 refine wpAnyH_done (by kernel_rfl) ?_ _;go_wp2;go_end0;exact ⟨⟨_,rfl⟩,HS.out⟩
end Go.Proofs.YtjkckhfddgeboaaGreatDoor
namespace Go.Proofs.YtjkckhfddgeboaaGreatDoor
open Go.RowKit
end Go.Proofs.YtjkckhfddgeboaaGreatDoor
namespace Go.Proofs.YtjkckhfddgeboaaGreatDoor
open Go.RowKit
attribute [local go_sem ↓] Go.wp_at_zero Go.wp_at_succ
end Go.Proofs.YtjkckhfddgeboaaGreatDoor
namespace Go.Proofs.YtjkckhfddgeboaaGreatDoor
open Go.RowKit
theorem SV {e:ji} (h:jA e=true):kC e.log=true:=by
 unfold jA at h;simp only [Bool.and_eq_true] at h;exact h.1
theorem tL {e:ji} (h:jA e=true):e.log.sure≤e.log.recs.length:=by
 have h1:=SV h;unfold kC at h1;simp only [Bool.and_eq_true] at h1;have:=h1.2.1;simp only [inB,decide_eq_true_eq] at this;exact this.2
theorem Zt {e:ji} {a:Bool} (h:jS e a=0):jA e=true:=by
 unfold jS at h;cases ho:jA e with
 | true=>rfl
 | false=>rw [ho] at h;simp at h
theorem Zr {e:qa} (se:e.shape) (h:jA e.v=true) (hl:e.short 1048576):e.v.QD:=by
 have h1:jg e.v.wF=true:=by
  unfold jA at h;simp only [Bool.and_eq_true] at h;exact h.2.1
 unfold jg at h1;simp only [Bool.and_eq_true,decide_eq_true_eq] at h1;obtain ⟨g1,g2,g3⟩:=h1;refine ⟨g1,?_,fun s hs=>?_,fun s hs=>?_,?_,fun p hp=>?_⟩
 ·have g4:0≤e.v.hand∧e.v.hand≤2:=Wu g2;exact ⟨e.v.hand.toNat,by omega,by omega⟩
 ·obtain ⟨i,hi,rfl⟩:=List.mem_iff_getElem.1 hs;have g5:=gu g3 i hi;unfold yV QU at g5;simp only [Bool.and_eq_true] at g5;have e1:e.v.wF.seats.getD i qD=e.v.seats[i]:=by simp [ji.wF,List.getD,hi]
  rw [e1] at g5;have g6:0≤e.v.seats[i].no∧e.v.seats[i].no≤7:=Wu g5.1.1;exact ⟨e.v.seats[i].no.toNat,by omega,by omega⟩
 ·obtain ⟨x,hx,rfl⟩:=List.mem_map.1 hs;intro y hy;obtain ⟨z,hz,rfl⟩:=List.mem_map.1 hy;have:=hl.pool.each x hx z hz;omega
 ·show (e.disk.map _).length=8;rw [List.length_map];exact se.eight
 ·obtain ⟨q,hq,rfl⟩:=List.mem_map.1 hp;intro y hy;obtain ⟨z,hz,rfl⟩:=List.mem_map.1 hy;have:=hl.disk q hq z hz;omega
theorem j6.Jz {M:Nat} {n:Int} {w:World} {E:Nat} {e:qa} (h:Qk M n w E e):w.rangeAt E 136 e.qB.cells:=fun j v hv=>by
 match j,hv with
 | 0,hv=>cases hv;exact h.Mh 0 _ rfl
 | 1,hv=>cases hv;exact h.Mh 1 _ rfl
theorem j6.Np {M:Nat} {n:Int} {w w1:World} {E:Nat} {e:qa} (h:Qk M n w E e) (t:qi) (hb:Below w.heap.size w w1) (ot:t.own w1 w.heap.size w1.heap.size):
  ∃ W,Hid (w1.setCells E 136 t.cells.toArray.toList=W)∧Hid (w1.there E 136 t.cells.toArray.size)∧ym M n E e w (e.qX t.seats t.a t.c t.hand) W:=by
 have hE:=h.box.lt;have b1:=h.box.below hb h.box.lt;have hl:=qa.xx h.shape;have e1:e.run M n=qj e.disk++(e.qB.cells++[.slice e.log.a e.log.recs.length e.log.c,.int .i64 e.log.sure,.slice e.aT e.txs.length e.cT,.slice e.aH e.holds.length e.cH,.int .i64 e.next,.bool e.down,.map (some M),.int .i64 n]):=by rw [Qd];rfl
 have b2:=b1;rw [e1] at b2;obtain ⟨W,hW,b3,hw,hs⟩:=jb _ _ t.cells _ b2 rfl;rw [hl] at hW;have htc:Touch [E] w1 W:=hw.XI;have hz:=hb.size;have hnew:∀ k∈qo t.a t.c t.seats,w.heap.size≤k:=fun k hk=>(OwnSts.ql ot k hk).1
 refine ⟨W,hW,b1.there 136 _ (by rw [Qd,List.length_append,hl];simp [qa.Ja,qi.cells]),h.pool t.seats t.a t.c t.hand ?_ ?_ ?_ (fun k hk=>.inr (hnew k hk))⟩
 ·rw [Qd];exact b3
 ·exact (OwnSts.touch ot htc (fun k hk hm=>by have:=hnew k hk;have:=List.mem_singleton.1 hm;omega)).widen (Nat.zero_le _) (by omega) (Nat.le_refl _)
 ·exact (Touch.of_below hb).trans (htc.mono (fun k hk=>by rw [List.mem_singleton.1 hk];exact List.mem_cons_self))
theorem qa.own.gX {w:World} {lo hi:Nat} {e:qa} (h:e.own w lo hi):e.qB.reads w:=OwnSts.reads h.pool
theorem A9 (s:qb):QU s.v=(inB s.no 0 7 && ze s.lsn (s.ss.map (·.v))):=rfl
theorem dz (p:qi) (w:World) (hr:p.reads w) (hl:p.short 1099511627776):
  Calls Tryz.prog 167 #[.agg p.cells.toArray] w fun e w'=>e=.returned (.bool (jg p.v))∧Below w.heap.size w w':=by
 have HLEN:Hid (¬ p.seats.length≤3→jg p.v=false):=fun h=>UY (by simpa [qi.v] using h)
 have JF:Hid (inB p.hand 0 2=false→jg p.v=false):=fun h=>UZ h
 have jP:Hid (∀ k,k<p.seats.length→QU (p.seats.getD k qc).v=false→jg p.v=false):=fun k hk h=>Uc k (by simpa [qi.v] using hk) (SX (by rw [qi.v,jZ];exact h))
 have Ck:Hid (∀ k j,k<p.seats.length→j<k→(p.seats.getD j qc).no=(p.seats.getD k qc).no→jg p.v=false):=fun k j hk hj h=>Uc k (by simpa [qi.v] using hk) (SY hj (by simpa [qi.v] using hk) (by rw [qi.v,jZ,jZ];exact h))
 have xP:Hid (p.seats.length≤3→inB p.hand 0 2=true→(∀ k,k<p.seats.length→QU (p.seats.getD k qc).v=true∧∀ j,j<k→(p.seats.getD j qc).no≠(p.seats.getD k qc).no)→jg p.v=true):=fun h0 h1 h=>mX (by simpa [qi.v] using h0) h1 (fun k hk=>by
  have hk':k<p.seats.length:=by simpa [qi.v] using hk
  refine Ta hk (by rw [qi.v,jZ];exact (h k hk').1) (fun j hj=>?_);rw [qi.v,jZ,jZ];exact (h k hk').2 j hj)
 generalize jg p.v=R at*
 have HS:Hid (∀ k,k<p.seats.length→(p.seats.getD k qc).short 1099511627776):=fun k hk=>hl.at k hk
 have hlen:=hl.len;obtain ⟨rs,s,a,c⟩:=p;simp only [qi.reads,qi.cells] at*
 obtain ⟨W,hW,b0,hbW,qp⟩:=qx w [.slice a rs.length c,.int .i64 s] 35;have c0:=b0.cell 0 _ rfl;have c1:=b0.cell 1 _ rfl;clear hl qp;have HC:Hid (∀ k,k<rs.length→∃ b off,a=some ⟨b,off,none⟩∧(∀ j,j<rs.length→W.rangeAt b (off+j*20) (rs.getD j qc).cells)∧(rs.getD k qc).reads W):=fun k hk=>by
  obtain ⟨b,off,ha,hc⟩:=(j3.below hr hbW) (by intro e;rw [e] at hk;simp at hk);exact ⟨b,off,ha,fun j hj=>(hc j hj).1,(hc k hk).2⟩
 clear hr;by_cases h4:rs.length≤3
 case neg=>
  have HR:Hid (R=false):=HLEN.out h4;clear HLEN JF jP xP Ck;go_enter Tryz.func167,Tryz.ntmps167;go_wp2_with fail;rw [hW.out];go_ret;exact ⟨qd HR.out.symm,hbW⟩
 case pos=>
  cases h5:inB s 0 2 with
  | false=>
   have HR:Hid (R=false):=JF.out h5;clear HLEN JF jP xP Ck;have C:=jd s 0 2 W;rw [h5] at C;clear h5;go_enter Tryz.func167,Tryz.ntmps167;go_wp2_with fail;rw [hW.out];refine C.mono ?_;rintro e u ⟨rfl,hu⟩;rw [hu];clear hu u;go_wp2;go_ret;exact ⟨qd HR.out.symm,hbW⟩
  | true=>
   have mY:=xP.out h4 h5;have mZ:Hid _:=mY;have C:=jd s 0 2 W;rw [h5] at C;clear h5 mY xP HLEN JF;go_enter Tryz.func167,Tryz.ntmps167;go_wp2_with fail;rw [hW.out];refine C.mono ?_;rintro e u ⟨rfl,hu⟩;rw [hu];clear hu u hW C;go_wp2_with fail;go_loopw [3,4] (fun i _ wr=>∃ k:Nat,k≤rs.length∧i=.int .i64 k∧Hid (∀ m,m<k→QU (rs.getD m qc).v=true∧∀ j,j<m→(rs.getD j qc).no≠(rs.getD m qc).no)∧Below W.heap.size W wr) (fun i _ _=>rs.length-(intOf i).toNat)
   case atStart=>exact ⟨0,Nat.zero_le _,rfl,fun j hj=>by omega,Below.refl _ _⟩
   case round=>
    obtain ⟨k,hk,rfl,hall,hbl⟩:=hrel;have ve:Below w.heap.size w wr:=hbW.trans (hbl.mono hbW.size);have HP:Hid (∀ u,Below W.heap.size W u→u.cell? ⟨w.heap.size,0,none⟩=some (.slice a rs.length c)):=fun u hu=>(hu.cell (block_lt c0)).trans c0
    have r0:=HP.out wr hbl;clear c0 c1;by_cases hlt:k<rs.length
    ·obtain ⟨b,off,rfl,hcell,hrd⟩:=HC.out k hlt;have LY:Hid (∀ u,Below W.heap.size W u→∀ j,j<rs.length→u.rangeAt b (off+j*20) (rs.getD j qc).cells):=fun u hu j hj=>uF (hcell j hj) hu
     have LZ:=LY.out wr hbl k hlt;have x0:wr.cell? ⟨b,off+k*20,none⟩=some (.int .i64 (rs.getD k qc).no):=LZ 0 _ rfl;have VQ:Hid (wr.rangeAt b (off+k*20+1) (rs.getD k qc).page.cells):=by
      intro j v hj;have hjl:=(List.getElem?_eq_some_iff.1 hj).1;have:=LZ (1+j) v (by rw [qb.zG,Nat.add_comm,List.getElem?_cons_succ,List.getElem?_append_left hjl];exact hj);rw [show off+k*20+1+j=off+k*20+(1+j) by omega];exact this
     have Jl:=(by show _=some 17;kernel_rfl:(Tryz.prog.info? 31).map (·.size)=some (rs.getD k qc).page.cells.length);have C:=Qr (rs.getD k qc).page rfl wr (hrd.below hbl) (HS.out k hlt);have CI:=jd (rs.getD k qc).no 0 7 wr;have HN:Hid (QU (rs.getD k qc).v=false→R=false):=jP.out k hlt;have HD:Hid (∀ j,j<k→(rs.getD j qc).no=(rs.getD k qc).no→R=false):=fun j hj h=>Ck.out k j hlt hj h
     have HY:Hid (QU (rs.getD k qc).v=true→(∀ j,j<k→(rs.getD j qc).no≠(rs.getD k qc).no)→∀ m,m<k+1→QU (rs.getD m qc).v=true∧∀ j,j<m→(rs.getD j qc).no≠(rs.getD m qc).no):=fun h h' m hm=>by
      by_cases e:m=k
      ·rw [e];exact ⟨h,h'⟩
      ·exact hall.out m (by omega)
     have hkk:(k:Int)<(rs.length:Int):=by omega
     have hk0:(0:Int)≤(k:Int):=by omega
     have HX0:Hid (∀ u,Below W.heap.size W u→∀ j,j<rs.length→u.cell? ⟨b,off+j*20,none⟩=some (.int .i64 (rs.getD j qc).no)):=fun u hu j hj=>LY.out u hu j hj 0 _ rfl
     have e1:qw.cells (rs.getD k qc).page=(rs.getD k qc).page.cells:=rfl;rw [A9] at HN HY;have e2:(rs.getD k qc).page.lsn=(rs.getD k qc).lsn:=rfl;have e3:(rs.getD k qc).page.ss=(rs.getD k qc).ss:=rfl;rw [e2,e3] at C;clear hcell HC jP Ck hall HS hrd LZ LY e1 e2 e3;generalize hy:rs.getD k qc=y at*
     have HYE:Hid (rs.getD k qc=y):=hy;clear hy;cases h6:inB y.no 0 7 with
     | false=>
      have HR2:Hid (R=false):=HN.out (by rw [h6];rfl);rw [h6] at CI;clear HN HY HD C h6;go_wp2_with fail;refine CI.mono ?_;rintro e u ⟨rfl,hu⟩;rw [hu];clear hu u CI;go_wp2_with fail;go_ret;exact ⟨qd HR2.out.symm,ve⟩
     | true=>
      rw [h6,Bool.true_and] at HN HY;rw [h6] at CI;clear h6;cases h7:ze y.lsn (y.ss.map (·.v)) with
      | false=>
       have HR2:Hid (R=false):=HN.out h7;rw [h7] at C;clear HN HY HD h7;generalize y.page.cells=pc at*
       go_wp2_with fail;refine CI.mono ?_;rintro e u ⟨rfl,hu⟩;rw [hu];clear hu u CI;go_wp2_with (first | (guard_target=wpList _ _ _ (Oper.mk (some 36) _ _ _ _ _::_) _ _;refine qK (by rfl) 31 (.tmp 35) rfl b (off+k*20+1) rfl pc _ VQ.out Tryz.underlying31 rfl Jl ?_) | fail);refine C.mono ?_;rintro e w1 ⟨rfl,hb1⟩;go_wp2_with fail;go_ret;exact ⟨qd HR2.out.symm,ve.trans (hb1.mono ve.size)⟩
      | true=>
       have dS:=HY.out h7;have HY3:Hid _:=dS;rw [h7] at C;clear HN HY h7 dS;generalize y.page.cells=pc at*
       go_wp2_with fail;refine CI.mono ?_;rintro e u ⟨rfl,hu⟩;rw [hu];clear hu u CI;go_wp2_with (first | (guard_target=wpList _ _ _ (Oper.mk (some 36) _ _ _ _ _::_) _ _;refine qK (by rfl) 31 (.tmp 35) rfl b (off+k*20+1) rfl pc _ VQ.out Tryz.underlying31 rfl Jl ?_) | fail);refine C.mono ?_;rintro e w1 ⟨rfl,hb1⟩;have L8:Below W.heap.size W w1:=hbl.trans (hb1.mono hbl.size);clear C hb1 x0 r0 VQ Jl hbl ve;have HZK:Hid (∀ u,Below W.heap.size W u→u.cell? ⟨b,off+k*20,none⟩=some (.int .i64 y.no)):=fun u hu=>by rw [← HYE.out];exact HX0.out u hu k hlt
       generalize y.no=zk at*
       go_wp2_with fail;go_loopw [4] (fun i wr=>∃ j:Nat,j≤k∧i=.int .i64 j∧Hid (∀ m,m<j→(rs.getD m qc).no≠zk)∧Below W.heap.size W wr) (fun i _=>k-(intOf i).toNat)
       case atStart=>exact ⟨0,Nat.zero_le _,rfl,fun j hj=>by omega,L8⟩
       case round=>
        obtain ⟨j,hj,rfl,hal,dB⟩:=hrel;have qdV:Below w.heap.size w wr:=hbW.trans (dB.mono hbW.size);by_cases hjk:j<k
        ·have hjl:j<rs.length:=by omega
         have hjj:(j:Int)<(rs.length:Int):=by omega
         have hj0:(0:Int)≤(j:Int):=by omega
         have r1:=HP.out wr dB;have y0:=HZK.out wr dB;have y1:=HX0.out wr dB j hjl;have HD2:Hid ((rs.getD j qc).no=zk→R=false):=HD.out j hjk;have L9:Hid ((rs.getD j qc).no≠zk→∀ m,m<j+1→(rs.getD m qc).no≠zk):=fun h m hm=>by
          by_cases e:m=j
          ·rw [e];exact h
          ·exact hal.out m (by omega)
         clear HD hal L8;generalize (rs.getD j qc).no=zj at*
         by_cases hq:zj=zk
         ·have HR2:Hid (R=false):=HD2.out hq;have xB:(zj == zk)=true:=by simpa using hq
          clear hq HD2 L9;go_wp2_with fail
          go_quiet (fail)
          go_wp2_with fail;go_ret;exact ⟨qd HR2.out.symm,below_drewN qdV _⟩
         ·have HN3:=L9.out hq;have HN4:Hid _:=HN3;have xB:(zj == zk)=false:=by simpa using hq
          clear hq HD2 L9 HN3;go_wp2_with fail
          go_quiet (fail)
          go_wp2_with fail;go_roundw
          case rel=>exact ⟨j+1,by omega,by go_num,HN4,below_drewN dB _⟩
          case measure=>simp [intOf];omega
        ·have JQ:Hid (∀ m,m<k→(rs.getD m qc).no≠zk):=fun m hm=>hal.out m (by omega)
         have HZ:=HY3.out JQ.out;have HZ2:Hid _:=HZ;clear HZ HY3 JQ hal HD;go_wp2_with fail;go_roundw
         case rel=>exact ⟨k+1,by omega,by go_num,HZ2,dB⟩
         case measure=>simp [intOf];omega
    ·have HE:Hid (true=R):=(mZ.out (fun m hm=>hall.out m (by omega))).symm;clear hall mZ;go_wp2;go_ret;exact ⟨qd HE.out,ve⟩
theorem dC (s:qb) (w:World) (hr:s.reads w) (hl:s.short 1099511627776):
  Calls Tryz.prog 241 #[.agg s.cells.toArray] w fun e w'=>∃ t:qb,e=.returned (.agg t.cells.toArray)∧Hid (t.v=s.v)∧t.own w' w.heap.size w'.heap.size∧Below w.heap.size w w':=by
 obtain ⟨W,hW,b0,b1,hbW,qp⟩:=jf w s.cells [.int .i64 0,.int .i64 0,.bool false,.int .i64 0,.slice none 0 0,.slice none 0 0,.bool false,.int .i64 0,.slice none 0 0,.slice none 0 0,.bool false,.int .i64 0,.slice none 0 0,.slice none 0 0,.bool false,.int .i64 0,.slice none 0 0,.slice none 0 0,.bool false,.bool false] 167 167;have b1':Box W (w.heap.size+1) qc.cells 167:=b1;have hs0:w.heap.size+1<W.heap.size:=by omega
 have hrg0:W.rangeAt w.heap.size 1 s.page.cells:=vH s b0;have HL:=Tryz.Jm s.page rfl;have C:=K6 s.page rfl W (hr.below hbW) hl;clear qp b1;go_enter Tryz.func241,Tryz.ntmps241;go_upto_region 1 with fail;rw [hW.out];clear hW;go_wp2_with (first | (guard_target=wpList _ _ _ (Oper.mk (some 4) _ _ _ _ _::_) _ _;refine wpList_load_mid rfl 31 (.tmp 3) rfl w.heap.size 1 rfl s.page.cells _ hrg0 Tryz.underlying31 rfl HL ?_) | fail);clear hrg0 HL;refine C.mono ?_;clear C;rintro e w1 ⟨ts,rfl,hv,ho,hb1⟩;obtain ⟨y0,y1,y2,y3,rfl⟩:=QB (ts:=ts) (by have:=congrArg List.length hv.out;simpa [qb.page,qb.ss] using this);have hs1:=hb1.size;have b01:=b0.below hb1 b0.lt;have b11:=b1'.below hb1 b1'.lt;obtain ⟨W2,hW2,b02,hw2,hs2,iB⟩:=Vp s b01 s.page.lsn y0 y1 y2 y3;obtain ⟨q,hq⟩:∃ q:qb,Hid ((⟨s.no,s.page.lsn,y0,y1,y2,y3,s.dirty,s.hot⟩:qb)=q):=⟨_,rfl⟩;rw [hq.out] at b02;have b12:=b11.within hw2 (by omega);obtain ⟨WF,qF,hwF,qN,kz,yG,bF⟩:=kg q _ rfl b12;have r4:W2.rangeAt w.heap.size 0 q.cells:=Box.range [] q.cells [] (by simpa using b02);have oq:q.own w1 W.heap.size w1.heap.size:=by rw [← hq.out];exact ho
 have HV:Hid (q.v=s.v):=by rw [Hid,← hq.out];simp only [qb.v,qb.ss];rw [show List.map (fun x:qf=>x.v) [y0,y1,y2,y3]=s.page.ss.map (·.v) from hv.out];rfl
 have vX:Hid (q.own WF w.heap.size WF.heap.size∧Below w.heap.size w WF):=⟨((oq.within hw2 (.inr (by omega))).within hwF (.inr (by omega))).widen (by omega) (by omega) (Nat.le_refl _),((hbW.trans (hb1.mono (by omega))).trans (hw2.below (by omega) (by omega))).trans (hwF.below (by omega) (by omega))⟩;have HI1:=Tryz.Jm ⟨s.page.lsn,[y0,y1,y2,y3]⟩ rfl;have YY:=U5 ⟨s.page.lsn,[y0,y1,y2,y3]⟩;have HI2:=jI q;have Tc:=ko q;have HW2:Hid (w1.setCells w.heap.size 1 (qw.cells ⟨s.page.lsn,[y0,y1,y2,y3]⟩).toArray.toList=W2):=hW2.out;have zK:Hid (W2.setCells (w.heap.size+1) 0 q.cells.toArray.toList=WF):=qF.out;have uL:W2.there (w.heap.size+1) 0 q.cells.toArray.size:=kz.out;clear hW2 qF kz hq hs1 hs2 qN hw2 hwF b01 b11 b02 b12 bF oq ho hv hb1 b0 b1' hbW;generalize qw.cells ⟨s.page.lsn,[y0,y1,y2,y3]⟩=pc at*
 go_wp2_with (first | (guard_target=wpList _ _ _ (Oper.mk none (Op.store _ (Operand.tmp 6) _) _ _ _ _::_) _ _;refine wpList_store_mid rfl 31 (.tmp 6) (.tmp 5) rfl w.heap.size 1 pc.toArray rfl rfl iB (by rw [List.size_toArray];exact HI1) YY ?_;rw [HW2.out]) | (guard_target=wpList _ _ _ (Oper.mk (some 7) _ _ _ _ _::_) _ _;refine wpList_load_mid rfl 167 (.tmp 1) rfl w.heap.size 0 rfl q.cells _ r4 Tryz.underlying167 rfl HI2 ?_) | (guard_target=wpList _ _ _ (Oper.mk none (Op.store _ (Operand.tmp 2) _) _ _ _ _::_) _ _;refine wpList_store_mid rfl 167 (.tmp 2) (.tmp 7) rfl (w.heap.size+1) 0 q.cells.toArray rfl rfl uL (by rw [List.size_toArray];exact HI2) Tc ?_;rw [zK.out]) | fail);exact bodyPost_ret (v:=.agg q.cells.toArray) (jk Tryz.results241 rfl yG.out) rfl ⟨q,rfl,HV,vX.out.1,vX.out.2⟩
end Go.Proofs.YtjkckhfddgeboaaGreatDoor
namespace Go.Proofs.YtjkckhfddgeboaaGreatDoor
open Go.RowKit
attribute [local go_sem ↓] Go.wp_at_zero Go.wp_at_succ
theorem Cm (l:qi) (w:World) (hr:l.reads w) (hl:l.short 1048576):
  Calls Tryz.prog 152 #[.agg l.cells.toArray] w fun e w'=>∃ t:qi,e=.returned (.agg t.cells.toArray)∧Hid (t.v=l.v)∧t.own w' w.heap.size w'.heap.size∧Below w.heap.size w w':=by
 obtain ⟨rs,s,a,c⟩:=l;have hl2:=(qi.qZ hl).each;have hl0:=hl.len;simp only [qi.reads,qi.cells,qi.own] at*
 obtain ⟨W,hW,b0,b1,b2,hbW,qp⟩:=yn w [.slice a rs.length c,.int .i64 s] [.slice none 0 0,.int .i64 0] [.slice none 0 0,.int .i64 s] 35 35 35;have hs0:w.heap.size+1+1<W.heap.size:=by omega
 clear qp;have x0:=b0.cell 0 _ rfl;have x1:=b0.cell 1 _ rfl;have HC:Hid (∀ k,k<rs.length→∃ b off,a=some ⟨b,off,none⟩∧w.rangeAt b (off+k*20) (rs.getD k qc).cells∧(rs.getD k qc).reads w∧(rs.getD k qc).short 1099511627776):=fun k hk=>by
  obtain ⟨b,off,ha,hc⟩:=hr (by intro e;rw [e] at hk;simp at hk);exact ⟨b,off,ha,(hc k hk).1,(hc k hk).2,hl2 _ (xE rs k hk)⟩
 have HI:Hid ((Tryz.prog.info? 167).map (·.size)=some 20):=by rw [Hid];kernel_rfl
 clear hr hl hl2;go_enter Tryz.func152,Tryz.ntmps152;go_wp2_with fail;rw [hW.out];clear hW x0 x1;go_loopw [4] (fun i wr=>∃ (k:Nat) (ts:List qb) (a':Option Addr) (c':Nat),k≤rs.length∧i=.int .i64 k∧Hid (uC rs ts k)∧Box wr (w.heap.size+1+1) [.slice a' ts.length c',.int .i64 s] 35∧Box wr w.heap.size [.slice a rs.length c,.int .i64 s] 35∧Box wr (w.heap.size+1) [.slice none 0 0,.int .i64 0] 35∧OwnSts wr W.heap.size wr.heap.size a' c' ts∧Below w.heap.size w wr∧W.heap.size≤wr.heap.size)
  (fun i _=>rs.length-(intOf i).toNat)
 case atStart=>exact ⟨0,[],none,0,Nat.zero_le _,rfl,YD rs,b2,b0,b1,WV _ _ _ (Nat.le_refl _),hbW,Nat.le_refl _⟩
 case round=>
  obtain ⟨k,ts,a',c',hk,rfl,hc,k2,k0,k1,hown,hnx,hsz⟩:=hrel;clear b0 b1 b2 hbW;have x0:=k0.cell 0 _ rfl;by_cases hlt:k<rs.length
  ·obtain ⟨b,off,rfl,hcell,hrd,hsh⟩:=HC.out k hlt;have JJ:=Jk hcell;have hnw:=hnx.size;have HR:Hid (∀ u,Below w.heap.size w u→u.rangeAt b (off+k*20) (rs.getD k qc).cells):=fun u hu=>xU hcell hu JJ
   have HS:Hid (∀ q:qb,q.v=(rs.getD k qc).v→uC rs (ts++[q]) (k+1)):=fun q hq=>hc.out.snoc hlt hq
   have HL:Hid (ts.length=k):=hc.out.1;clear hcell HC;generalize rs.getD k qc=z at*
   have e0:=k2.cell 0 _ rfl;have jR:Hid (∀ u,Below w.heap.size w u→Box u w.heap.size [.slice (some ⟨b,off,none⟩) rs.length c,.int .i64 s] 35→u.rangeAt b (off+k*20) z.cells∧u.cell? ⟨w.heap.size,0,none⟩=some (.slice (some ⟨b,off,none⟩) rs.length c)):=fun u h1 h2=>⟨HR.out u h1,h2.cell 0 _ rfl⟩
   go_wp2_with fail;refine wp_region_held_drew (S:=fun w'=>w'.rangeAt b (off+k*20) z.cells∧w'.cell? ⟨w.heap.size,0,none⟩=some (.slice (some ⟨b,off,none⟩) rs.length c)) (by kernel_rfl) ?_ (fun hHeld=>?_)
   ·exact jR.out _ hnx.drew (k0.drewN 1)
   refine tr 0 (.pointer (some ⟨w.heap.size+1+1,0,none⟩)) ?_;refine tr 2 (.pointer (some ⟨w.heap.size,0,none⟩)) ?_;refine tk 3 (v:=.slice (some ⟨b,off,none⟩) rs.length c) rfl (Or.inl ⟨by rfl,?_⟩) hHeld ?_
   ·intro w' hSw;have hx:=hSw.2;go_simp<;>rfl
   try simp only [zz]
   refine tr 4 (.int .i64 k) ?_;refine tr 5 (.pointer (some ⟨b,off+k*20,none⟩)) ?_;refine Go.Proofs.YtjkckhfddgeboaaGreatDoor.ts 6 rfl (yieldsIf_load_mid (by rfl) _ _ rfl _ _ rfl z.cells _ (fun _ h=>h.1) Tryz.underlying167 rfl HI.out) ?_;have hnd:Below wr.heap.size wr wr.drew:=(Below.refl _ _).drew;have C:=dC z wr.drew (hrd.below hnx.drew) hsh;refine wpAnyH_ready (rs:=[1,7]) (by kernel_rfl) (by simp) ?_;refine AllReadyH.cons rfl (fun K hK=>?_) (AllReadyH.cons rfl (fun K hK=>?_) AllReadyH.nil)
   ·go_simp;refine hK.out _ _ (hHeld) (fun hHeld=>?_);clear hK K;try simp only [zz]
    refine wpAnyH_ready (rs:=[7]) (by kernel_rfl) (by simp) ?_;refine AllReadyH.cons rfl (fun K hK=>?_) AllReadyH.nil;go_simp;refine C.mono ?_;clear C;rintro e u2 ⟨q,rfl,hq,hqo,hb2⟩;have hb2':Below wr.heap.size wr u2:=hnd.trans hb2;have hn2:Below w.heap.size w u2:=hnx.trans (hb2'.mono hnw);have k22:=k2.below hb2' k2.lt;have uy:=k0.below hb2' k0.lt;have k12:=k1.below hb2' k1.lt;have o2:=hown.below hb2';have QV:q.own u2 wr.heap.size u2.heap.size:=hqo;have hs2:=hb2'.size;refine hK.out _ _ (jR.out _ hn2 uy) (fun hHeld=>?_);clear hK K;try simp only [zz]
    refine wpAnyH_ready (rs:=[8]) (by kernel_rfl) (by simp) ?_;refine AllReadyH.cons rfl (fun K hK=>?_) AllReadyH.nil;go_simp;simp only [xg,JU,not_true_eq_false,Nat.lt_irrefl,or_self,if_false];go_simp;obtain ⟨W3,hW3,b3,hb3,hs3⟩:=qx u2 q.cells 167;rw [hW3.out];have Kh:Below w.heap.size w W3:=hn2.trans (hb3.mono hn2.size);have k23:=k22.below hb3 k22.lt;have uT:=uy.below hb3 uy.lt;have k13:=k12.below hb3 k12.lt;have o3:=o2.below hb3;have uU:=QV.below hb3;have r3:W3.rangeAt u2.heap.size 0 q.cells:=Box.range [] q.cells [] (by simpa using b3);have U3:=b3.lt;clear hs3 hb3 hW3 b3 uy k12 o2 QV;refine hK.out _ _ (jR.out _ Kh uT) (fun hHeld=>?_);clear hK K;try simp only [zz]
    have hll:ts.length+1≤68719476736:=by have:=HL.out;omega
    refine wpAnyH_ready (rs:=[9]) (by kernel_rfl) (by simp) ?_;refine AllReadyH.cons rfl (fun K hK=>?_) AllReadyH.nil;refine wY rfl (.tmp 16) (.tmp 23) rfl W.heap.size wr.heap.size a' c' ts rfl o3 u2.heap.size 0 1 q rfl r3 wr.heap.size u2.heap.size uU (Nat.le_refl _) (by omega) hll hsz ?_;intro a9 c9 w9 o9 g9 _;have HCM:=HS.out q hq.out;obtain ⟨ys,hys⟩:∃ ys,Hid (ts++[q]=ys):=⟨_,rfl⟩;rw [hys.out] at o9 HCM ⊢;have xL:Within W.heap.size wr.heap.size W3 w9:=Within.jw g9 (fun j hj=>⟨(o3.row.lt j hj).1,o3.blk j hj⟩);have ZK:=xL.size;have Je:Below w.heap.size w w9:=Kh.trans (xL.below (by omega) (by omega));have zR:=k23.within xL (by omega);have uV:=uT.within xL (by omega);have k19:=k13.within xL (by omega);refine hK.out _ _ (jR.out _ Je uV) (fun hHeld=>?_);clear hK K xL g9 o3 r3 uU k23 uT k13;try simp only [zz]
    refine tr 10 (.pointer (some ⟨w.heap.size+1+1,0,none⟩)) ?_;have m0:=zR.cell 0 _ rfl;have wZ:=zR.frozen 0;obtain ⟨WF,qF,kF,hwF,qN⟩:=jB zR 0 (.slice a9 ys.length c9);simp only [List.set] at kF;have Xg:=Nat.le_of_eq qN;have uK:=Nat.le_of_eq qN.symm;clear qN;have Ki:=uV.within hwF (by omega);have YO:=k19.within hwF (by omega);have oF:=(o9.within hwF (.inr (by omega))).widen (Nat.le_refl _) uK (Nat.le_refl _);have hnF:Below w.heap.size w WF:=Je.trans (hwF.below (by omega) (by omega));clear hwF zR uV k19 o9;refine wpAnyH_ready (rs:=[11]) (by kernel_rfl) (by simp) ?_;refine AllReadyH.cons rfl (fun K hK=>?_) AllReadyH.nil;go_simp;rw [qF.out];refine hK.out _ _ (jR.out _ hnF Ki) (fun hHeld=>?_);clear hK K;try simp only [zz]
    refine wpAnyH_done (by kernel_rfl) ?_ _;clear m0 wZ qF;go_wp2_with fail;go_roundw
    case rel=>exact ⟨k+1,ys,a9,c9,by omega,by go_num,HCM,kF,Ki,YO,oF,hnF,by omega⟩
    case measure=>simp [intOf];omega
   ·go_simp;refine C.mono ?_;clear C;rintro e u2 ⟨q,rfl,hq,hqo,hb2⟩;have hb2':Below wr.heap.size wr u2:=hnd.trans hb2;have hn2:Below w.heap.size w u2:=hnx.trans (hb2'.mono hnw);have k22:=k2.below hb2' k2.lt;have uy:=k0.below hb2' k0.lt;have k12:=k1.below hb2' k1.lt;have o2:=hown.below hb2';have QV:q.own u2 wr.heap.size u2.heap.size:=hqo;have hs2:=hb2'.size;refine hK.out _ _ (jR.out _ hn2 uy) (fun hHeld=>?_);clear hK K;try simp only [zz]
    refine wpAnyH_ready (rs:=[1,8]) (by kernel_rfl) (by simp) ?_;refine AllReadyH.cons rfl (fun K hK=>?_) (AllReadyH.cons rfl (fun K hK=>?_) AllReadyH.nil)
    ·have d0:=k22.cell 0 _ rfl;go_simp;refine hK.out _ _ (hHeld) (fun hHeld=>?_);clear hK K;try simp only [zz]
     refine wpAnyH_ready (rs:=[8]) (by kernel_rfl) (by simp) ?_;refine AllReadyH.cons rfl (fun K hK=>?_) AllReadyH.nil;go_simp;simp only [xg,JU,not_true_eq_false,Nat.lt_irrefl,or_self,if_false];go_simp;obtain ⟨W3,hW3,b3,hb3,hs3⟩:=qx u2 q.cells 167;rw [hW3.out];have Kh:Below w.heap.size w W3:=hn2.trans (hb3.mono hn2.size);have k23:=k22.below hb3 k22.lt;have uT:=uy.below hb3 uy.lt;have k13:=k12.below hb3 k12.lt;have o3:=o2.below hb3;have uU:=QV.below hb3;have r3:W3.rangeAt u2.heap.size 0 q.cells:=Box.range [] q.cells [] (by simpa using b3);have U3:=b3.lt;clear hs3 hb3 hW3 b3 uy k12 o2 QV;refine hK.out _ _ (jR.out _ Kh uT) (fun hHeld=>?_);clear hK K;try simp only [zz]
     have hll:ts.length+1≤68719476736:=by have:=HL.out;omega
     refine wpAnyH_ready (rs:=[9]) (by kernel_rfl) (by simp) ?_;refine AllReadyH.cons rfl (fun K hK=>?_) AllReadyH.nil;refine wY rfl (.tmp 16) (.tmp 23) rfl W.heap.size wr.heap.size a' c' ts rfl o3 u2.heap.size 0 1 q rfl r3 wr.heap.size u2.heap.size uU (Nat.le_refl _) (by omega) hll hsz ?_;intro a9 c9 w9 o9 g9 _;have HCM:=HS.out q hq.out;obtain ⟨ys,hys⟩:∃ ys,Hid (ts++[q]=ys):=⟨_,rfl⟩;rw [hys.out] at o9 HCM ⊢;have xL:Within W.heap.size wr.heap.size W3 w9:=Within.jw g9 (fun j hj=>⟨(o3.row.lt j hj).1,o3.blk j hj⟩);have ZK:=xL.size;have Je:Below w.heap.size w w9:=Kh.trans (xL.below (by omega) (by omega));have zR:=k23.within xL (by omega);have uV:=uT.within xL (by omega);have k19:=k13.within xL (by omega);refine hK.out _ _ (jR.out _ Je uV) (fun hHeld=>?_);clear hK K xL g9 o3 r3 uU k23 uT k13;try simp only [zz]
     refine tr 10 (.pointer (some ⟨w.heap.size+1+1,0,none⟩)) ?_;have m0:=zR.cell 0 _ rfl;have wZ:=zR.frozen 0;obtain ⟨WF,qF,kF,hwF,qN⟩:=jB zR 0 (.slice a9 ys.length c9);simp only [List.set] at kF;have Xg:=Nat.le_of_eq qN;have uK:=Nat.le_of_eq qN.symm;clear qN;have Ki:=uV.within hwF (by omega);have YO:=k19.within hwF (by omega);have oF:=(o9.within hwF (.inr (by omega))).widen (Nat.le_refl _) uK (Nat.le_refl _);have hnF:Below w.heap.size w WF:=Je.trans (hwF.below (by omega) (by omega));clear hwF zR uV k19 o9;refine wpAnyH_ready (rs:=[11]) (by kernel_rfl) (by simp) ?_;refine AllReadyH.cons rfl (fun K hK=>?_) AllReadyH.nil;go_simp;rw [qF.out];refine hK.out _ _ (jR.out _ hnF Ki) (fun hHeld=>?_);clear hK K;try simp only [zz]
     refine wpAnyH_done (by kernel_rfl) ?_ _;clear m0 wZ qF;go_wp2_with fail;go_roundw
     case rel=>exact ⟨k+1,ys,a9,c9,by omega,by go_num,HCM,kF,Ki,YO,oF,hnF,by omega⟩
     case measure=>simp [intOf];omega
    ·go_simp;simp only [xg,JU,not_true_eq_false,Nat.lt_irrefl,or_self,if_false];go_simp;obtain ⟨W3,hW3,b3,hb3,hs3⟩:=qx u2 q.cells 167;rw [hW3.out];have Kh:Below w.heap.size w W3:=hn2.trans (hb3.mono hn2.size);have k23:=k22.below hb3 k22.lt;have uT:=uy.below hb3 uy.lt;have k13:=k12.below hb3 k12.lt;have o3:=o2.below hb3;have uU:=QV.below hb3;have r3:W3.rangeAt u2.heap.size 0 q.cells:=Box.range [] q.cells [] (by simpa using b3);have U3:=b3.lt;clear hs3 hb3 hW3 b3 uy k12 o2 QV;refine hK.out _ _ (jR.out _ Kh uT) (fun hHeld=>?_);clear hK K;try simp only [zz]
     have d0:=k23.cell 0 _ rfl;refine wpAnyH_ready (rs:=[1]) (by kernel_rfl) (by simp) ?_;refine AllReadyH.cons rfl (fun K hK=>?_) AllReadyH.nil;go_simp;refine hK.out _ _ (hHeld) (fun hHeld=>?_);clear hK K;try simp only [zz]
     have hll:ts.length+1≤68719476736:=by have:=HL.out;omega
     refine wpAnyH_ready (rs:=[9]) (by kernel_rfl) (by simp) ?_;refine AllReadyH.cons rfl (fun K hK=>?_) AllReadyH.nil;refine wY rfl (.tmp 16) (.tmp 23) rfl W.heap.size wr.heap.size a' c' ts rfl o3 u2.heap.size 0 1 q rfl r3 wr.heap.size u2.heap.size uU (Nat.le_refl _) (by omega) hll hsz ?_;intro a9 c9 w9 o9 g9 _;have HCM:=HS.out q hq.out;obtain ⟨ys,hys⟩:∃ ys,Hid (ts++[q]=ys):=⟨_,rfl⟩;rw [hys.out] at o9 HCM ⊢;have xL:Within W.heap.size wr.heap.size W3 w9:=Within.jw g9 (fun j hj=>⟨(o3.row.lt j hj).1,o3.blk j hj⟩);have ZK:=xL.size;have Je:Below w.heap.size w w9:=Kh.trans (xL.below (by omega) (by omega));have zR:=k23.within xL (by omega);have uV:=uT.within xL (by omega);have k19:=k13.within xL (by omega);refine hK.out _ _ (jR.out _ Je uV) (fun hHeld=>?_);clear hK K xL g9 o3 r3 uU k23 uT k13;try simp only [zz]
     refine tr 10 (.pointer (some ⟨w.heap.size+1+1,0,none⟩)) ?_;have m0:=zR.cell 0 _ rfl;have wZ:=zR.frozen 0;obtain ⟨WF,qF,kF,hwF,qN⟩:=jB zR 0 (.slice a9 ys.length c9);simp only [List.set] at kF;have Xg:=Nat.le_of_eq qN;have uK:=Nat.le_of_eq qN.symm;clear qN;have Ki:=uV.within hwF (by omega);have YO:=k19.within hwF (by omega);have oF:=(o9.within hwF (.inr (by omega))).widen (Nat.le_refl _) uK (Nat.le_refl _);have hnF:Below w.heap.size w WF:=Je.trans (hwF.below (by omega) (by omega));clear hwF zR uV k19 o9;refine wpAnyH_ready (rs:=[11]) (by kernel_rfl) (by simp) ?_;refine AllReadyH.cons rfl (fun K hK=>?_) AllReadyH.nil;go_simp;rw [qF.out];refine hK.out _ _ (jR.out _ hnF Ki) (fun hHeld=>?_);clear hK K;try simp only [zz]
     refine wpAnyH_done (by kernel_rfl) ?_ _;clear m0 wZ qF;go_wp2_with fail;go_roundw
     case rel=>exact ⟨k+1,ys,a9,c9,by omega,by go_num,HCM,kF,Ki,YO,oF,hnF,by omega⟩
     case measure=>simp [intOf];omega
  ·have HE:Hid (ts.map qb.v=rs.map qb.v):=by
    have e:k=rs.length:=by omega
    rw [e] at hc;exact hc.out.all
   have e0:=k2.cell 0 _ rfl;have e1:=k2.cell 1 _ rfl;have m0:=k1.cell 0 _ rfl;have m1:=k1.cell 1 _ rfl;have wZ:=k1.frozen 0;have YP:=k1.frozen 1;obtain ⟨WF,qF,bF,hwF,qN⟩:=xD k1 (.slice a' ts.length c') (.int .i64 s);have q0:=bF.cell 0 _ rfl;have q1:=bF.cell 1 _ rfl;have xY:=(hown.within hwF (.inr (by omega))).widen (show w.heap.size≤W.heap.size by omega) (show wr.heap.size≤WF.heap.size by omega) (Nat.le_refl _);have xM:Below w.heap.size w WF:=hnx.trans (hwF.below (by omega) (by have:=hnx.size;omega));clear hwF qN bF;go_wp2;rw [qF.out];exact bodyPost_ret (v:=.agg #[.slice a' ts.length c',.int .i64 s]) (by simp [results,Tryz.results152,go_sem,q0,q1]) rfl ⟨⟨ts,s,a',c'⟩,rfl,by simp only [Hid,qi.v];rw [HE.out],xY,xM⟩
end Go.Proofs.YtjkckhfddgeboaaGreatDoor
namespace Go.Proofs.YtjkckhfddgeboaaGreatDoor
open Go.RowKit
def Gr (p:qi) (w:World) (e:Ending) (w':World):Prop:=
 ∃ (t:qi) (k:Int),e=.returned (.tuple #[.agg t.cells.toArray,.int .i64 k])∧Hid (zq p.v=(t.v,k))∧t.own w' w.heap.size w'.heap.size∧Below w.heap.size w w'
theorem Dt {p:jN} (h:¬ (jg p=true∧p.seats.length=3)):zq p=(p,-1):=by rw [zq,if_neg h]
theorem VP {p:jN} {h:Nat} (h1:jg p=true) (h2:p.seats.length=3) (hh:p.hand=h):zq p=(jN.mk (qL 4 p.seats h).1 ((qL 4 p.seats h).2.1:Int),((qL 4 p.seats h).2.2:Int)):=by
 rw [zq,if_pos ⟨h1,h2⟩,hh];rfl
theorem Za {p:jN} (h:jg p=true):∃ n:Nat,p.hand=n∧n<3:=by
 have h2:=(K4 h).2.1;simp only [inB,decide_eq_true_eq] at h2;exact ⟨p.hand.toNat,by omega,by omega⟩
def ng (w:World) (g k:Nat):Nat:=match w.cell? ⟨g,k*20+19,none⟩ with
 | some (.bool true)=>1
 | _=>0
theorem iC {α:Type} {ts:List α} (h:ts.length=3):∃ x y z,ts=[x,y,z]:=by
 match ts,h with
 | [x,y,z],_=>exact ⟨x,y,z,rfl⟩
def Q0 (g:Nat) (w:World):Nat:=ng w g 0+ng w g 1+ng w g 2
theorem Ww {w:World} {lo hi g c:Nat} {ts:List qb} (h:OwnSts w lo hi (some ⟨g,0,none⟩) c ts) (k:Nat) (hk:k<ts.length):ng w g k=if (ts.getD k qc).hot=true then 1 else 0:=by
 have hx:w.cell? ⟨g,k*20+19,none⟩=some (.bool (ts.getD k qc).hot):=(yf h.row rfl k hk).1 19 _ rfl;rw [ng,hx];cases (ts.getD k qc).hot<;>rfl
theorem Kc {w:World} {lo hi g c:Nat} {ts:List qb} (h:OwnSts w lo hi (some ⟨g,0,none⟩) c ts) (hl:ts.length=3):Q0 g w=Qf (ts.map qb.v):=by
 rw [Q0,Ww h 0 (by omega),Ww h 1 (by omega),Ww h 2 (by omega)];obtain ⟨x,y,z,rfl⟩:=iC hl;simp only [List.getD_cons_zero,List.getD_cons_succ,Qf,List.map_cons,List.map_nil,List.filter_cons,List.filter_nil];have e:∀ s:qb,s.v.hot=s.hot:=fun _=>rfl
 rw [e,e,e];cases x.hot<;>cases y.hot<;>cases z.hot<;>rfl
def Z7 (a:Act) (w:World):Nat:=
 match a.tmps.getD 4 undef with
 | .pointer (some ad)=>match w.cell? ⟨ad.block,0,none⟩ with
  | some (.slice (some b) _ _)=>Q0 b.block w
  | _=>0
 | _=>0
structure nk (w:World) (lo B g c:Nat) (ts:List qb) (hand:Int) (w':World):Prop where
 out:Box w' B [.slice (some ⟨g,0,none⟩) ts.length c,.int .i64 hand] 35
 res:Box w' (w.heap.size+1) [.slice none 0 0,.int .i64 0] 35
 own:OwnSts w' lo B (some ⟨g,0,none⟩) c ts
 lo1:w.heap.size+1<lo
 loB:lo≤B
 len:ts.length=3
 bel:Below w.heap.size w w'
theorem nk.cold {w wr:World} {lo B g c:Nat} {ts:List qb} {hand:Int} (st:nk w lo B g c ts hand wr) (k:Nat) (hk:k<3):
  ∃ W1,Hid (wr.setCell ⟨g,k*20+19,none⟩ (.bool false)=W1)∧nk w lo B g c (ts.set k (ts.getD k qc).cold) hand W1:=by
 have hkt:k<ts.length:=by rw [st.len];exact hk
 have hgl:=st.own.ql g (by simp [qo,Value.ownBlock]);have hkl:(ts.take k).length=k:=by rw [List.length_take];omega
 have fJ:=st.own;rw [wL ts k hkt] at fJ;obtain ⟨o4,t4⟩:=fJ.Jb (z':=(ts.getD k qc).cold) 19 (.bool false) (by omega) rfl rfl;rw [hkl,← Qc ts k _ hkt] at o4;rw [hkl] at t4;have h1:=st.lo1;have h2:=st.loB;refine ⟨_,rfl,?_,st.res.touch t4 (by simp;omega),o4,h1,h2,by simp [st.len],st.bel.trans ((t4.within (lo:=lo) (hi:=B) (fun j hj=>by obtain rfl:=List.mem_singleton.1 hj;exact hgl)).below (by omega) (by have:=st.bel.size;omega))⟩;have:=st.out.touch t4 (by simp;omega);rw [List.length_set];exact this
theorem uR (k:Nat) (hk:k<3) (w:World):Calls Tryz.prog 379 #[.int .i64 (k:Int)] w fun e w'=>e=.returned (.int .i64 (((k+1) % 3:Nat):Int))∧w'=w:=by
 have HM:Hid (((k:Int)+1) % 3=(((k+1) % 3:Nat):Int)):=by rw [Hid];omega
 go_enter Tryz.func379,Tryz.ntmps379;go_wp2;go_ret;exact ⟨ja (by first | exact HM.out | omega),rfl⟩
theorem pV (p:qi) (w:World) (hg:kK w) (hr:p.reads w) (hl:p.short 1048576):
  Calls Tryz.prog 367 #[.agg p.cells.toArray] w fun e w'=>Gr p w e w':=by
 obtain ⟨W,hW,b0,b1,hbW,qp⟩:=jf w [.slice p.a p.seats.length p.c,.int .i64 p.hand] [.slice none 0 0,.int .i64 0] 35 35;have hs0:w.heap.size+1<W.heap.size:=by omega
 have p0:=b0.cell 0 _ rfl;have p1:=b0.cell 1 _ rfl;have C:=zL p W (qi.reads.below hr hbW) hl;simp only [qi.cells] at*
 clear qp;go_enter Tryz.func367,Tryz.ntmps367;go_wp2;refine wp_scope_jumps 0 (fun a' w'=>∃ (lo B g c k n:Nat) (ts:List qb) (hand:Int) (x0 x3 x6 x7 x8 x9 kJ xy xz xG xm x15 x16 x17 o8 XK x20 x21 x22 x23 x24 x25 x26 x27 x28 x29 x30 x31 x32 x33 x34 x35 x36 x37:Value),a'={ tmps:=#[x0,.pointer (some ⟨w.heap.size,0,none⟩),.pointer (some ⟨w.heap.size+1,0,none⟩),x3,.pointer (some ⟨B,0,none⟩),.int .i64 (k:Int),x6,x7,x8,x9,kJ,xy,xz,xG,xm,x15,x16,x17,o8,XK,x20,x21,x22,x23,x24,x25,x26,x27,x28,x29,x30,x31,x32,x33,x34,x35,x36,x37],defers:=[] }∧nk w lo B g c ts hand w'∧k<3∧Hid (zq p.v=(jN.mk (qL n (ts.map qb.v) k).1 ((qL n (ts.map qb.v) k).2.1:Int),((qL n (ts.map qb.v) k).2.2:Int)))∧Qf (ts.map qb.v)<n) Z7 rfl ?_ ?_
 ·go_upto_region 1 with fail;rw [hW.out];clear hW;go_wp2_with fail;refine C.mono ?_;clear C p0 p1;rintro e w1 ⟨t,rfl,hv,ho,hb1⟩;have hs1:=hb1.size;have b01:=b0.below hb1 b0.lt;have b11:=b1.below hb1 b1.lt;obtain ⟨W2,hW2,b2,hb2,hs2⟩:=qx w1 [.slice t.a t.seats.length t.c,.int .i64 t.hand] 35;have b02:=b01.below hb2 b01.lt;have b12:=b11.below hb2 b11.lt;have o2:=ho.below hb2;have n2:Below w.heap.size w W2:=(hbW.trans (hb1.mono (by omega))).trans (hb2.mono (by omega));have sM:=b2.lt;clear b0 b1 b01 b11 ho hb1 hb2 hs2 hbW;go_upto_region 2 with fail;rw [hW2.out];clear hW2;have p0:=b02.cell 0 _ rfl;have p1:=b02.cell 1 _ rfl;have HV:Hid (t.v=p.v):=hv.out;clear hv;have C:=J2 p W2 (hg.keep n2) (qi.reads.below hr n2) (qi.qZ hl);simp only [qi.cells] at C;go_wp2_with fail;refine C.mono ?_;clear C p0 p1;rintro e w3 ⟨rfl,hb3⟩;have hs3:=hb3.size;have JO:=b02.below hb3 b02.lt;have b13:=b12.below hb3 b12.lt;have zh:=b2.below hb3 b2.lt;have o3:=o2.below hb3;have n3:Below w.heap.size w w3:=n2.trans (hb3.mono n2.size);have p0:=JO.cell 0 _ rfl;have p1:=JO.cell 1 _ rfl;clear b02 b12 b2 o2 n2 hb3;by_cases Pb:jg p.v=true∧p.seats.length=3
  ·obtain ⟨h1,h2⟩:=Pb;obtain ⟨k,hh,hk3⟩:=Za h1;have fE:=VP (h:=k) h1 (by simpa [qi.v] using h2) hh;have hne:((p.seats.length:Int) != 3)=false:=by rw [h2];rfl
   rw [h1];clear h1;have hph:p.hand=(k:Int):=hh;rw [hph] at p1;obtain ⟨ts,hand,a,c⟩:=t;simp only [qi.own] at*
   have htl:ts.length=3:=by
    have e:=congrArg (fun v=>v.seats.length) HV.out;simp only [qi.v,List.length_map] at e;omega
   obtain ⟨g,rfl⟩:∃ g,a=some ⟨g,0,none⟩:=by
    rcases o3.row.2 with ⟨_,h0⟩ | ⟨g,cap',cur,hv,_⟩
    ·omega
    ·simp only [Value.slice.injEq] at hv;exact ⟨g,hv.1⟩
   have st:nk w W.heap.size w1.heap.size g c ts hand w3:=⟨zh,b13,o3,hs0,hs1,htl,n3⟩;have eps:p.v.seats=ts.map qb.v:=by rw [← HV.out];rfl
   rw [eps] at fE;have Oa:Hid (zq p.v=(jN.mk (qL 4 (ts.map qb.v) k).1 ((qL 4 (ts.map qb.v) k).2.1:Int),((qL 4 (ts.map qb.v) k).2.2:Int))):=fE;obtain ⟨n,hvv,Ud⟩:∃ n,Hid (zq p.v=(jN.mk (qL n (ts.map qb.v) k).1 ((qL n (ts.map qb.v) k).2.1:Int),((qL n (ts.map qb.v) k).2.2:Int)))∧Qf (ts.map qb.v)<n:=⟨4,Oa,by have:=fQ (ts.map qb.v);rw [List.length_map] at this;omega⟩;obtain ⟨lo,hlo⟩:∃ lo,Hid (W.heap.size=lo):=⟨_,rfl⟩;obtain ⟨B,hB⟩:∃ B,Hid (w1.heap.size=B):=⟨_,rfl⟩;rw [hlo.out,hB.out] at st;have qfN:Hid (p.seats.length=3):=h2;clear Oa fE eps zh b13 o3 htl n3 JO hh h2 hph hlo hs0 hs1 sM hs3 HV;rw [hB.out];clear hB;generalize p.hand=hp at*
   obtain ⟨wr,hwr⟩:∃ wr,Hid (w3=wr):=⟨_,rfl⟩;rw [hwr.out] at st p0 p1 ⊢;clear hwr w3;go_wp2_with fail
   go_step3
   clear p0 p1;have hkt:k<ts.length:=by rw [st.len];exact hk3
   have x0:=st.out.cell 0 _ rfl;have XK:wr.cell? ⟨g,k*20+19,none⟩=some (.bool (ts.getD k qc).hot):=(yf st.own.row rfl k hkt).1 19 _ rfl;have f19:=st.own.row.frozenAt (k*20+19);have hkk:(k:Int)<(ts.length:Int):=by omega
   have hk0:(0:Int)≤(k:Int):=by omega
   obtain ⟨m,rfl⟩:∃ m,n=m+1:=⟨n-1,by omega⟩;have hlm:ts.length≤3:=by rw [st.len];omega
   rw [YL] at hvv;by_cases hot:(ts.getD k qc).hot=true
   ·
    rw [if_pos hot] at hvv;rw [hot] at XK;obtain ⟨W1,hW1,st1⟩:=st.cold k hk3;have C:=uR k hk3 W1;have Ob:Hid (zq p.v=(jN.mk (qL m ((ts.set k (ts.getD k qc).cold).map qb.v) ((k+1) % 3)).1 ((qL m ((ts.set k (ts.getD k qc).cold).map qb.v) ((k+1) % 3)).2.1:Int),((qL m ((ts.set k (ts.getD k qc).cold).map qb.v) ((k+1) % 3)).2.2:Int))):=by
     rw [List.map_set,Zi];exact hvv
    have RI:Qf ((ts.set k (ts.getD k qc).cold).map qb.v)+1=Qf (ts.map qb.v):=by
     have h:=Wx (ts.map qb.v) k (by simpa using hkt) (by rw [jZ];exact hot);rw [jZ] at h;rw [List.map_set,Zi];exact h
    have HMS:Hid (Q0 g W1<Q0 g wr):=by rw [Hid,Kc st1.own st1.len,Kc st.own st.len];omega
    have HK:Hid ((k+1) % 3<3):=Nat.mod_lt _ (by omega);have Oc:Hid (W1.cell? ⟨B,0,none⟩=some (.slice (some ⟨g,0,none⟩) ts.length c)∧wr.cell? ⟨B,0,none⟩=some (.slice (some ⟨g,0,none⟩) ts.length c)):=⟨by have:=st1.out.cell 0 _ rfl;rw [List.length_set] at this;exact this,x0⟩;have Od:Hid (Qf ((ts.set k (ts.getD k qc).cold).map qb.v)<m):=by rw [Hid];omega
    clear hvv hot RI Ud st;generalize hts:ts.set k (ts.getD k qc).cold=Oe at*
    clear hts;generalize (k+1) % 3=k1 at*
    go_wp2_with fail;rw [hW1.out];refine C.mono ?_;clear C x0 XK f19 hW1;rintro e u ⟨rfl,hu⟩;rw [hu];clear hu u;go_wp2
    go_step3
    exact ⟨rfl,lo,B,g,c,k1,m,Oe,hand,_,_,_,_,_,_,_,_,_,_,_,_,_,_,_,_,_,_,_,_,_,_,_,_,_,_,_,_,_,_,_,_,_,_,rfl,st1,HK.out,Ob,Od.out⟩
   ·
    rw [if_neg hot] at hvv;have Pd:(ts.getD k qc).hot=false:=by simpa using hot
    rw [Pd] at XK;have C:=uR k hk3 wr;have vX:Hid (zq p.v=(qi.v ⟨ts,(((k+1) % 3:Nat):Int),some ⟨g,0,none⟩,c⟩,(k:Int))):=hvv.out;have y1:=st.out.cell 1 _ rfl;have yf1:=st.out.frozen 1;have hl1:=st.lo1;have hl2:=st.loB;obtain ⟨W1,hW1,Ue,hw1,hs1⟩:=jB st.out 1 (.int .i64 (((k+1) % 3:Nat):Int));simp only [List.set] at Ue;have Zj:=st.res.within hw1 (by omega);have Td:=st.own.within hw1 (.inl (Nat.le_refl _));have n1:Below w.heap.size w W1:=st.bel.trans (hw1.below (by omega) (by have:=st.bel.size;omega));have e0:=Ue.cell 0 _ rfl;have e1:=Ue.cell 1 _ rfl;have m0:=Zj.cell 0 _ rfl;have m1:=Zj.cell 1 _ rfl;have wZ:=Zj.frozen 0;have YP:=Zj.frozen 1;obtain ⟨WF,qF,bF,hwF,qN⟩:=xD Zj (.slice (some ⟨g,0,none⟩) ts.length c) (.int .i64 (((k+1) % 3:Nat):Int));have q0:=bF.cell 0 _ rfl;have q1:=bF.cell 1 _ rfl;have hBW:=Ue.lt;have xY:=(Td.within hwF (.inr (by omega))).widen (show w.heap.size≤lo by omega) (show B≤WF.heap.size by omega) (Nat.le_refl _);have xM:Below w.heap.size w WF:=n1.trans (hwF.below (by omega) (by have:=n1.size;omega));clear hvv hot Pd Ud st Ue Zj Td n1 hwF qN bF hw1 hs1;generalize (((k+1) % 3:Nat):Int)=k1 at*
    go_wp2_with fail;refine C.mono ?_;clear C x0 XK f19;rintro e u ⟨rfl,hu⟩;rw [hu];clear hu u;go_upto_region 9 with fail;rw [hW1.out];clear hW1;go_wp2_with fail;rw [qF.out];simp only [Exit.jump];exact bodyPost_ret (v:=.tuple #[.agg #[.slice (some ⟨g,0,none⟩) ts.length c,.int .i64 k1],.int .i64 (k:Int)]) (by simp [results,Tryz.results367,go_sem,q0,q1]) rfl ⟨⟨ts,k1,some ⟨g,0,none⟩,c⟩,k,rfl,vX,xY,xM⟩
  ·have Nt:Hid (zq p.v=(t.v,-1)):=by
    rw [Hid,Dt (by simpa [qi.v] using Pb),HV.out]
   cases h1:jg p.v with
   | true=>
    have hne:((p.seats.length:Int) != 3)=true:=by
     have:¬ p.seats.length=3:=fun h=>Pb ⟨h1,h⟩
     simp only [bne_iff_ne,ne_eq];omega
    clear Pb HV h1;have e0:=zh.cell 0 _ rfl;have e1:=zh.cell 1 _ rfl;have m0:=b13.cell 0 _ rfl;have m1:=b13.cell 1 _ rfl;have wZ:=b13.frozen 0;have YP:=b13.frozen 1;obtain ⟨WF,qF,bF,hwF,qN⟩:=xD b13 (.slice t.a t.seats.length t.c) (.int .i64 t.hand);have q0:=bF.cell 0 _ rfl;have q1:=bF.cell 1 _ rfl;have xY:=(qi.own.within o3 hwF (.inr (by omega))).widen (show w.heap.size≤W.heap.size by omega) (show w1.heap.size≤WF.heap.size by omega) (Nat.le_refl _);have xM:Below w.heap.size w WF:=n3.trans (hwF.below (by omega) (by omega));clear hwF qN bF o3 b13 zh;go_wp2_with fail;rw [qF.out];simp only [Exit.jump];exact bodyPost_ret (v:=.tuple #[.agg #[.slice t.a t.seats.length t.c,.int .i64 t.hand],.int .i64 (-1)]) (by simp [results,Tryz.results367,go_sem,q0,q1]) rfl ⟨t,-1,rfl,Nt,xY,xM⟩
   | false=>
    clear Pb HV h1;have e0:=zh.cell 0 _ rfl;have e1:=zh.cell 1 _ rfl;have m0:=b13.cell 0 _ rfl;have m1:=b13.cell 1 _ rfl;have wZ:=b13.frozen 0;have YP:=b13.frozen 1;obtain ⟨WF,qF,bF,hwF,qN⟩:=xD b13 (.slice t.a t.seats.length t.c) (.int .i64 t.hand);have q0:=bF.cell 0 _ rfl;have q1:=bF.cell 1 _ rfl;have xY:=(qi.own.within o3 hwF (.inr (by omega))).widen (show w.heap.size≤W.heap.size by omega) (show w1.heap.size≤WF.heap.size by omega) (Nat.le_refl _);have xM:Below w.heap.size w WF:=n3.trans (hwF.below (by omega) (by omega));clear hwF qN bF o3 b13 zh;go_wp2_with fail;rw [qF.out];simp only [Exit.jump];exact bodyPost_ret (v:=.tuple #[.agg #[.slice t.a t.seats.length t.c,.int .i64 t.hand],.int .i64 (-1)]) (by simp [results,Tryz.results367,go_sem,q0,q1]) rfl ⟨t,-1,rfl,Nt,xY,xM⟩
 ·clear C hW b0 b1 p0 p1 hr hl hg hbW hs0;rintro a' wr ⟨lo,B,g,c,k,n,ts,hand,z0,x3,x6,x7,x8,x9,kJ,xy,xz,xG,xm,x15,x16,x17,o8,z19,x20,x21,x22,x23,x24,x25,x26,x27,x28,x29,x30,x31,x32,x33,x34,x35,x36,x37,rfl,st,hk3,hvv,Ud⟩;have hkt:k<ts.length:=by rw [st.len];exact hk3
  have x0:=st.out.cell 0 _ rfl;have XK:wr.cell? ⟨g,k*20+19,none⟩=some (.bool (ts.getD k qc).hot):=(yf st.own.row rfl k hkt).1 19 _ rfl;have f19:=st.own.row.frozenAt (k*20+19);have hkk:(k:Int)<(ts.length:Int):=by omega
  have hk0:(0:Int)≤(k:Int):=by omega
  obtain ⟨m,rfl⟩:∃ m,n=m+1:=⟨n-1,by omega⟩;have hlm:ts.length≤3:=by rw [st.len];omega
  rw [YL] at hvv;by_cases hot:(ts.getD k qc).hot=true
  ·
   rw [if_pos hot] at hvv;rw [hot] at XK;obtain ⟨W1,hW1,st1⟩:=st.cold k hk3;have C:=uR k hk3 W1;have Ob:Hid (zq p.v=(jN.mk (qL m ((ts.set k (ts.getD k qc).cold).map qb.v) ((k+1) % 3)).1 ((qL m ((ts.set k (ts.getD k qc).cold).map qb.v) ((k+1) % 3)).2.1:Int),((qL m ((ts.set k (ts.getD k qc).cold).map qb.v) ((k+1) % 3)).2.2:Int))):=by
    rw [List.map_set,Zi];exact hvv
   have RI:Qf ((ts.set k (ts.getD k qc).cold).map qb.v)+1=Qf (ts.map qb.v):=by
    have h:=Wx (ts.map qb.v) k (by simpa using hkt) (by rw [jZ];exact hot);rw [jZ] at h;rw [List.map_set,Zi];exact h
   have HMS:Hid (Q0 g W1<Q0 g wr):=by rw [Hid,Kc st1.own st1.len,Kc st.own st.len];omega
   have HK:Hid ((k+1) % 3<3):=Nat.mod_lt _ (by omega);have Oc:Hid (W1.cell? ⟨B,0,none⟩=some (.slice (some ⟨g,0,none⟩) ts.length c)∧wr.cell? ⟨B,0,none⟩=some (.slice (some ⟨g,0,none⟩) ts.length c)):=⟨by have:=st1.out.cell 0 _ rfl;rw [List.length_set] at this;exact this,x0⟩;have Od:Hid (Qf ((ts.set k (ts.getD k qc).cold).map qb.v)<m):=by rw [Hid];omega
   clear hvv hot RI Ud st;generalize hts:ts.set k (ts.getD k qc).cold=Oe at*
   clear hts;generalize (k+1) % 3=k1 at*
   go_wp2_with fail;rw [hW1.out];refine C.mono ?_;clear C x0 XK f19 hW1;rintro e u ⟨rfl,hu⟩;rw [hu];clear hu u;go_wp2
   go_step3
   refine ⟨rfl,⟨lo,B,g,c,k1,m,Oe,hand,_,_,_,_,_,_,_,_,_,_,_,_,_,_,_,_,_,_,_,_,_,_,_,_,_,_,_,_,_,_,_,_,_,_,rfl,st1,HK.out,Ob,Od.out⟩,?_⟩;have h1:=HMS.out;have e1:=Oc.out.1;have e2:=Oc.out.2;simp only [Z7]
   simpa [e1,e2] using h1
  ·
   rw [if_neg hot] at hvv;have Pd:(ts.getD k qc).hot=false:=by simpa using hot
   rw [Pd] at XK;have C:=uR k hk3 wr;have vX:Hid (zq p.v=(qi.v ⟨ts,(((k+1) % 3:Nat):Int),some ⟨g,0,none⟩,c⟩,(k:Int))):=hvv.out;have y1:=st.out.cell 1 _ rfl;have yf1:=st.out.frozen 1;have hl1:=st.lo1;have hl2:=st.loB;obtain ⟨W1,hW1,Ue,hw1,hs1⟩:=jB st.out 1 (.int .i64 (((k+1) % 3:Nat):Int));simp only [List.set] at Ue;have Zj:=st.res.within hw1 (by omega);have Td:=st.own.within hw1 (.inl (Nat.le_refl _));have n1:Below w.heap.size w W1:=st.bel.trans (hw1.below (by omega) (by have:=st.bel.size;omega));have e0:=Ue.cell 0 _ rfl;have e1:=Ue.cell 1 _ rfl;have m0:=Zj.cell 0 _ rfl;have m1:=Zj.cell 1 _ rfl;have wZ:=Zj.frozen 0;have YP:=Zj.frozen 1;obtain ⟨WF,qF,bF,hwF,qN⟩:=xD Zj (.slice (some ⟨g,0,none⟩) ts.length c) (.int .i64 (((k+1) % 3:Nat):Int));have q0:=bF.cell 0 _ rfl;have q1:=bF.cell 1 _ rfl;have hBW:=Ue.lt;have xY:=(Td.within hwF (.inr (by omega))).widen (show w.heap.size≤lo by omega) (show B≤WF.heap.size by omega) (Nat.le_refl _);have xM:Below w.heap.size w WF:=n1.trans (hwF.below (by omega) (by have:=n1.size;omega));clear hvv hot Pd Ud st Ue Zj Td n1 hwF qN bF hw1 hs1;generalize (((k+1) % 3:Nat):Int)=k1 at*
   go_wp2_with fail;refine C.mono ?_;clear C x0 XK f19;rintro e u ⟨rfl,hu⟩;rw [hu];clear hu u;go_upto_region 9 with fail;rw [hW1.out];clear hW1;go_wp2_with fail;rw [qF.out];simp only [Exit.jump];exact bodyPost_ret (v:=.tuple #[.agg #[.slice (some ⟨g,0,none⟩) ts.length c,.int .i64 k1],.int .i64 (k:Int)]) (by simp [results,Tryz.results367,go_sem,q0,q1]) rfl ⟨⟨ts,k1,some ⟨g,0,none⟩,c⟩,k,rfl,vX,xY,xM⟩
end Go.Proofs.YtjkckhfddgeboaaGreatDoor
namespace Go.Proofs.YtjkckhfddgeboaaGreatDoor
open Go.RowKit
attribute [local go_sem ↓] Go.wp_at_zero Go.wp_at_succ
def Gp (p:qi) (no lsn:Int) (ss:List jy) (w:World) (e:Ending) (w':World):Prop:=
 ∃ (t:qi) (s:qb) (b:Bool),e=.returned (.tuple #[.agg t.cells.toArray,.agg s.cells.toArray,.bool b])∧Hid (vv p.v no lsn ss=(t.v,s.v,b))∧t.own w' w.heap.size w'.heap.size∧s.own w' w.heap.size w'.heap.size∧Below w.heap.size w w'
theorem vz {P:Program} {fn:Func} {s t u:Nat} {ty tz:TypeId} {tmps:Array Value} {w:World} {v x:Value} {b:Bool} {ad ae:Addr} (hf:fn.results=#[.cell s ty,.cell t tz,.tmp u]) (ht:tmps[s]?.getD undef=.pointer (some ad)) (hu:tmps[t]?.getD undef=.pointer (some ae)) (hl:(loadVar ty ad).run P w=.ok v w) (hm:(loadVar tz ae).run P w=.ok x w) (hb:tmps[u]?.getD undef=.bool b):(results fn tmps).run P w=.ok (.tuple #[v,x,.bool b]) w:=by
 unfold results;rw [hf];simp [ht,hu,hb,asAddr,hl,hm]
theorem K3 {p:jN} {no lsn:Int} {ss:List jy} (h:xw p no lsn ss=false):vv p no lsn ss=(p,qD,false):=by rw [vv,if_neg (by rw [h];decide)]
theorem RJ {p:jN} {no lsn:Int} {ss:List jy} (h:jg p=false):xw p no lsn ss=false:=by rw [xw,h];rfl
theorem AB {p:jN} {no lsn:Int} {ss:List jy} (h:inB no 0 7=false):xw p no lsn ss=false:=by rw [xw,h];simp
theorem RL {p:jN} {no lsn:Int} {ss:List jy} (h:ze lsn ss=false):xw p no lsn ss=false:=by rw [xw,h];simp
theorem Bp {p:jN} {no lsn:Int} {ss:List jy} (h:0≤qy p.seats no):xw p no lsn ss=false:=by
 rw [xw,decide_eq_false (by omega:¬ qy p.seats no<0)];simp
theorem MJ {p:jN} {no lsn:Int} {ss:List jy} (h1:jg p=true) (h2:inB no 0 7=true) (h3:ze lsn ss=true) (h4:qy p.seats no<0):xw p no lsn ss=true:=by
 rw [xw,h1,h2,h3,decide_eq_true h4];rfl
end Go.Proofs.YtjkckhfddgeboaaGreatDoor
namespace Go.Proofs.YtjkckhfddgeboaaGreatDoor
open Go.RowKit
theorem OwnSts.AJ {w:World} {lo hi g c:Nat} {A B:List qb} {z:qb} (h:OwnSts w lo hi (some ⟨g,0,none⟩) c (A++z::B)) (q:qb) {l u:Nat} (hq:q.own w l u) (hl:u≤lo) (hlo:lo≤hi) (hlu:l≤u):
  ∃ W,Hid (w.setCells g (A.length*20) q.cells=W)∧OwnSts W l hi (some ⟨g,0,none⟩) c (A++q::B)∧Touch [g] w W∧W.heap.size=w.heap.size:=by
 have Cn:=h.row;have hrow:=kM (base':=l) Cn (fun k hk=>by have:=(Cn.lt k hk).1;omega);rw [yU,xV,List.length_append,List.length_cons] at hrow;have hg:lo≤g∧g<hi:=⟨(Cn.lt g rfl).1,h.blk g rfl⟩;obtain ⟨h1,h2⟩:=XN q.cells (jr A) z.cells (jr B) w hrow rfl;rw [Qe] at h1 h2;have ht:Touch [g] w (w.setCells g (A.length*20) q.cells):=Touch.jw h2 (fun k hk=>by cases hk;simp);have hap:=h.apart;simp only [List.flatMap_append,List.flatMap_cons,Value.ownBlock,Option.toList,List.singleton_append,List.nodup_cons,List.nodup_append,List.mem_append,not_or] at hap;obtain ⟨⟨n1,n2,n3⟩,a1,⟨a2,a3,a4⟩,a5⟩:=hap;have xB:=hq.ql;have hA:∀ x∈A.flatMap qb.blocks,lo≤x∧x<hi:=fun x hx=>by
  obtain ⟨r,hr,hx⟩:=List.mem_flatMap.1 hx;exact (h.each r (by simp [hr])).ql x hx
 have hB:∀ x∈B.flatMap qb.blocks,lo≤x∧x<hi:=fun x hx=>by
  obtain ⟨r,hr,hx⟩:=List.mem_flatMap.1 hx;exact (h.each r (by simp [hr])).ql x hx
 have hsz:=KL g q.cells (A.length*20) w;refine ⟨_,rfl,⟨?_,?_,fun k hk=>?_,fun r hr=>?_,?_⟩,ht,hsz⟩
 ·rw [yU,xV,List.length_append,List.length_cons];exact h1
 ·rw [hsz];have:=h.top;omega
 ·cases hk;exact hg.2
 ·rcases List.mem_append.1 hr with hr | hr
  ·exact ((h.each r (by simp [hr])).touch ht (fun k hk hk'=>n1 (by rw [← List.mem_singleton.1 hk'];exact List.mem_flatMap.2 ⟨r,hr,hk⟩))).widen (by omega) (Nat.le_refl _) (by rw [hsz];have:=h.top;omega)
  ·rcases List.mem_cons.1 hr with rfl | hr
   ·exact (hq.touch ht (fun k hk hk'=>by have:=xB k hk;have:=List.mem_singleton.1 hk';omega)).widen (Nat.le_refl _) (by omega) (by rw [hsz];have:=h.top;omega)
   ·exact ((h.each r (by simp [hr])).touch ht (fun k hk hk'=>n3 (by rw [← List.mem_singleton.1 hk'];exact List.mem_flatMap.2 ⟨r,hr,hk⟩))).widen (by omega) (Nat.le_refl _) (by rw [hsz];have:=h.top;omega)
 ·simp only [List.flatMap_append,List.flatMap_cons,Value.ownBlock,Option.toList,List.singleton_append,List.nodup_cons,List.nodup_append,List.mem_append,not_or];refine ⟨⟨n1,fun hk=>by have:=xB g hk;omega,n3⟩,a1,⟨hq.apart,a3,fun x hx y hy e=>by have:=xB x hx;have:=hB y hy;omega⟩,fun x hx y hy e=>?_⟩;rcases hy with hy | hy
  ·have:=xB y hy;have:=hA x hx;omega
  ·exact a5 x hx y (.inr hy) e
theorem pQ {w:World} {ops:Array Oper} {rest:List Oper} {o:Oper} {act:Act} {Q:Exit→Act→World→Prop} (hgd:o.guard=none) (s x:Operand)
  (ho:o.op=.call { callee:=.builtin .append,args:=#[s,x],argTypes:=#[33,33] })
  (lo hi:Nat) (a:Option Addr) (c:Nat) (rs:List qb) (hs:act.eval s=.slice a rs.length c) (hown:OwnSts w lo hi a c rs)
  (b off:Nat) (sc:Nat) (q:qb) (hx:act.eval x=.slice (some ⟨b,off,none⟩) 1 sc) (hr:w.rangeAt b off q.cells) (l u:Nat) (hq:q.own w l u) (hl:u≤lo) (hlu:l≤u)
  (hb:rs.length+1≤68719476736) (hlo:lo≤hi)
  (h:∀ a' c' w',OwnSts w' l w'.heap.size a' c' (rs++[q])→w.grownBy w' (Value.slice a rs.length c).ownBlock→wpList Tryz.prog ops Q rest (act.put o.dst (.slice a' (rs++[q]).length c')) w'):
  wpList Tryz.prog ops Q (o::rest) act w:=by
 obtain ⟨i0,hi0,hz0,hz1,hz2⟩:=info_parts Tryz.ZH;have xB:=hq.ql;have htop:=hown.top;refine wpList_append_own w hgd s x 33 ho lo 167 i0 (.agg qc.cells.toArray) 20 280 Tryz.underlying33 hi0 hz0 hz1 hz2 rfl (by decide) _ _ _ hs hown.row ⟨b,off,none⟩ 1 sc q.cells hx (by rfl) ?_ (gQ q) (by simp only [maxLen];omega) (by omega) (by omega) (fun v' w' h1 h2 _=>?_)
 ·intro j v hj;rw [yS];exact hr j v hj
 ·have e:jr rs++q.cells=jr (rs++[q]):=by rw [yU,xV];simp [jr]
  have e2:rs.length+1=(rs++[q]).length:=by simp
  rw [e,e2] at h1;have sh:∃ a' c',v'=.slice a' (rs++[q]).length c':=by
   rcases h1.2 with ⟨rfl,h0⟩ | ⟨g,cap,cur,rfl,_⟩
   ·simp at h0
   ·exact ⟨_,_,rfl⟩
  obtain ⟨a',c',rfl⟩:=sh;have hsz:=h2.size;have ht:Touch (Value.slice a rs.length c).ownBlock.toList w w':=Touch.jw h2 (fun k hk=>Option.mem_toList.2 hk);have hrow:=h1.lt;have hold:∀ r∈rs,r.own w' l w'.heap.size:=fun r hr=>((hown.each r hr).touch ht (fun k hk hk'=>(List.nodup_append.1 hown.apart).2.2 k hk' k (List.mem_flatMap.2 ⟨r,hr,hk⟩) rfl)).widen (by omega) (by omega) (Nat.le_refl _)
  have hnew:q.own w' l w'.heap.size:=(hq.touch ht (fun k hk hk'=>by have:=xB k hk;have:=(hown.row.lt k (Option.mem_toList.1 hk')).1;omega)).widen (Nat.le_refl _) (by omega) (Nat.le_refl _);refine h a' c' w' ⟨kM h1 (fun k hk=>by have:=(h1.lt k hk).1;omega),Nat.le_refl _,fun k hk=>(hrow k hk).2,fun r hr=>?_,?_⟩ h2
  ·rcases List.mem_append.1 hr with hr | hr
   ·exact hold r hr
   ·obtain rfl:=List.mem_singleton.1 hr;exact hnew
  ·rw [List.flatMap_append,List.nodup_append,List.nodup_append];have hap:=(List.nodup_append.1 hown.apart).2.1;have hin:∀ x∈rs.flatMap qb.blocks,lo≤x∧x<hi:=fun x hx=>by
    obtain ⟨r,hr,hx⟩:=List.mem_flatMap.1 hx;exact (hown.each r hr).ql x hx
   refine ⟨by cases (Value.slice a' (rs++[q]).length c').ownBlock<;>simp,⟨hap,by simpa using hq.apart,fun x hx y hy e=>?_⟩,fun x hx y hy e=>?_⟩
   ·have:=hin x hx;simp only [List.flatMap_cons,List.flatMap_nil,List.append_nil] at hy;have:=xB y hy;omega
   ·have hx':=Option.mem_toList.1 hx;subst e;rcases List.mem_append.1 hy with hy | hy
    ·obtain ⟨r,hr,hy⟩:=List.mem_flatMap.1 hy;exact wK h1 (hold r hr) x hx' hy
    ·simp only [List.flatMap_cons,List.flatMap_nil,List.append_nil] at hy;exact wK h1 hnew x hx' hy
end Go.Proofs.YtjkckhfddgeboaaGreatDoor
namespace Go.Proofs.YtjkckhfddgeboaaGreatDoor
open Go.RowKit
end Go.Proofs.YtjkckhfddgeboaaGreatDoor