/- Several texts in one, in their order. -/
import Derived.Test.YtjkckhfddgeboaaGreatDoorPGetx8
import Derived.Deep.RegionLaw
import Derived.Deep.DrawnRows
import Derived.Test.YtjkckhfddgeboaaGreatDoorPGetx7
import Derived.Test.YtjkckhfddgeboaaGreatDoorPGetx4
import Derived.Test.YtjkckhfddgeboaaGreatDoorPGetx1
import Derived.Test.YtjkckhfddgeboaaGreatDoorPGetx2
import Derived.Test.YtjkckhfddgeboaaGreatDoorPGetx6
import Derived.Deep.QuietTactic
import Derived.BigQuiet
import Derived.Test.YtjkckhfddgeboaaGreatDoorPGetx3
set_option maxHeartbeats 8000000
set_option maxRecDepth 100000
namespace Go.Proofs.YtjkckhfddgeboaaGreatDoor
open Go.RowKit
attribute [local go_sem ↓] Go.wp_at_zero Go.wp_at_succ
theorem nW (q:qg):List.foldl (fun cs x=>cs.setIfInBounds x.snd x.fst) (#[.int .i64 0,.int .i64 0,.int .i64 0,.int .i64 0,.int .i64 0,.bool false,.int .i64 0,.slice none 0 0,.slice none 0 0,.bool false,.int .i64 0,.slice none 0 0,.slice none 0 0,.int .i64 0,.slice none 0 0]:Array Value) q.cells.zipIdx=q.cells.toArray:=by simp [qg.cells,List.zipIdx]
theorem rJ (l:qz) (w:World) (hr:l.reads w) (hl:l.short 1048576) (hcp:∀ r∈l.recs,r.aL=none→r.cL=0):
  Calls Tryz.prog 153 #[.agg l.cells.toArray] w fun e w'=>∃ t:qz,e=.returned (.agg t.cells.toArray)∧Hid (t.v=l.v)∧t.own w' w.heap.size w'.heap.size∧Below w.heap.size w w':=by
 obtain ⟨rs,s,a,c⟩:=l;have hl2:=(qz.qZ hl).each;have hl0:=hl.len;simp only [qz.reads,qz.cells,qz.own] at*
 obtain ⟨W,hW,b0,b1,b2,hbW,qp⟩:=yn w [.slice a rs.length c,.int .i64 s] [.slice none 0 0,.int .i64 0] [.slice none 0 0,.int .i64 s] 38 38 38;have hs0:w.heap.size+1+1<W.heap.size:=by omega
 clear qp;have x0:=b0.cell 0 _ rfl;have x1:=b0.cell 1 _ rfl;have HC:Hid (∀ k,k<rs.length→∃ b off,a=some ⟨b,off,none⟩∧w.rangeAt b (off+k*15) (rs.getD k qm).cells∧(rs.getD k qm).reads w∧(rs.getD k qm).short 1099511627776∧((rs.getD k qm).aL=none→(rs.getD k qm).cL=0)):=fun k hk=>by
  obtain ⟨b,off,ha,hc⟩:=hr (by intro e;rw [e] at hk;simp at hk);exact ⟨b,off,ha,(hc k hk).1,(hc k hk).2,hl2 _ (zZ rs k hk),hcp _ (zZ rs k hk)⟩
 have HI:Hid ((Tryz.prog.info? 189).map (·.size)=some 15):=by rw [Hid];kernel_rfl
 clear hr hl hl2 hcp;go_enter Tryz.func153,Tryz.ntmps153;go_wp2_with fail;rw [hW.out];clear hW x0 x1;go_loopw [4] (fun i wr=>∃ (k:Nat) (ts:List qg) (a':Option Addr) (c':Nat),k≤rs.length∧i=.int .i64 k∧Hid (Came rs ts k)∧Box wr (w.heap.size+1+1) [.slice a' ts.length c',.int .i64 s] 38∧Box wr w.heap.size [.slice a rs.length c,.int .i64 s] 38∧Box wr (w.heap.size+1) [.slice none 0 0,.int .i64 0] 38∧qV wr W.heap.size wr.heap.size a' c' ts∧Below w.heap.size w wr∧W.heap.size≤wr.heap.size)
  (fun i _=>rs.length-(intOf i).toNat)
 case atStart=>exact ⟨0,[],none,0,Nat.zero_le _,rfl,Ve rs,b2,b0,b1,dO _ _ _ (Nat.le_refl _),hbW,Nat.le_refl _⟩
 case round=>
  obtain ⟨k,ts,a',c',hk,rfl,hc,k2,k0,k1,hown,hnx,hsz⟩:=hrel;clear b0 b1 b2 hbW;have x0:=k0.cell 0 _ rfl;by_cases hlt:k<rs.length
  ·obtain ⟨b,off,rfl,hcell,hrd,hsh,hnc⟩:=HC.out k hlt;have JJ:=Kg hcell;have hnw:=hnx.size;have HR:Hid (∀ u,Below w.heap.size w u→u.rangeAt b (off+k*15) (rs.getD k qm).cells):=fun u hu=>xU hcell hu JJ
   have HS:Hid (∀ q:qg,q.v=(rs.getD k qm).v→Came rs (ts++[q]) (k+1)):=fun q hq=>hc.out.snoc hlt hq
   have HL:Hid (ts.length=k):=hc.out.1;clear hcell HC;generalize rs.getD k qm=z at*
   have e0:=k2.cell 0 _ rfl;have jR:Hid (∀ u,Below w.heap.size w u→Box u w.heap.size [.slice (some ⟨b,off,none⟩) rs.length c,.int .i64 s] 38→u.rangeAt b (off+k*15) z.cells∧u.cell? ⟨w.heap.size,0,none⟩=some (.slice (some ⟨b,off,none⟩) rs.length c)):=fun u h1 h2=>⟨HR.out u h1,h2.cell 0 _ rfl⟩
   go_wp2_with fail;refine wp_region_held_drew (S:=fun w'=>w'.rangeAt b (off+k*15) z.cells∧w'.cell? ⟨w.heap.size,0,none⟩=some (.slice (some ⟨b,off,none⟩) rs.length c)) (by kernel_rfl) ?_ (fun hHeld=>?_)
   ·exact jR.out _ hnx.drew (k0.drewN 1)
   refine tr 0 (.pointer (some ⟨w.heap.size+1+1,0,none⟩)) ?_;refine tr 2 (.pointer (some ⟨w.heap.size,0,none⟩)) ?_;refine tk 3 (v:=.slice (some ⟨b,off,none⟩) rs.length c) rfl (Or.inl ⟨by rfl,?_⟩) hHeld ?_
   ·intro w' hSw;have hx:=hSw.2;go_simp<;>rfl
   try simp only [zz]
   refine tr 4 (.int .i64 k) ?_;refine tr 5 (.pointer (some ⟨b,off+k*15,none⟩)) ?_;refine Go.Proofs.YtjkckhfddgeboaaGreatDoor.ts 6 rfl (yieldsIf_load_mid (by rfl) _ _ rfl _ _ rfl z.cells _ (fun _ h=>h.1) Tryz.underlying189 rfl HI.out) ?_;have hnd:Below wr.heap.size wr wr.drew:=(Below.refl _ _).drew;have C:=GR z wr.drew (hrd.below hnx.drew) hsh hnc;refine wpAnyH_ready (rs:=[1,7]) (by kernel_rfl) (by simp) ?_;refine AllReadyH.cons rfl (fun K hK=>?_) (AllReadyH.cons rfl (fun K hK=>?_) AllReadyH.nil)
   ·go_simp;refine hK.out _ _ (hHeld) (fun hHeld=>?_);clear hK K;try simp only [zz]
    refine wpAnyH_ready (rs:=[7]) (by kernel_rfl) (by simp) ?_;refine AllReadyH.cons rfl (fun K hK=>?_) AllReadyH.nil;go_simp;refine C.mono ?_;clear C;rintro e u2 ⟨q,rfl,hq,hqo,hb2⟩;have hb2':Below wr.heap.size wr u2:=hnd.trans hb2;have hn2:Below w.heap.size w u2:=hnx.trans (hb2'.mono hnw);have k22:=k2.below hb2' k2.lt;have uy:=k0.below hb2' k0.lt;have k12:=k1.below hb2' k1.lt;have o2:=hown.below hb2';have QV:q.own u2 wr.heap.size u2.heap.size:=hqo;have hs2:=hb2'.size;refine hK.out _ _ (jR.out _ hn2 uy) (fun hHeld=>?_);clear hK K;try simp only [zz]
    refine wpAnyH_ready (rs:=[8]) (by kernel_rfl) (by simp) ?_;refine AllReadyH.cons rfl (fun K hK=>?_) AllReadyH.nil;go_simp;simp only [zu,nW,not_true_eq_false,Nat.lt_irrefl,or_self,if_false];go_simp;obtain ⟨W3,hW3,b3,hb3,hs3⟩:=qx u2 q.cells 189;rw [hW3.out];have Kh:Below w.heap.size w W3:=hn2.trans (hb3.mono hn2.size);have k23:=k22.below hb3 k22.lt;have uT:=uy.below hb3 uy.lt;have k13:=k12.below hb3 k12.lt;have o3:=o2.below hb3;have uU:=QV.below hb3;have r3:W3.rangeAt u2.heap.size 0 q.cells:=Box.range [] q.cells [] (by simpa using b3);have U3:=b3.lt;clear hs3 hb3 hW3 b3 uy k12 o2 QV;refine hK.out _ _ (jR.out _ Kh uT) (fun hHeld=>?_);clear hK K;try simp only [zz]
    have hll:ts.length+1≤68719476736:=by have:=HL.out;omega
    refine wpAnyH_ready (rs:=[9]) (by kernel_rfl) (by simp) ?_;refine AllReadyH.cons rfl (fun K hK=>?_) AllReadyH.nil;refine Jd rfl (.tmp 16) (.tmp 23) rfl W.heap.size wr.heap.size a' c' ts rfl o3 u2.heap.size 0 1 q rfl r3 wr.heap.size u2.heap.size uU (Nat.le_refl _) (by omega) hll hsz ?_;intro a9 c9 w9 o9 g9;have HCM:=HS.out q hq.out;obtain ⟨ys,hys⟩:∃ ys,Hid (ts++[q]=ys):=⟨_,rfl⟩;rw [hys.out] at o9 HCM ⊢;have xL:Within W.heap.size wr.heap.size W3 w9:=Within.jw g9 (fun j hj=>⟨(o3.row.lt j hj).1,o3.blk j hj⟩);have ZK:=xL.size;have Je:Below w.heap.size w w9:=Kh.trans (xL.below (by omega) (by omega));have zR:=k23.within xL (by omega);have uV:=uT.within xL (by omega);have k19:=k13.within xL (by omega);refine hK.out _ _ (jR.out _ Je uV) (fun hHeld=>?_);clear hK K xL g9 o3 r3 uU k23 uT k13;try simp only [zz]
    refine tr 10 (.pointer (some ⟨w.heap.size+1+1,0,none⟩)) ?_;have m0:=zR.cell 0 _ rfl;have wZ:=zR.frozen 0;obtain ⟨WF,qF,kF,hwF,qN⟩:=jB zR 0 (.slice a9 ys.length c9);simp only [List.set] at kF;have Xg:=Nat.le_of_eq qN;have uK:=Nat.le_of_eq qN.symm;clear qN;have Ki:=uV.within hwF (by omega);have YO:=k19.within hwF (by omega);have oF:=(o9.within hwF (.inr (by omega))).widen (Nat.le_refl _) uK (Nat.le_refl _);have hnF:Below w.heap.size w WF:=Je.trans (hwF.below (by omega) (by omega));clear hwF zR uV k19 o9;refine wpAnyH_ready (rs:=[11]) (by kernel_rfl) (by simp) ?_;refine AllReadyH.cons rfl (fun K hK=>?_) AllReadyH.nil;go_simp;rw [qF.out];refine hK.out _ _ (jR.out _ hnF Ki) (fun hHeld=>?_);clear hK K;try simp only [zz]
    refine wpAnyH_done (by kernel_rfl) ?_ _;clear m0 wZ qF;go_wp2_with fail;go_roundw
    case rel=>exact ⟨k+1,ys,a9,c9,by omega,by go_num,HCM,kF,Ki,YO,oF,hnF,by omega⟩
    case measure=>simp [intOf];omega
   ·go_simp;refine C.mono ?_;clear C;rintro e u2 ⟨q,rfl,hq,hqo,hb2⟩;have hb2':Below wr.heap.size wr u2:=hnd.trans hb2;have hn2:Below w.heap.size w u2:=hnx.trans (hb2'.mono hnw);have k22:=k2.below hb2' k2.lt;have uy:=k0.below hb2' k0.lt;have k12:=k1.below hb2' k1.lt;have o2:=hown.below hb2';have QV:q.own u2 wr.heap.size u2.heap.size:=hqo;have hs2:=hb2'.size;refine hK.out _ _ (jR.out _ hn2 uy) (fun hHeld=>?_);clear hK K;try simp only [zz]
    refine wpAnyH_ready (rs:=[1,8]) (by kernel_rfl) (by simp) ?_;refine AllReadyH.cons rfl (fun K hK=>?_) (AllReadyH.cons rfl (fun K hK=>?_) AllReadyH.nil)
    ·have d0:=k22.cell 0 _ rfl;go_simp;refine hK.out _ _ (hHeld) (fun hHeld=>?_);clear hK K;try simp only [zz]
     refine wpAnyH_ready (rs:=[8]) (by kernel_rfl) (by simp) ?_;refine AllReadyH.cons rfl (fun K hK=>?_) AllReadyH.nil;go_simp;simp only [zu,nW,not_true_eq_false,Nat.lt_irrefl,or_self,if_false];go_simp;obtain ⟨W3,hW3,b3,hb3,hs3⟩:=qx u2 q.cells 189;rw [hW3.out];have Kh:Below w.heap.size w W3:=hn2.trans (hb3.mono hn2.size);have k23:=k22.below hb3 k22.lt;have uT:=uy.below hb3 uy.lt;have k13:=k12.below hb3 k12.lt;have o3:=o2.below hb3;have uU:=QV.below hb3;have r3:W3.rangeAt u2.heap.size 0 q.cells:=Box.range [] q.cells [] (by simpa using b3);have U3:=b3.lt;clear hs3 hb3 hW3 b3 uy k12 o2 QV;refine hK.out _ _ (jR.out _ Kh uT) (fun hHeld=>?_);clear hK K;try simp only [zz]
     have hll:ts.length+1≤68719476736:=by have:=HL.out;omega
     refine wpAnyH_ready (rs:=[9]) (by kernel_rfl) (by simp) ?_;refine AllReadyH.cons rfl (fun K hK=>?_) AllReadyH.nil;refine Jd rfl (.tmp 16) (.tmp 23) rfl W.heap.size wr.heap.size a' c' ts rfl o3 u2.heap.size 0 1 q rfl r3 wr.heap.size u2.heap.size uU (Nat.le_refl _) (by omega) hll hsz ?_;intro a9 c9 w9 o9 g9;have HCM:=HS.out q hq.out;obtain ⟨ys,hys⟩:∃ ys,Hid (ts++[q]=ys):=⟨_,rfl⟩;rw [hys.out] at o9 HCM ⊢;have xL:Within W.heap.size wr.heap.size W3 w9:=Within.jw g9 (fun j hj=>⟨(o3.row.lt j hj).1,o3.blk j hj⟩);have ZK:=xL.size;have Je:Below w.heap.size w w9:=Kh.trans (xL.below (by omega) (by omega));have zR:=k23.within xL (by omega);have uV:=uT.within xL (by omega);have k19:=k13.within xL (by omega);refine hK.out _ _ (jR.out _ Je uV) (fun hHeld=>?_);clear hK K xL g9 o3 r3 uU k23 uT k13;try simp only [zz]
     refine tr 10 (.pointer (some ⟨w.heap.size+1+1,0,none⟩)) ?_;have m0:=zR.cell 0 _ rfl;have wZ:=zR.frozen 0;obtain ⟨WF,qF,kF,hwF,qN⟩:=jB zR 0 (.slice a9 ys.length c9);simp only [List.set] at kF;have Xg:=Nat.le_of_eq qN;have uK:=Nat.le_of_eq qN.symm;clear qN;have Ki:=uV.within hwF (by omega);have YO:=k19.within hwF (by omega);have oF:=(o9.within hwF (.inr (by omega))).widen (Nat.le_refl _) uK (Nat.le_refl _);have hnF:Below w.heap.size w WF:=Je.trans (hwF.below (by omega) (by omega));clear hwF zR uV k19 o9;refine wpAnyH_ready (rs:=[11]) (by kernel_rfl) (by simp) ?_;refine AllReadyH.cons rfl (fun K hK=>?_) AllReadyH.nil;go_simp;rw [qF.out];refine hK.out _ _ (jR.out _ hnF Ki) (fun hHeld=>?_);clear hK K;try simp only [zz]
     refine wpAnyH_done (by kernel_rfl) ?_ _;clear m0 wZ qF;go_wp2_with fail;go_roundw
     case rel=>exact ⟨k+1,ys,a9,c9,by omega,by go_num,HCM,kF,Ki,YO,oF,hnF,by omega⟩
     case measure=>simp [intOf];omega
    ·go_simp;simp only [zu,nW,not_true_eq_false,Nat.lt_irrefl,or_self,if_false];go_simp;obtain ⟨W3,hW3,b3,hb3,hs3⟩:=qx u2 q.cells 189;rw [hW3.out];have Kh:Below w.heap.size w W3:=hn2.trans (hb3.mono hn2.size);have k23:=k22.below hb3 k22.lt;have uT:=uy.below hb3 uy.lt;have k13:=k12.below hb3 k12.lt;have o3:=o2.below hb3;have uU:=QV.below hb3;have r3:W3.rangeAt u2.heap.size 0 q.cells:=Box.range [] q.cells [] (by simpa using b3);have U3:=b3.lt;clear hs3 hb3 hW3 b3 uy k12 o2 QV;refine hK.out _ _ (jR.out _ Kh uT) (fun hHeld=>?_);clear hK K;try simp only [zz]
     have d0:=k23.cell 0 _ rfl;refine wpAnyH_ready (rs:=[1]) (by kernel_rfl) (by simp) ?_;refine AllReadyH.cons rfl (fun K hK=>?_) AllReadyH.nil;go_simp;refine hK.out _ _ (hHeld) (fun hHeld=>?_);clear hK K;try simp only [zz]
     have hll:ts.length+1≤68719476736:=by have:=HL.out;omega
     refine wpAnyH_ready (rs:=[9]) (by kernel_rfl) (by simp) ?_;refine AllReadyH.cons rfl (fun K hK=>?_) AllReadyH.nil;refine Jd rfl (.tmp 16) (.tmp 23) rfl W.heap.size wr.heap.size a' c' ts rfl o3 u2.heap.size 0 1 q rfl r3 wr.heap.size u2.heap.size uU (Nat.le_refl _) (by omega) hll hsz ?_;intro a9 c9 w9 o9 g9;have HCM:=HS.out q hq.out;obtain ⟨ys,hys⟩:∃ ys,Hid (ts++[q]=ys):=⟨_,rfl⟩;rw [hys.out] at o9 HCM ⊢;have xL:Within W.heap.size wr.heap.size W3 w9:=Within.jw g9 (fun j hj=>⟨(o3.row.lt j hj).1,o3.blk j hj⟩);have ZK:=xL.size;have Je:Below w.heap.size w w9:=Kh.trans (xL.below (by omega) (by omega));have zR:=k23.within xL (by omega);have uV:=uT.within xL (by omega);have k19:=k13.within xL (by omega);refine hK.out _ _ (jR.out _ Je uV) (fun hHeld=>?_);clear hK K xL g9 o3 r3 uU k23 uT k13;try simp only [zz]
     refine tr 10 (.pointer (some ⟨w.heap.size+1+1,0,none⟩)) ?_;have m0:=zR.cell 0 _ rfl;have wZ:=zR.frozen 0;obtain ⟨WF,qF,kF,hwF,qN⟩:=jB zR 0 (.slice a9 ys.length c9);simp only [List.set] at kF;have Xg:=Nat.le_of_eq qN;have uK:=Nat.le_of_eq qN.symm;clear qN;have Ki:=uV.within hwF (by omega);have YO:=k19.within hwF (by omega);have oF:=(o9.within hwF (.inr (by omega))).widen (Nat.le_refl _) uK (Nat.le_refl _);have hnF:Below w.heap.size w WF:=Je.trans (hwF.below (by omega) (by omega));clear hwF zR uV k19 o9;refine wpAnyH_ready (rs:=[11]) (by kernel_rfl) (by simp) ?_;refine AllReadyH.cons rfl (fun K hK=>?_) AllReadyH.nil;go_simp;rw [qF.out];refine hK.out _ _ (jR.out _ hnF Ki) (fun hHeld=>?_);clear hK K;try simp only [zz]
     refine wpAnyH_done (by kernel_rfl) ?_ _;clear m0 wZ qF;go_wp2_with fail;go_roundw
     case rel=>exact ⟨k+1,ys,a9,c9,by omega,by go_num,HCM,kF,Ki,YO,oF,hnF,by omega⟩
     case measure=>simp [intOf];omega
  ·have HE:Hid (ts.map qg.v=rs.map qg.v):=by
    have e:k=rs.length:=by omega
    rw [e] at hc;exact hc.out.all
   have e0:=k2.cell 0 _ rfl;have e1:=k2.cell 1 _ rfl;have m0:=k1.cell 0 _ rfl;have m1:=k1.cell 1 _ rfl;have wZ:=k1.frozen 0;have YP:=k1.frozen 1;obtain ⟨WF,qF,bF,hwF,qN⟩:=xD k1 (.slice a' ts.length c') (.int .i64 s);have q0:=bF.cell 0 _ rfl;have q1:=bF.cell 1 _ rfl;have xY:=(hown.within hwF (.inr (by omega))).widen (show w.heap.size≤W.heap.size by omega) (show wr.heap.size≤WF.heap.size by omega) (Nat.le_refl _);have xM:Below w.heap.size w WF:=hnx.trans (hwF.below (by omega) (by have:=hnx.size;omega));clear hwF qN bF;go_wp2;rw [qF.out];exact bodyPost_ret (v:=.agg #[.slice a' ts.length c',.int .i64 s]) (by simp [results,Tryz.results153,go_sem,q0,q1]) rfl ⟨⟨ts,s,a',c'⟩,rfl,by simp only [Hid,qz.v];rw [HE.out],xY,xM⟩
end Go.Proofs.YtjkckhfddgeboaaGreatDoor
namespace Go.Proofs.YtjkckhfddgeboaaGreatDoor
open Go.RowKit
theorem Eo (rs:List qg) (k:Nat):(rs.map qg.v).getD k Vf=(rs.getD k qm).v:=by
 simp only [List.getD,List.getElem?_map];cases rs[k]? <;>rfl
def Vg (rs:List QW) (k:Nat):Bool:=((rs.getD k Vf).lsn == (k+1:Int)) && xN (rs.getD k Vf)
def kC (l:JR):Bool:=decide (l.recs.length≤4000) && (inB l.sure 0 l.recs.length && (List.range l.recs.length).all (Vg l.recs))
theorem dP {l:JR} (h:¬ l.recs.length≤4000):kC l=false:=by simp [kC,h]
theorem WK {l:JR} (h:inB l.sure 0 l.recs.length=false):kC l=false:=by simp [kC,h]
theorem Mm {l:JR} (k:Nat) (hk:k<l.recs.length) (h:Vg l.recs k=false):kC l=false:=by
 have:(List.range l.recs.length).all (Vg l.recs)=false:=by
  rw [List.all_eq_false];exact ⟨k,List.mem_range.2 hk,by rw [h];decide⟩
 simp [kC,this]
theorem dQ {l:JR} (h0:l.recs.length≤4000) (h1:inB l.sure 0 l.recs.length=true) (h:∀ k,k<l.recs.length→Vg l.recs k=true):kC l=true:=by
 have:(List.range l.recs.length).all (Vg l.recs)=true:=by
  rw [List.all_eq_true];exact fun k hk=>h k (List.mem_range.1 hk)
 simp [kC,this,h0,h1]
theorem Fp {l:JR} (h:kC l=true):l.recs.length≤4000∧0≤l.sure∧l.sure≤l.recs.length∧∀ k,k<l.recs.length→(l.recs.getD k Vf).lsn=(k+1:Int)∧xN (l.recs.getD k Vf)=true:=by
 simp only [kC,Bool.and_eq_true,decide_eq_true_eq,List.all_eq_true,List.mem_range,Vg,beq_iff_eq,inB] at h;exact ⟨h.1,h.2.1.1,h.2.1.2,h.2.2⟩
theorem qz.QO (l:qz):l.v.recs.length=l.recs.length:=by simp [qz.v]
theorem qz.qdo (l:qz) (k:Nat):l.v.recs.getD k Vf=(l.recs.getD k qm).v:=Eo l.recs k
theorem WL (l:qz) (k:Nat):Vg l.v.recs k=(((l.recs.getD k qm).lsn == (k+1:Int)) && xN (l.recs.getD k qm).v):=by
 unfold Vg;rw [l.qdo];rfl
def QP (a b:qC):Bool:=decide (a.tx=b.tx) && (decide (a.last=b.last) && (a.aborts == b.aborts))
theorem Fq {a b:qC}:QP a b=true ↔ a=b:=by
 obtain ⟨a1,a2,a3⟩:=a;obtain ⟨b1,b2,b3⟩:=b;simp [QP]
def vU (xs ys:List qC):Bool:=decide (xs.length=ys.length) && (List.range xs.length).all fun k=>QP (xs.getD k qA) (ys.getD k qA)
theorem WM {xs ys:List qC} (h:¬ xs.length=ys.length):vU xs ys=false:=by simp [vU,h]
theorem Fs {xs ys:List qC} (k:Nat) (hk:k<xs.length) (h:QP (xs.getD k qA) (ys.getD k qA)=false):vU xs ys=false:=by
 have:((List.range xs.length).all fun k=>QP (xs.getD k qA) (ys.getD k qA))=false:=by
  rw [List.all_eq_false];exact ⟨k,List.mem_range.2 hk,by rw [h];decide⟩
 unfold vU;rw [this,Bool.and_false]
theorem WN {xs ys:List qC} (hl:xs.length=ys.length) (h:∀ k,k<xs.length→QP (xs.getD k qA) (ys.getD k qA)=true):vU xs ys=true:=by
 have:((List.range xs.length).all fun k=>QP (xs.getD k qA) (ys.getD k qA))=true:=by
  rw [List.all_eq_true];exact fun k hk=>h k (List.mem_range.1 hk)
 unfold vU;rw [this,Bool.and_true];exact decide_eq_true hl
theorem PH (xs:List qC):vU xs xs=true:=WN rfl (fun _ _=>Fq.2 rfl)
theorem Jf (xs:List qC):vU [] xs=decide (xs.length=0):=by
 cases xs with
 | nil=>rfl
 | cons x r=>rw [WM (by simp)];simp
theorem Mo (a b:qC) (w:World):(binOp .neq 118 (.agg #[.int .i64 a.tx,.int .i64 a.last,.bool a.aborts]) (.agg #[.int .i64 b.tx,.int .i64 b.last,.bool b.aborts])).run Tryz.prog w=.ok (.bool (!QP a b)) w:=by
 obtain ⟨a1,a2,a3⟩:=a;obtain ⟨b1,b2,b3⟩:=b;have hp:Tryz.prog.stoodInHeld 118=false:=by kernel_rfl
 by_cases h1:a1=b1<;>by_cases h2:a2=b2<;>cases a3<;>cases b3<;>go_simp<;>simp_all [QP]
theorem nX (a b:Option Addr) (ca cb:Nat) (xs ys:List qC) (w:World) (ha:jW w a xs) (hb:jW w b ys) (hl:xs.length≤1099511627776) (hl2:ys.length≤1099511627776):
  Calls Tryz.prog 307 #[.slice a xs.length ca,.slice b ys.length cb] w fun e w'=>e=.returned (.bool (vU xs ys))∧∃ n,w'=w.drewN n:=by
 by_cases hle:xs.length=ys.length
 case neg=>
  have HE:Hid (_=_):=WM hle;have Vh:((xs.length:Int) == (ys.length:Int))=false:=by simp;omega
  go_enter Tryz.func307,Tryz.ntmps307;go_wp2;go_ret;exact ⟨qd HE.out.symm,0,rfl⟩
 case pos=>
 have HL:Hid (xs.length=ys.length):=hle;have Vh:((xs.length:Int) == (ys.length:Int))=true:=by simp;omega
 rcases ha.cases with rfl | ⟨b1,o1,rfl,hpos,hc1⟩
 ·obtain rfl:ys=[]:=List.length_eq_zero_iff.1 (by simpa using hle.symm);have HE:Hid (vU [] []=true):=rfl;clear hle Vh HL;go_enter Tryz.func307,Tryz.ntmps307;go_wp2;refine wp_loop_rounds 1 ?_;rw [rounds_succ];go_wp2;go_ret;exact ⟨qd HE.out.symm,0,rfl⟩
 ·rcases hb.cases with rfl | ⟨b2,o2,rfl,_,hc2⟩
  ·simp at hle;simp [hle] at hpos
  ·clear hle;go_enter Tryz.func307,Tryz.ntmps307;go_wp2;go_loopw [13] (fun i wr=>∃ k:Nat,k≤xs.length∧i=.int .i64 k∧Hid (∀ t,t<k→QP (xs.getD t qA) (ys.getD t qA)=true)∧∃ n,wr=w.drewN n) (fun i _=>xs.length-(intOf i).toNat)
   case atStart=>exact ⟨0,Nat.zero_le _,rfl,fun t ht=>by omega,0,rfl⟩
   case round=>
    obtain ⟨k,hk,rfl,hall,n,rfl⟩:=hrel;by_cases hlt:k<xs.length
    ·obtain ⟨h10,h11,h12⟩:=hc1 k hlt;obtain ⟨h20,h21,h22⟩:=hc2 k (by have:=HL.out;omega);have hlt2:(k:Int)<(ys.length:Int):=by have:=HL.out;omega
     have hnl:=Mo (xs.getD k qA) (ys.getD k qA);clear hc1 hc2;cases hz:QP (xs.getD k qA) (ys.getD k qA) with
     | true=>
      have HN:Hid (∀ t,t<k+1→QP (xs.getD t qA) (ys.getD t qA)=true):=by
       intro t ht;by_cases e:t=k
       ·rw [e];exact hz
       ·exact hall.out t (by omega)
      rw [hz] at hnl;clear hz;generalize xs.getD k qA=z at*
      generalize ys.getD k qA=y at*
      go_wp2
      go_quiet (fail)
      go_wp2;go_roundw
      case rel=>exact ⟨k+1,by omega,by go_num,HN,_,rfl⟩
      case measure=>simp [intOf];omega
     | false=>
      have HE:Hid (_=_):=Fs k hlt hz;rw [hz] at hnl;clear hz;generalize xs.getD k qA=z at*
      generalize ys.getD k qA=y at*
      go_wp2
      go_quiet (fail)
      go_wp2;go_ret;exact ⟨qd HE.out.symm,n+nq,by first | rfl | simp⟩
    ·have HE:Hid (_=_):=WN HL.out (fun t ht=>hall.out t (by omega));go_wp2;go_ret;exact ⟨qd HE.out.symm,n,rfl⟩
def xe (a b:jy):Bool:=(a.has == b.has) && yK a.o b.o
theorem QX (s t:qf) (w:World) (hs:s.reads w) (ht:t.reads w) (hls:Fit [s]) (hlt:Fit [t]):
  Calls Tryz.prog 248 #[.agg s.cells.toArray,.agg t.cells.toArray] w fun e w'=>e=.returned (.bool (xe s.v t.v))∧Below w.heap.size w w':=by
 obtain ⟨h1,h2⟩:=hls s (List.mem_singleton.2 rfl);obtain ⟨h3,h4⟩:=hlt t (List.mem_singleton.2 rfl);obtain ⟨W,hW,b0,b1,hbW,qp⟩:=jf w s.cells t.cells 28 28;have C1:=XU s.v.o t.v.o s.aI s.cI s.aR s.cR t.aI t.cI t.aR t.cR W (qQ.below hs hbW) (qQ.below ht hbW) h1 h2 h3 h4;have HZ:Hid (xe s.v t.v=((s.v.has == t.v.has) && yK s.v.o t.v.o)):=rfl;generalize xe s.v t.v=R at*
 simp only [qf.cells] at*
 obtain ⟨x0,x1,x2,x3,_⟩:=b0.four;obtain ⟨y0,y1,y2,y3,_⟩:=b1.four;clear qp b0 b1;cases hb:(s.v.has == t.v.has) with
 | false=>
  have HR:Hid (R=false):=by rw [Hid,HZ.out];simp [hb]
  clear HZ C1;go_enter Tryz.func248,Tryz.ntmps248;go_wp2;go_ret;exact ⟨qd HR.out.symm,by rw [hW.out];exact hbW⟩
 | true=>
  have HR:Hid (R=yK s.v.o t.v.o):=by rw [Hid,HZ.out];simp [hb]
  clear HZ;go_enter Tryz.func248,Tryz.ntmps248;go_wp2_with fail;rw [hW.out];refine C1.mono ?_;clear C1 x0 x1 x2 x3 y0 y1 y2 y3;rintro e w1 ⟨rfl,hb1⟩;go_wp2;go_ret;exact ⟨qd HR.out.symm,hbW.trans (hb1.mono hbW.size)⟩
def yN (r t:QW):Bool:=((r.lsn == t.lsn) && ((r.tx == t.tx) && ((r.prev == t.prev) && ((r.kind == t.kind) && ((r.oid == t.oid) && (xe r.bf t.bf && (xe r.af t.af && ((r.next == t.next) && vU r.txs t.txs))))))))
theorem PI (r t:qg) (w:World) (hr:r.reads w) (ht:t.reads w) (hlr:r.short 1099511627776) (hlt:t.short 1099511627776):
  Calls Tryz.prog 246 #[.agg r.cells.toArray,.agg t.cells.toArray] w fun e w'=>e=.returned (.bool (yN r.v t.v))∧Below w.heap.size w w':=by
 obtain ⟨W,hW,b0,b1,hbW,qp⟩:=jf w r.cells t.cells 189 189;have HZ:Hid (yN r.v t.v=((r.lsn == t.lsn) && ((r.tx == t.tx) && ((r.prev == t.prev) && ((r.kind == t.kind) && ((r.oid == t.oid) && (xe r.bf.v t.bf.v && (xe r.af.v t.af.v && ((r.next == t.next) && vU r.txs t.txs))))))))):=rfl;have HB:Hid (∀ u,Below w.heap.size w u→Calls _ _ _ _ _):=fun u hu=>QX r.bf t.bf u (qQ.below hr.bf hu) (qQ.below ht.bf hu) (fun s hs=>by obtain rfl:=List.mem_singleton.1 hs;exact hlr.bf) (fun s hs=>by obtain rfl:=List.mem_singleton.1 hs;exact hlt.bf)
 have HA:Hid (∀ u,Below w.heap.size w u→Calls _ _ _ _ _):=fun u hu=>QX r.af t.af u (qQ.below hr.af hu) (qQ.below ht.af hu) (fun s hs=>by obtain rfl:=List.mem_singleton.1 hs;exact hlr.af) (fun s hs=>by obtain rfl:=List.mem_singleton.1 hs;exact hlt.af)
 have HL:Hid (∀ u,Below w.heap.size w u→Calls _ _ _ _ _):=fun u hu=>nX r.aL t.aL r.cL t.cL r.txs t.txs u (hr.txs.below hu) (ht.txs.below hu) hlr.txs hlt.txs
 have HX:Hid (∀ u,Below W.heap.size W u→Box u w.heap.size r.cells 189∧Box u (w.heap.size+1) t.cells 189):=fun u hu=>⟨b0.below hu b0.lt,b1.below hu b1.lt⟩
 generalize yN r.v t.v=R at*
 clear qp hr ht hlr hlt b0 b1;simp only [qg.cells,qf.cells] at*
 have l0:Below W.heap.size W W:=Below.refl _ _;obtain ⟨x0,x1,x2,x3,x4,x5,x6,x7,x8,x9,kJ,xy,xz,xG,xm⟩:=fifteen (HX.out W l0).1;obtain ⟨y0,y1,y2,y3,y4,y5,y6,y7,y8,y9,Vi,YQ,YR,y13,WO⟩:=fifteen (HX.out W l0).2;go_enter Tryz.func246,Tryz.ntmps246;cases c0:(r.lsn == t.lsn) with
 | false=>
  have HR:Hid (R=false):=by rw [Hid,HZ.out];simp [c0]
  clear HZ;go_wp2;go_ret;exact ⟨qd HR.out.symm,by rw [hW.out];exact hbW⟩
 | true=>
  cases c1:(r.tx == t.tx) with
  | false=>
   have HR:Hid (R=false):=by rw [Hid,HZ.out];simp [c0,c1]
   clear HZ;go_wp2;go_ret;exact ⟨qd HR.out.symm,by rw [hW.out];exact hbW⟩
  | true=>
   cases c2:(r.prev == t.prev) with
   | false=>
    have HR:Hid (R=false):=by rw [Hid,HZ.out];simp [c0,c1,c2]
    clear HZ;go_wp2;go_ret;exact ⟨qd HR.out.symm,by rw [hW.out];exact hbW⟩
   | true=>
    cases c3:(r.kind == t.kind) with
    | false=>
     have HR:Hid (R=false):=by rw [Hid,HZ.out];simp [c0,c1,c2,c3]
     clear HZ;go_wp2;go_ret;exact ⟨qd HR.out.symm,by rw [hW.out];exact hbW⟩
    | true=>
     cases c4:(r.oid == t.oid) with
     | false=>
      have HR:Hid (R=false):=by rw [Hid,HZ.out];simp [c0,c1,c2,c3,c4]
      clear HZ;go_wp2;go_ret;exact ⟨qd HR.out.symm,by rw [hW.out];exact hbW⟩
     | true=>
      go_wp2_with fail;rw [hW.out];clear hW;refine (HB.out W hbW).mono ?_;clear x0 x1 x2 x3 x4 x5 x6 x7 x8 x9 kJ xy xz xG xm y0 y1 y2 y3 y4 y5 y6 y7 y8 y9 Vi YQ YR y13 WO;rintro e u5 ⟨rfl,hb5⟩;have b_5:Below w.heap.size w u5:=(hbW).trans (hb5.mono (hbW).size);have l_5:Below W.heap.size W u5:=(l0).trans (hb5.mono (l0).size);obtain ⟨x0,x1,x2,x3,x4,x5,x6,x7,x8,x9,kJ,xy,xz,xG,xm⟩:=fifteen (HX.out u5 l_5).1;obtain ⟨y0,y1,y2,y3,y4,y5,y6,y7,y8,y9,Vi,YQ,YR,y13,WO⟩:=fifteen (HX.out u5 l_5).2;clear hb5;cases c5:xe r.bf.v t.bf.v with
      | false=>
       have HR:Hid (R=false):=by rw [Hid,HZ.out];simp [c0,c1,c2,c3,c4,c5]
       clear HZ;go_wp2;go_ret;exact ⟨qd HR.out.symm,b_5⟩
      | true=>
       go_wp2_with fail;refine (HA.out u5 b_5).mono ?_;clear x0 x1 x2 x3 x4 x5 x6 x7 x8 x9 kJ xy xz xG xm y0 y1 y2 y3 y4 y5 y6 y7 y8 y9 Vi YQ YR y13 WO;rintro e u6 ⟨rfl,hb6⟩;have b_6:Below w.heap.size w u6:=(b_5).trans (hb6.mono (b_5).size);have l_6:Below W.heap.size W u6:=(l_5).trans (hb6.mono (l_5).size);obtain ⟨x0,x1,x2,x3,x4,x5,x6,x7,x8,x9,kJ,xy,xz,xG,xm⟩:=fifteen (HX.out u6 l_6).1;obtain ⟨y0,y1,y2,y3,y4,y5,y6,y7,y8,y9,Vi,YQ,YR,y13,WO⟩:=fifteen (HX.out u6 l_6).2;clear hb6;cases c6:xe r.af.v t.af.v with
       | false=>
        have HR:Hid (R=false):=by rw [Hid,HZ.out];simp [c0,c1,c2,c3,c4,c5,c6]
        clear HZ;go_wp2;go_ret;exact ⟨qd HR.out.symm,b_6⟩
       | true=>
        cases c7:(r.next == t.next) with
        | false=>
         have HR:Hid (R=false):=by rw [Hid,HZ.out];simp [c0,c1,c2,c3,c4,c5,c6,c7]
         clear HZ;go_wp2;go_ret;exact ⟨qd HR.out.symm,b_6⟩
        | true=>
         go_wp2_with fail;refine (HL.out u6 b_6).mono ?_;clear x0 x1 x2 x3 x4 x5 x6 x7 x8 x9 kJ xy xz xG xm y0 y1 y2 y3 y4 y5 y6 y7 y8 y9 Vi YQ YR y13 WO;rintro e u8 ⟨rfl,nn,hnn⟩;have uz:Below (u6).heap.size u6 u8:=by rw [hnn];exact below_drewN (Below.refl _ _) nn
         clear hnn;have b_8:Below w.heap.size w u8:=(b_6).trans (uz.mono (b_6).size);have l_8:Below W.heap.size W u8:=(l_6).trans (uz.mono (l_6).size);have HR:Hid (R=vU r.txs t.txs):=by rw [Hid,HZ.out];simp [c0,c1,c2,c3,c4,c5,c6,c7]
         clear HZ;go_wp2;go_ret;exact ⟨qd HR.out.symm,b_8⟩
def xu (n:Int) (r:QW):Bool:=
 if r.kind == 1 then (je n r.tx r.prev && (inB r.oid 1 31 && (qE r.bf && qE r.af)))
 else if r.kind == 2 then je n r.tx r.prev
 else if r.kind == 3 then je n r.tx r.prev
 else if r.kind == 4 then (je n r.tx r.prev && (inB r.oid 1 31 && (qE r.af && inB r.next 0 (n-1))))
 else if r.kind == 5 then je n r.tx r.prev
 else if r.kind == 6 then kZ n r.txs
 else false
def xO (n:Int) (r:qg):qg:=
 if r.kind == 1 then ⟨n,r.tx,r.prev,1,r.oid,r.bf,r.af,0,[],none,0⟩
 else if r.kind == 2 then kD n r.tx r.prev 2
 else if r.kind == 3 then kD n r.tx r.prev 3
 else if r.kind == 4 then ⟨n,r.tx,r.prev,4,r.oid,qh,r.af,r.next,[],none,0⟩
 else if r.kind == 5 then kD n r.tx r.prev 5
 else if r.kind == 6 then ⟨n,0,0,6,0,qh,qh,0,r.txs,r.aL,r.cL⟩
 else kD 0 0 0 0
theorem nY {s:qf} (h:s.v.o.ints.length≤1099511627776∧s.v.o.refs.length≤1099511627776):Fit [s]:=fun t ht=>by obtain rfl:=List.mem_singleton.1 ht;exact h
theorem rM (n:Int) (r:qg) (w:World) (hg:kK w) (hr:r.reads w) (hl:r.short 1099511627776):
  Calls Tryz.prog 245 #[.int .i64 n,kQ r] w fun e w'=>e=.returned (.bool (xu n r.v))∧Below w.heap.size w w':=by
 cases k1:(r.kind == 1) with
 | true=>
  have e1:kQ r=vF (Zn r.tx r.prev r.oid r.bf r.af):=by simp [kQ,k1]
  have e2:xu n r.v=(je n r.tx r.prev && (inB r.oid 1 31 && (qE r.bf.v && qE r.af.v))):=by simp [xu,qg.v,k1]
  rw [e1,e2];exact rO n r.tx r.prev r.oid r.bf r.af w hg hr.bf hr.af (nY hl.bf) (nY hl.af)
 | false=>
  cases k2:(r.kind == 2) with
  | true=>
   have e1:kQ r=yO (xW r.tx r.prev):=by simp [kQ,k1,k2]
   have e2:xu n r.v=je n r.tx r.prev:=by simp [xu,qg.v,k1,k2]
   rw [e1,e2];exact GU n r.tx r.prev w
  | false=>
   cases k3:(r.kind == 3) with
   | true=>
    have e1:kQ r=zw (xW r.tx r.prev):=by simp [kQ,k1,k2,k3]
    have e2:xu n r.v=je n r.tx r.prev:=by simp [xu,qg.v,k1,k2,k3]
    rw [e1,e2];exact Mq n r.tx r.prev w
   | false=>
    cases k4:(r.kind == 4) with
    | true=>
     have e1:kQ r=wC (KW r.tx r.prev r.oid r.af r.next):=by simp [kQ,k1,k2,k3,k4]
     have e2:xu n r.v=(je n r.tx r.prev && (inB r.oid 1 31 && (qE r.af.v && inB r.next 0 (n-1)))):=by simp [xu,qg.v,k1,k2,k3,k4]
     rw [e1,e2];exact PK n r.tx r.prev r.oid r.af r.next w hg hr.af (nY hl.af)
    | false=>
     cases k5:(r.kind == 5) with
     | true=>
      have e1:kQ r=vG (xW r.tx r.prev):=by simp [kQ,k1,k2,k3,k4,k5]
      have e2:xu n r.v=je n r.tx r.prev:=by simp [xu,qg.v,k1,k2,k3,k4,k5]
      rw [e1,e2];exact rQ n r.tx r.prev w
     | false=>
      cases k6:(r.kind == 6) with
      | true=>
       have e1:kQ r=zx (Jg r.txs r.aL r.cL):=by simp [kQ,k1,k2,k3,k4,k5,k6]
       have e2:xu n r.v=kZ n r.txs:=by simp [xu,qg.v,k1,k2,k3,k4,k5,k6]
       rw [e1,e2];exact Mr n r.txs r.aL r.cL w hr.txs hl.txs
      | false=>
       have e1:kQ r=.nilIface:=by simp [kQ,k1,k2,k3,k4,k5,k6]
       have e2:xu n r.v=false:=by simp [xu,qg.v,k1,k2,k3,k4,k5,k6]
       rw [e1,e2];exact rR n w
theorem Fu (n:Int) (r:qg) (w:World):
  Calls Tryz.prog 247 #[.int .i64 n,kQ r] w fun e w'=>e=.returned (.agg (xO n r).cells.toArray)∧Below w.heap.size w w':=by
 cases k1:(r.kind == 1) with
 | true=>
  have e1:kQ r=vF (Zn r.tx r.prev r.oid r.bf r.af):=by simp [kQ,k1]
  have e2:xO n r=⟨n,r.tx,r.prev,1,r.oid,r.bf,r.af,0,[],none,0⟩:=by simp [xO,k1]
  rw [e1,e2];exact Fv n r.tx r.prev r.oid r.bf r.af w
 | false=>
  cases k2:(r.kind == 2) with
  | true=>
   have e1:kQ r=yO (xW r.tx r.prev):=by simp [kQ,k1,k2]
   have e2:xO n r=kD n r.tx r.prev 2:=by simp [xO,k1,k2]
   rw [e1,e2];exact Ms n r.tx r.prev w
  | false=>
   cases k3:(r.kind == 3) with
   | true=>
    have e1:kQ r=zw (xW r.tx r.prev):=by simp [kQ,k1,k2,k3]
    have e2:xO n r=kD n r.tx r.prev 3:=by simp [xO,k1,k2,k3]
    rw [e1,e2];exact PL n r.tx r.prev w
   | false=>
    cases k4:(r.kind == 4) with
    | true=>
     have e1:kQ r=wC (KW r.tx r.prev r.oid r.af r.next):=by simp [kQ,k1,k2,k3,k4]
     have e2:xO n r=⟨n,r.tx,r.prev,4,r.oid,qh,r.af,r.next,[],none,0⟩:=by simp [xO,k1,k2,k3,k4]
     rw [e1,e2];exact rW n r.tx r.prev r.oid r.af r.next w
    | false=>
     cases k5:(r.kind == 5) with
     | true=>
      have e1:kQ r=vG (xW r.tx r.prev):=by simp [kQ,k1,k2,k3,k4,k5]
      have e2:xO n r=kD n r.tx r.prev 5:=by simp [xO,k1,k2,k3,k4,k5]
      rw [e1,e2];exact Fw n r.tx r.prev w
     | false=>
      cases k6:(r.kind == 6) with
      | true=>
       have e1:kQ r=zx (Jg r.txs r.aL r.cL):=by simp [kQ,k1,k2,k3,k4,k5,k6]
       have e2:xO n r=⟨n,0,0,6,0,qh,qh,0,r.txs,r.aL,r.cL⟩:=by simp [xO,k1,k2,k3,k4,k5,k6]
       rw [e1,e2];exact PM n r.txs r.aL r.cL w
      | false=>
       have e1:kQ r=.nilIface:=by simp [kQ,k1,k2,k3,k4,k5,k6]
       have e2:xO n r=kD 0 0 0 0:=by simp [xO,k1,k2,k3,k4,k5,k6]
       rw [e1,e2];exact Fx n w
theorem rX (n:Int) {r:qg} {w:World} (h:r.reads w):(xO n r).reads w:=by
 have z:qh.reads w:=⟨ky.nil _ _,ky.nil _ _,fun _=>rfl,fun _=>rfl⟩;have y:jW w none []:=jW.nil _ _;unfold xO;split
 ·exact ⟨h.bf,h.af,y⟩
 split
 ·exact ⟨z,z,y⟩
 split
 ·exact ⟨z,z,y⟩
 split
 ·exact ⟨z,h.af,y⟩
 split
 ·exact ⟨z,z,y⟩
 split
 ·exact ⟨z,z,h.txs⟩
 ·exact ⟨z,z,y⟩
theorem rY (n:Int) {r:qg} {m:Nat} (h:r.short m):(xO n r).short m:=by
 have z:qh.v.o.ints.length≤m∧qh.v.o.refs.length≤m:=⟨Nat.zero_le _,Nat.zero_le _⟩;have y:([]:List qC).length≤m:=Nat.zero_le _;unfold xO;split
 ·exact ⟨h.bf,h.af,y⟩
 split
 ·exact ⟨z,z,y⟩
 split
 ·exact ⟨z,z,y⟩
 split
 ·exact ⟨z,h.af,y⟩
 split
 ·exact ⟨z,z,y⟩
 split
 ·exact ⟨z,z,h.txs⟩
 ·exact ⟨z,z,y⟩
theorem Kj (v:jy):xe KM v=jC v:=by
 obtain ⟨h,k,i,f⟩:=v;cases h
 ·simp [xe,jC,KM,Uu,yK,eq_comm]
 ·simp [xe,jC,KM]
theorem WQ (v:jy):xe v v=true:=by simp [xe,yK]
theorem yX {v:jy} (h:jC v=true):qE v=true:=by
 obtain ⟨b,k,i,f⟩:=v;cases b
 ·simp [jC,yK] at h;simp [qE,h]
 ·simp [jC] at h
theorem Al (n t v o:Int) (b a:jy) (x:Int) (l:List qC):((inB n 1 1000000 && ((je n t v && (inB o 1 31 && (qE b && qE a))) && yN ⟨n,t,v,1,o,b,a,0,[]⟩ ⟨n,t,v,1,o,b,a,x,l⟩))=true) ↔ xN ⟨n,t,v,1,o,b,a,x,l⟩=true:=by
 have hb:jC b=true→qE b=true:=yX;have ha:jC a=true→qE a=true:=yX;simp only [yN,WQ,Jf,xN,ku,je,Bool.and_eq_true,beq_self_eq_true,beq_iff_eq,decide_eq_true_eq,Bool.true_or,Bool.false_or];generalize jC b=ib at*
 generalize jC a=ia at*
 generalize qE b=sb at*
 generalize qE a=sa at*
 by_cases hl:l=[]
 all_goals cases ib<;>cases ia<;>cases sb<;>cases sa<;>simp [inB,hl] at hb ha ⊢ <;>omega
theorem Am (r:qg) (hk:r.kind=1):((inB r.lsn 1 1000000 && ((je r.lsn r.tx r.prev && (inB r.oid 1 31 && (qE r.bf.v && qE r.af.v))) && yN (qg.v (⟨r.lsn,r.tx,r.prev,1,r.oid,r.bf,r.af,0,[],none,0⟩)) r.v))=true) ↔ xN r.v=true:=by
 obtain ⟨n,t,v,k,o,b,a,x,l,aL,cL⟩:=r;simp only at hk;subst hk;exact Al n t v o b.v a.v x l
theorem rZ (n t v o:Int) (b a:jy) (x:Int) (l:List qC):((inB n 1 1000000 && (je n t v && yN ⟨n,t,v,2,0,KM,KM,0,[]⟩ ⟨n,t,v,2,o,b,a,x,l⟩))=true) ↔ xN ⟨n,t,v,2,o,b,a,x,l⟩=true:=by
 have hb:jC b=true→qE b=true:=yX;have ha:jC a=true→qE a=true:=yX;simp only [yN,Kj,Jf,xN,ku,je,Bool.and_eq_true,beq_self_eq_true,beq_iff_eq,decide_eq_true_eq,Bool.true_or,Bool.false_or];generalize jC b=ib at*
 generalize jC a=ia at*
 generalize qE b=sb at*
 generalize qE a=sa at*
 by_cases hl:l=[]
 all_goals cases ib<;>cases ia<;>cases sb<;>cases sa<;>simp [inB,hl] at hb ha ⊢ <;>omega
theorem si (r:qg) (hk:r.kind=2):((inB r.lsn 1 1000000 && (je r.lsn r.tx r.prev && yN (qg.v (kD r.lsn r.tx r.prev 2)) r.v))=true) ↔ xN r.v=true:=by
 obtain ⟨n,t,v,k,o,b,a,x,l,aL,cL⟩:=r;simp only at hk;subst hk;exact rZ n t v o b.v a.v x l
theorem Fy (n t v o:Int) (b a:jy) (x:Int) (l:List qC):((inB n 1 1000000 && (je n t v && yN ⟨n,t,v,3,0,KM,KM,0,[]⟩ ⟨n,t,v,3,o,b,a,x,l⟩))=true) ↔ xN ⟨n,t,v,3,o,b,a,x,l⟩=true:=by
 have hb:jC b=true→qE b=true:=yX;have ha:jC a=true→qE a=true:=yX;simp only [yN,Kj,Jf,xN,ku,je,Bool.and_eq_true,beq_self_eq_true,beq_iff_eq,decide_eq_true_eq,Bool.true_or,Bool.false_or];generalize jC b=ib at*
 generalize jC a=ia at*
 generalize qE b=sb at*
 generalize qE a=sa at*
 by_cases hl:l=[]
 all_goals cases ib<;>cases ia<;>cases sb<;>cases sa<;>simp [inB,hl] at hb ha ⊢ <;>omega
theorem Fz (r:qg) (hk:r.kind=3):((inB r.lsn 1 1000000 && (je r.lsn r.tx r.prev && yN (qg.v (kD r.lsn r.tx r.prev 3)) r.v))=true) ↔ xN r.v=true:=by
 obtain ⟨n,t,v,k,o,b,a,x,l,aL,cL⟩:=r;simp only at hk;subst hk;exact Fy n t v o b.v a.v x l
theorem TW (n t v o:Int) (b a:jy) (x:Int) (l:List qC):((inB n 1 1000000 && ((je n t v && (inB o 1 31 && (qE a && inB x 0 (n-1)))) && yN ⟨n,t,v,4,o,KM,a,x,[]⟩ ⟨n,t,v,4,o,b,a,x,l⟩))=true) ↔ xN ⟨n,t,v,4,o,b,a,x,l⟩=true:=by
 have hb:jC b=true→qE b=true:=yX;have ha:jC a=true→qE a=true:=yX;simp only [yN,Kj,WQ,Jf,xN,ku,je,Bool.and_eq_true,beq_self_eq_true,beq_iff_eq,decide_eq_true_eq,Bool.true_or,Bool.false_or];generalize jC b=ib at*
 generalize jC a=ia at*
 generalize qE b=sb at*
 generalize qE a=sa at*
 by_cases hl:l=[]
 all_goals cases ib<;>cases ia<;>cases sb<;>cases sa<;>simp [inB,hl] at hb ha ⊢ <;>omega
theorem TY (r:qg) (hk:r.kind=4):((inB r.lsn 1 1000000 && ((je r.lsn r.tx r.prev && (inB r.oid 1 31 && (qE r.af.v && inB r.next 0 (r.lsn-1)))) && yN (qg.v (⟨r.lsn,r.tx,r.prev,4,r.oid,qh,r.af,r.next,[],none,0⟩)) r.v))=true) ↔ xN r.v=true:=by
 obtain ⟨n,t,v,k,o,b,a,x,l,aL,cL⟩:=r;simp only at hk;subst hk;exact TW n t v o b.v a.v x l
theorem Ao (n t v o:Int) (b a:jy) (x:Int) (l:List qC):((inB n 1 1000000 && (je n t v && yN ⟨n,t,v,5,0,KM,KM,0,[]⟩ ⟨n,t,v,5,o,b,a,x,l⟩))=true) ↔ xN ⟨n,t,v,5,o,b,a,x,l⟩=true:=by
 have hb:jC b=true→qE b=true:=yX;have ha:jC a=true→qE a=true:=yX;simp only [yN,Kj,Jf,xN,ku,je,Bool.and_eq_true,beq_self_eq_true,beq_iff_eq,decide_eq_true_eq,Bool.true_or,Bool.false_or];generalize jC b=ib at*
 generalize jC a=ia at*
 generalize qE b=sb at*
 generalize qE a=sa at*
 by_cases hl:l=[]
 all_goals cases ib<;>cases ia<;>cases sb<;>cases sa<;>simp [inB,hl] at hb ha ⊢ <;>omega
theorem Ap (r:qg) (hk:r.kind=5):((inB r.lsn 1 1000000 && (je r.lsn r.tx r.prev && yN (qg.v (kD r.lsn r.tx r.prev 5)) r.v))=true) ↔ xN r.v=true:=by
 obtain ⟨n,t,v,k,o,b,a,x,l,aL,cL⟩:=r;simp only at hk;subst hk;exact Ao n t v o b.v a.v x l
theorem FB (n t v o:Int) (b a:jy) (x:Int) (l:List qC):((inB n 1 1000000 && (kZ n l && yN ⟨n,0,0,6,0,KM,KM,0,l⟩ ⟨n,t,v,6,o,b,a,x,l⟩))=true) ↔ xN ⟨n,t,v,6,o,b,a,x,l⟩=true:=by
 have hb:jC b=true→qE b=true:=yX;have ha:jC a=true→qE a=true:=yX;simp only [yN,Kj,PH,xN,ku,Bool.and_eq_true,beq_self_eq_true,beq_iff_eq,Bool.true_or,Bool.false_or];generalize jC b=ib at*
 generalize jC a=ia at*
 generalize qE b=sb at*
 generalize qE a=sa at*
 generalize kZ n l=L at*
 all_goals cases L<;>cases ib<;>cases ia<;>cases sb<;>cases sa<;>simp [inB] at hb ha ⊢ <;>omega
theorem FC (r:qg) (hk:r.kind=6):((inB r.lsn 1 1000000 && (kZ r.lsn r.txs && yN (qg.v (⟨r.lsn,0,0,6,0,qh,qh,0,r.txs,r.aL,r.cL⟩)) r.v))=true) ↔ xN r.v=true:=by
 obtain ⟨n,t,v,k,o,b,a,x,l,aL,cL⟩:=r;simp only at hk;subst hk;exact FB n t v o b.v a.v x l
theorem Ep (r:qg):(inB r.lsn 1 1000000 && (xu r.lsn r.v && yN (xO r.lsn r).v r.v))=xN r.v:=by
 rw [Bool.eq_iff_iff];cases k1:(r.kind == 1) with
 | true=>
  have e2:xu r.lsn r.v=(je r.lsn r.tx r.prev && (inB r.oid 1 31 && (qE r.bf.v && qE r.af.v))):=by simp [xu,qg.v,k1]
  have e3:xO r.lsn r=⟨r.lsn,r.tx,r.prev,1,r.oid,r.bf,r.af,0,[],none,0⟩:=by simp [xO,k1]
  rw [e2,e3];have hk:r.kind=1:=by simpa using k1
  exact Am _ (by simpa using k1)
 | false=>
  cases k2:(r.kind == 2) with
  | true=>
   have e2:xu r.lsn r.v=je r.lsn r.tx r.prev:=by simp [xu,qg.v,k1,k2]
   have e3:xO r.lsn r=kD r.lsn r.tx r.prev 2:=by simp [xO,k1,k2]
   rw [e2,e3];have hk:r.kind=2:=by simpa using k2
   exact si _ (by simpa using k2)
  | false=>
   cases k3:(r.kind == 3) with
   | true=>
    have e2:xu r.lsn r.v=je r.lsn r.tx r.prev:=by simp [xu,qg.v,k1,k2,k3]
    have e3:xO r.lsn r=kD r.lsn r.tx r.prev 3:=by simp [xO,k1,k2,k3]
    rw [e2,e3];have hk:r.kind=3:=by simpa using k3
    exact Fz _ (by simpa using k3)
   | false=>
    cases k4:(r.kind == 4) with
    | true=>
     have e2:xu r.lsn r.v=(je r.lsn r.tx r.prev && (inB r.oid 1 31 && (qE r.af.v && inB r.next 0 (r.lsn-1)))):=by simp [xu,qg.v,k1,k2,k3,k4]
     have e3:xO r.lsn r=⟨r.lsn,r.tx,r.prev,4,r.oid,qh,r.af,r.next,[],none,0⟩:=by simp [xO,k1,k2,k3,k4]
     rw [e2,e3];have hk:r.kind=4:=by simpa using k4
     exact TY _ (by simpa using k4)
    | false=>
     cases k5:(r.kind == 5) with
     | true=>
      have e2:xu r.lsn r.v=je r.lsn r.tx r.prev:=by simp [xu,qg.v,k1,k2,k3,k4,k5]
      have e3:xO r.lsn r=kD r.lsn r.tx r.prev 5:=by simp [xO,k1,k2,k3,k4,k5]
      rw [e2,e3];have hk:r.kind=5:=by simpa using k5
      exact Ap _ (by simpa using k5)
     | false=>
      cases k6:(r.kind == 6) with
      | true=>
       have e2:xu r.lsn r.v=kZ r.lsn r.txs:=by simp [xu,qg.v,k1,k2,k3,k4,k5,k6]
       have e3:xO r.lsn r=⟨r.lsn,0,0,6,0,qh,qh,0,r.txs,r.aL,r.cL⟩:=by simp [xO,k1,k2,k3,k4,k5,k6]
       rw [e2,e3];have hk:r.kind=6:=by simpa using k6
       exact FC _ (by simpa using k6)
      | false=>
       have e2:xu r.lsn r.v=false:=by simp [xu,qg.v,k1,k2,k3,k4,k5,k6]
       have e3:xN r.v=false:=by simp [xN,qg.v,k1,k2,k3,k4,k5,k6]
       rw [e2,e3];simp
theorem GV (r:qg) (w:World) (hg:kK w) (hr:r.reads w) (hl:r.short 1099511627776):
  Calls Tryz.prog 161 #[.agg r.cells.toArray] w fun e w'=>e=.returned (.bool (xN r.v))∧Below w.heap.size w w':=by
 obtain ⟨W,hW,b0,hbW,qp⟩:=qx w r.cells 189;have HZ:Hid (xN r.v=_):=(Ep r).symm;have HX:Hid (∀ u,Below W.heap.size W u→Box u w.heap.size r.cells 189):=fun u hu=>b0.below hu b0.lt
 have C1:=sj r W;have HD:Hid (∀ u,Below w.heap.size w u→Calls _ _ _ _ _):=fun u hu=>rM r.lsn r u (hg.keep hu) (hr.below hu) hl
 have HM:Hid (∀ u,Below w.heap.size w u→Calls _ _ _ _ _):=fun u hu=>PI (xO r.lsn r) r u (rX r.lsn (hr.below hu)) (hr.below hu) (rY r.lsn hl) hl
 generalize xN r.v=R at*
 generalize xu r.lsn r.v=G at*
 generalize yN (xO r.lsn r).v r.v=M at*
 have HN:Hid (∀ u,Calls _ _ _ _ _):=fun u=>Fu r.lsn r u
 generalize kQ r=D at*
 generalize xO r.lsn r=cc at*
 simp only [qg.cells] at*
 have HC:Hid (∀ w',Box w' w.heap.size [.int .i64 r.lsn,.int .i64 r.tx,.int .i64 r.prev,.int .i64 r.kind,.int .i64 r.oid,.bool r.bf.v.has,.int .i64 r.bf.v.o.kind,.slice r.bf.aI r.bf.v.o.ints.length r.bf.cI,.slice r.bf.aR r.bf.v.o.refs.length r.bf.cR,.bool r.af.v.has,.int .i64 r.af.v.o.kind,.slice r.af.aI r.af.v.o.ints.length r.af.cI,.slice r.af.aR r.af.v.o.refs.length r.af.cR,.int .i64 r.next,.slice r.aL r.txs.length r.cL] 189→w'.cell? ⟨w.heap.size,0,none⟩=some (.int .i64 r.lsn)∧w'.cell? ⟨w.heap.size,1,none⟩=some (.int .i64 r.tx)∧w'.cell? ⟨w.heap.size,2,none⟩=some (.int .i64 r.prev)∧w'.cell? ⟨w.heap.size,3,none⟩=some (.int .i64 r.kind)∧w'.cell? ⟨w.heap.size,4,none⟩=some (.int .i64 r.oid)∧w'.cell? ⟨w.heap.size,5,none⟩=some (.bool r.bf.v.has)∧w'.cell? ⟨w.heap.size,6,none⟩=some (.int .i64 r.bf.v.o.kind)∧w'.cell? ⟨w.heap.size,7,none⟩=some (.slice r.bf.aI r.bf.v.o.ints.length r.bf.cI)∧w'.cell? ⟨w.heap.size,8,none⟩=some (.slice r.bf.aR r.bf.v.o.refs.length r.bf.cR)∧w'.cell? ⟨w.heap.size,9,none⟩=some (.bool r.af.v.has)∧w'.cell? ⟨w.heap.size,10,none⟩=some (.int .i64 r.af.v.o.kind)∧w'.cell? ⟨w.heap.size,11,none⟩=some (.slice r.af.aI r.af.v.o.ints.length r.af.cI)∧w'.cell? ⟨w.heap.size,12,none⟩=some (.slice r.af.aR r.af.v.o.refs.length r.af.cR)∧w'.cell? ⟨w.heap.size,13,none⟩=some (.int .i64 r.next)∧w'.cell? ⟨w.heap.size,14,none⟩=some (.slice r.aL r.txs.length r.cL)):=fun w' b=>fifteen b
 obtain ⟨x0,x1,x2,x3,x4,x5,x6,x7,x8,x9,kJ,xy,xz,xG,xm⟩:=HC.out W b0;clear qp b0 hg hr hl;go_enter Tryz.func161,Tryz.ntmps161;go_wp2_with fail;rw [hW.out];clear hW;refine C1.mono ?_;clear C1 x0 x1 x2 x3 x4 x5 x6 x7 x8 x9 kJ xy xz xG xm;rintro e w1 ⟨rfl,hb1⟩;have B1:Below w.heap.size w w1:=hbW.trans (hb1.mono hbW.size);have hh:=HC.out w1 (HX.out _ hb1);by_cases h1:1≤r.lsn
 case neg=>
  have HR:Hid (R=false):=by rw [Hid,HZ.out];simp [inB];omega
  have hd:decide (1≤r.lsn)=false:=by simp;omega
  clear HZ HD HM HN h1;go_wp2_with fail;obtain ⟨x0,x1,x2,x3,x4,x5,x6,x7,x8,x9,kJ,xy,xz,xG,xm⟩:=hh
  go_quiet (fail)
  go_wp2;go_ret;exact ⟨qd HR.out.symm,below_drewN B1 _⟩
 case pos=>
 by_cases h2:r.lsn≤1000000
 case neg=>
  have HR:Hid (R=false):=by rw [Hid,HZ.out];simp [inB];omega
  have hd:decide (1≤r.lsn)=true:=by simp;omega
  have hd2:decide (r.lsn≤1000000)=false:=by simp;omega
  clear HZ HD HM HN h1 h2;go_wp2_with fail;obtain ⟨x0,x1,x2,x3,x4,x5,x6,x7,x8,x9,kJ,xy,xz,xG,xm⟩:=hh
  go_quiet (fail)
  go_wp2;go_ret;exact ⟨qd HR.out.symm,below_drewN B1 _⟩
 case pos=>
 have h12:inB r.lsn 1 1000000=true:=by simp [inB];omega
 cases G with
 | false=>
  have HR:Hid (R=false):=by rw [Hid,HZ.out];simp
  clear HZ HM HN h12;go_wp2_with fail;refine wp_region_held_drew (S:=fun w'=>w'.cell? ⟨w.heap.size,0,none⟩=some (.int .i64 r.lsn)∧w'.cell? ⟨w.heap.size,1,none⟩=some (.int .i64 r.tx)∧w'.cell? ⟨w.heap.size,2,none⟩=some (.int .i64 r.prev)∧w'.cell? ⟨w.heap.size,3,none⟩=some (.int .i64 r.kind)∧w'.cell? ⟨w.heap.size,4,none⟩=some (.int .i64 r.oid)∧w'.cell? ⟨w.heap.size,5,none⟩=some (.bool r.bf.v.has)∧w'.cell? ⟨w.heap.size,6,none⟩=some (.int .i64 r.bf.v.o.kind)∧w'.cell? ⟨w.heap.size,7,none⟩=some (.slice r.bf.aI r.bf.v.o.ints.length r.bf.cI)∧w'.cell? ⟨w.heap.size,8,none⟩=some (.slice r.bf.aR r.bf.v.o.refs.length r.bf.cR)∧w'.cell? ⟨w.heap.size,9,none⟩=some (.bool r.af.v.has)∧w'.cell? ⟨w.heap.size,10,none⟩=some (.int .i64 r.af.v.o.kind)∧w'.cell? ⟨w.heap.size,11,none⟩=some (.slice r.af.aI r.af.v.o.ints.length r.af.cI)∧w'.cell? ⟨w.heap.size,12,none⟩=some (.slice r.af.aR r.af.v.o.refs.length r.af.cR)∧w'.cell? ⟨w.heap.size,13,none⟩=some (.int .i64 r.next)∧w'.cell? ⟨w.heap.size,14,none⟩=some (.slice r.aL r.txs.length r.cL)) (by kernel_rfl) (HC.out _ (HX.out _ hb1.drew)) (fun hHeld=>?_);refine tr 0 (.pointer (some ⟨w.heap.size,0,none⟩)) ?_;refine tr 1 (.int .i64 r.lsn) ?_;refine tr 2 (.bool true) ?_;refine tr 3 (.bool true) ?_;refine tr 4 (.pointer (some ⟨w.heap.size,0,none⟩)) ?_;refine tr 5 (.int .i64 r.lsn) ?_;refine tr 6 (.bool true) ?_;refine tr 7 (.bool true) ?_;refine tr 8 (.bool true) ?_;refine tr 9 (.pointer (some ⟨w.heap.size,0,none⟩)) ?_;refine tr 10 (.int .i64 r.lsn) ?_;refine tr 11 (D) ?_;refine wpAnyH_ready (rs:=[12]) (by kernel_rfl) (by simp) ?_;refine AllReadyH.cons rfl (fun K hK=>?_) AllReadyH.nil;go_simp;refine (HD.out _ B1.drew).mono ?_;rintro e u2 ⟨rfl,TZ⟩;have nZ:Below W.heap.size W u2:=(hb1.drew).trans (TZ.mono (hb1.drew).size);refine hK.out _ _ (HC.out _ (HX.out _ nZ)) (fun hHeld=>?_);clear hK K;try simp only [zz]
  refine tr 13 (.bool false) ?_;refine tr 14 (.bool false) ?_;refine Go.Proofs.YtjkckhfddgeboaaGreatDoor.tu 15 ?_;refine Go.Proofs.YtjkckhfddgeboaaGreatDoor.tu 16 ?_;refine Go.Proofs.YtjkckhfddgeboaaGreatDoor.tu 17 ?_;refine Go.Proofs.YtjkckhfddgeboaaGreatDoor.tu 18 ?_;refine Go.Proofs.YtjkckhfddgeboaaGreatDoor.tu 19 ?_;refine Go.Proofs.YtjkckhfddgeboaaGreatDoor.tu 20 ?_;refine tr 21 (.bool false) ?_;refine tr 22 (.bool false) ?_;refine wpAnyH_done (by kernel_rfl) ?_ _;go_wp2;go_ret;exact ⟨qd HR.out.symm,hbW.trans (nZ.mono hbW.size)⟩
 | true=>
  have HR:Hid (R=M):=by rw [Hid,HZ.out,h12];simp
  clear HZ h12;go_wp2_with fail;refine wp_region_held_drew (S:=fun w'=>w'.cell? ⟨w.heap.size,0,none⟩=some (.int .i64 r.lsn)∧w'.cell? ⟨w.heap.size,1,none⟩=some (.int .i64 r.tx)∧w'.cell? ⟨w.heap.size,2,none⟩=some (.int .i64 r.prev)∧w'.cell? ⟨w.heap.size,3,none⟩=some (.int .i64 r.kind)∧w'.cell? ⟨w.heap.size,4,none⟩=some (.int .i64 r.oid)∧w'.cell? ⟨w.heap.size,5,none⟩=some (.bool r.bf.v.has)∧w'.cell? ⟨w.heap.size,6,none⟩=some (.int .i64 r.bf.v.o.kind)∧w'.cell? ⟨w.heap.size,7,none⟩=some (.slice r.bf.aI r.bf.v.o.ints.length r.bf.cI)∧w'.cell? ⟨w.heap.size,8,none⟩=some (.slice r.bf.aR r.bf.v.o.refs.length r.bf.cR)∧w'.cell? ⟨w.heap.size,9,none⟩=some (.bool r.af.v.has)∧w'.cell? ⟨w.heap.size,10,none⟩=some (.int .i64 r.af.v.o.kind)∧w'.cell? ⟨w.heap.size,11,none⟩=some (.slice r.af.aI r.af.v.o.ints.length r.af.cI)∧w'.cell? ⟨w.heap.size,12,none⟩=some (.slice r.af.aR r.af.v.o.refs.length r.af.cR)∧w'.cell? ⟨w.heap.size,13,none⟩=some (.int .i64 r.next)∧w'.cell? ⟨w.heap.size,14,none⟩=some (.slice r.aL r.txs.length r.cL)) (by kernel_rfl) (HC.out _ (HX.out _ hb1.drew)) (fun hHeld=>?_);refine tr 0 (.pointer (some ⟨w.heap.size,0,none⟩)) ?_;refine tr 1 (.int .i64 r.lsn) ?_;refine tr 2 (.bool true) ?_;refine tr 3 (.bool true) ?_;refine tr 4 (.pointer (some ⟨w.heap.size,0,none⟩)) ?_;refine tr 5 (.int .i64 r.lsn) ?_;refine tr 6 (.bool true) ?_;refine tr 7 (.bool true) ?_;refine tr 8 (.bool true) ?_;refine tr 9 (.pointer (some ⟨w.heap.size,0,none⟩)) ?_;refine tr 10 (.int .i64 r.lsn) ?_;refine tr 11 (D) ?_;refine wpAnyH_ready (rs:=[12]) (by kernel_rfl) (by simp) ?_;refine AllReadyH.cons rfl (fun K hK=>?_) AllReadyH.nil;go_simp;refine (HD.out _ B1.drew).mono ?_;rintro e u2 ⟨rfl,TZ⟩;have nZ:Below W.heap.size W u2:=(hb1.drew).trans (TZ.mono (hb1.drew).size);refine hK.out _ _ (HC.out _ (HX.out _ nZ)) (fun hHeld=>?_);clear hK K;try simp only [zz]
  refine tr 13 (.bool true) ?_;refine tr 14 (.bool true) ?_;refine tr 15 (.pointer (some ⟨w.heap.size,0,none⟩)) ?_;refine tr 16 (.int .i64 r.lsn) ?_;refine tr 17 (D) ?_;refine tr 19 (.agg #[.int .i64 r.lsn,.int .i64 r.tx,.int .i64 r.prev,.int .i64 r.kind,.int .i64 r.oid,.bool r.bf.v.has,.int .i64 r.bf.v.o.kind,.slice r.bf.aI r.bf.v.o.ints.length r.bf.cI,.slice r.bf.aR r.bf.v.o.refs.length r.bf.cR,.bool r.af.v.has,.int .i64 r.af.v.o.kind,.slice r.af.aI r.af.v.o.ints.length r.af.cI,.slice r.af.aR r.af.v.o.refs.length r.af.cR,.int .i64 r.next,.slice r.aL r.txs.length r.cL]) ?_;refine wpAnyH_ready (rs:=[18]) (by kernel_rfl) (by simp) ?_;refine AllReadyH.cons rfl (fun K hK=>?_) AllReadyH.nil;go_simp;refine (HN.out _).mono ?_;rintro e u3 ⟨rfl,qdp⟩;have sG:Below W.heap.size W u3:=(nZ).trans (qdp.mono (nZ).size);refine hK.out _ _ (HC.out _ (HX.out _ sG)) (fun hHeld=>?_);clear hK K;try simp only [zz]
  refine wpAnyH_ready (rs:=[20]) (by kernel_rfl) (by simp) ?_;refine AllReadyH.cons rfl (fun K hK=>?_) AllReadyH.nil;go_simp;refine (HM.out _ (hbW.trans (sG.mono hbW.size))).mono ?_;rintro e u4 ⟨rfl,qdq⟩;have Er:Below W.heap.size W u4:=(sG).trans (qdq.mono (sG).size);refine hK.out _ _ (HC.out _ (HX.out _ Er)) (fun hHeld=>?_);clear hK K;try simp only [zz]
  refine tr 21 (.bool M) ?_;refine tr 22 (.bool M) ?_;refine wpAnyH_done (by kernel_rfl) ?_ _;go_wp2;go_ret;exact ⟨qd HR.out.symm,hbW.trans (Er.mono hbW.size)⟩
theorem FD (p:Int) (w:World) (h:0≤p∧p≤1099511627776):
  Calls Tryz.prog 160 #[.int .i64 p] w fun e w'=>e=.returned (.int .i64 (p+1))∧w'=w:=by
 go_enter Tryz.func160,Tryz.ntmps160;go_wp2;go_ret;exact ⟨rfl,rfl⟩
theorem GX (l:qz) (w:World) (hg:kK w) (hr:l.reads w) (hl:l.short 1099511627776):
  Calls Tryz.prog 62 #[.agg l.cells.toArray] w fun e w'=>e=.returned (.bool (kC l.v))∧Below w.heap.size w w':=by
 have HLEN:Hid (¬ l.recs.length≤4000→kC l.v=false):=fun h=>dP (by rw [l.QO];exact h)
 have QQ:Hid (¬ (0≤l.sure∧l.sure≤l.recs.length)→kC l.v=false):=fun h=>WK (by rw [l.QO];unfold inB;exact decide_eq_false h)
 have jP:Hid (∀ k,k<l.recs.length→(((l.recs.getD k qm).lsn == (k+1:Int)) && xN (l.recs.getD k qm).v)=false→kC l.v=false):=fun k hk h=>Mm k (by rw [l.QO];exact hk) (by rw [WL];exact h)
 have xP:Hid (l.recs.length≤4000→0≤l.sure∧l.sure≤l.recs.length→(∀ k,k<l.recs.length→(((l.recs.getD k qm).lsn == (k+1:Int)) && xN (l.recs.getD k qm).v)=true)→kC l.v=true):=fun h0 h1 h=>dQ (by rw [l.QO];exact h0) (by rw [l.QO];unfold inB;exact decide_eq_true h1) (fun k hk=>by rw [WL];exact h k (by rw [l.QO] at hk;exact hk))
 generalize kC l.v=R at*
 have HS:Hid (∀ k,k<l.recs.length→(l.recs.getD k qm).short 1099511627776):=fun k hk=>hl.at k hk
 have hlen:=hl.len;obtain ⟨rs,s,a,c⟩:=l;simp only [qz.reads,qz.cells] at*
 obtain ⟨W,hW,b0,hbW,qp⟩:=qx w [.slice a rs.length c,.int .i64 s] 38;have c0:=b0.cell 0 _ rfl;have c1:=b0.cell 1 _ rfl;clear hl qp;have HC:Hid (∀ k,k<rs.length→∃ b off,a=some ⟨b,off,none⟩∧W.rangeAt b (off+k*15) (rs.getD k qm).cells∧(rs.getD k qm).reads W):=fun k hk=>by
  obtain ⟨b,off,ha,hc⟩:=(xc.below hr hbW) (by intro e;rw [e] at hk;simp at hk);exact ⟨b,off,ha,hc k hk⟩
 have HI:Hid ((Tryz.prog.info? 189).map (·.size)=some 15):=by rw [Hid];kernel_rfl
 have HG:Hid (∀ u,Below W.heap.size W u→kK u):=fun u hu=>hg.keep (hbW.trans (hu.mono hbW.size))
 clear hr hg;by_cases h4:rs.length≤4000
 case neg=>
  have HR:Hid (R=false):=HLEN.out h4;clear HLEN QQ jP xP;go_enter Tryz.func62,Tryz.ntmps62;go_wp2_with fail;rw [hW.out];go_ret;exact ⟨qd HR.out.symm,hbW⟩
 case pos=>
  by_cases h5:0≤s
  case neg=>
   have HR:Hid (R=false):=QQ.out (fun h=>h5 h.1);clear HLEN QQ jP xP;go_enter Tryz.func62,Tryz.ntmps62;go_wp2_with fail;rw [hW.out];go_ret;exact ⟨qd HR.out.symm,hbW⟩
  by_cases h6:s≤rs.length
  case neg=>
   have HR:Hid (R=false):=QQ.out (fun h=>h6 h.2);clear HLEN QQ jP xP;go_enter Tryz.func62,Tryz.ntmps62;go_wp2_with fail;rw [hW.out];go_ret;exact ⟨qd HR.out.symm,hbW⟩
  have aa:Hid ((∀ k,k<rs.length→(((rs.getD k qm).lsn == (k+1:Int)) && xN (rs.getD k qm).v)=true)→R=true):=xP.out h4 ⟨h5,h6⟩;clear xP HLEN QQ;go_enter Tryz.func62,Tryz.ntmps62;go_wp2_with fail;rw [hW.out];clear hW;go_loopw [25] (fun i wr=>∃ k:Nat,k≤rs.length∧i=.int .i64 k∧Hid (∀ j,j<k→(((rs.getD j qm).lsn == (j+1:Int)) && xN (rs.getD j qm).v)=true)∧Below W.heap.size W wr) (fun i _=>rs.length-(intOf i).toNat)
  case atStart=>exact ⟨0,Nat.zero_le _,rfl,fun j hj=>by omega,Below.refl _ _⟩
  case round=>
   obtain ⟨k,hk,rfl,hall,hbl⟩:=hrel;have ve:Below w.heap.size w wr:=hbW.trans (hbl.mono hbW.size);clear c0 c1;by_cases hlt:k<rs.length
   ·obtain ⟨b,off,rfl,hcell,hrd⟩:=HC.out k hlt;have HR:Hid (wr.rangeAt b (off+k*15) (rs.getD k qm).cells):=Qz hcell hbl;have Es:=hrd.below hbl;have hsh:=HS.out k hlt;have HN:Hid ((((rs.getD k qm).lsn == (k+1:Int)) && xN (rs.getD k qm).v)=false→R=false):=jP.out k hlt;have HY:Hid ((((rs.getD k qm).lsn == (k+1:Int)) && xN (rs.getD k qm).v)=true→∀ j,j<k+1→(((rs.getD j qm).lsn == (j+1:Int)) && xN (rs.getD j qm).v)=true):=fun h j hj=>by
     by_cases e:j=k
     ·rw [e];exact h
     ·exact hall.out j (by omega)
    clear hcell HC jP hall HS hrd aa;generalize rs.getD k qm=y at*
    obtain ⟨W1,hW1,b1,hb1,hs1⟩:=qx wr [.int .i64 0,.int .i64 0,.int .i64 0,.int .i64 0,.int .i64 0,.bool false,.int .i64 0,.slice none 0 0,.slice none 0 0,.bool false,.int .i64 0,.slice none 0 0,.slice none 0 0,.int .i64 0,.slice none 0 0] 189;obtain ⟨W2,hW2,hw2,hs2,HT2,_,b2⟩:=Xb y _ rfl b1;have B2:Below wr.heap.size wr W2:=hb1.trans (hw2.below (Nat.le_refl _) (by omega));have wQ:Hid (∀ u,Below W2.heap.size W2 u→u.rangeAt wr.heap.size 0 y.cells):=fun u hu=>Box.range [] y.cells [] (by simpa using b2.below hu b2.lt)
    have C2:Below W.heap.size W W2:=hbl.trans (B2.mono hbl.size);have qdr:=Es.below B2;have hO:=Q3 y;have D2:Below w.heap.size w W2:=ve.trans (B2.mono ve.size);clear b1 b2 hw2 hs2 hs1 hb1 B2 Es hbl ve;go_wp2_with (first | (guard_target=wpList _ _ _ (Oper.mk (some 29) _ _ _ _ _::_) _ _;refine wpList_load_mid rfl 189 (.tmp 28) rfl b (off+k*15) rfl y.cells _ HR.out Tryz.underlying189 rfl HI.out ?_) | (guard_target=wpList _ _ _ (Oper.mk none (Op.store _ (Operand.tmp 4) _) _ _ _ _::_) _ _;refine wpList_store_mid rfl 189 (.tmp 4) (.tmp 29) rfl wr.heap.size 0 y.cells.toArray rfl rfl (by rw [hW1.out];exact HT2.out) HI.out hO ?_) | fail);rw [hW1.out,hW2.out];clear hW1 hW2 HT2 HR;refine wp_region_held_drew (S:=fun w'=>w'.rangeAt wr.heap.size 0 y.cells) (by kernel_rfl) ?_ (fun hHeld=>?_)
    ·exact wQ.out _ (Below.refl _ _).drew
    refine tr 0 (.pointer (some ⟨wr.heap.size,0,none⟩)) ?_;refine tk 1 (v:=.int .i64 y.lsn) rfl (Or.inl ⟨by rfl,?_⟩) hHeld ?_
    ·intro w' hSw;have hx:w'.cell? ⟨wr.heap.size,0,none⟩=some (.int .i64 y.lsn):=hSw 0 _ rfl;go_simp<;>rfl
    try simp only [zz]
    refine tr 2 (.int .i64 k) ?_;refine wpAnyH_ready (rs:=[3]) (by kernel_rfl) (by simp) ?_;refine AllReadyH.cons rfl (fun K hK=>?_) AllReadyH.nil;go_simp;refine (FD k _ (by omega)).mono ?_;rintro e w3 ⟨rfl,rfl⟩;refine hK.out _ _ (wQ.out _ (Below.refl _ _).drew) (fun hHeld=>?_);clear hK K;try simp only [zz]
    refine tr 4 (.bool (y.lsn != (k:Int)+1)) ?_;cases h6:(y.lsn == (k+1:Int)) with
    | false=>
     have HR2:Hid (R=false):=HN.out (by rw [h6];rfl);have Vj:(y.lsn != (k:Int)+1)=true:=by simp only [bne,h6,Bool.not_false]
     rw [Vj];clear h6 HN HY Vj;refine tr 5 (.bool true) ?_;refine Go.Proofs.YtjkckhfddgeboaaGreatDoor.tu 6 ?_;refine Go.Proofs.YtjkckhfddgeboaaGreatDoor.tu 7 ?_;refine Go.Proofs.YtjkckhfddgeboaaGreatDoor.tu 8 ?_;refine tr 9 (.bool true) ?_;refine wpAnyH_done (by kernel_rfl) ?_ _;go_wp2_with fail;go_ret;exact ⟨qd HR2.out.symm,D2.drew⟩
    | true=>
     rw [h6,Bool.true_and] at HN HY;have Vj:(y.lsn != (k:Int)+1)=false:=by simp only [bne,h6,Bool.not_true]
     rw [Vj];clear h6 Vj;refine tr 5 (.bool false) ?_;refine Go.Proofs.YtjkckhfddgeboaaGreatDoor.ts 6 rfl (yieldsIf_load_mid (by rfl) _ _ rfl _ _ rfl y.cells _ (fun _ h=>h) Tryz.underlying189 rfl HI.out) ?_;refine wpAnyH_ready (rs:=[7]) (by kernel_rfl) (by simp) ?_;refine AllReadyH.cons rfl (fun K hK=>?_) AllReadyH.nil;go_simp;refine (GV y _ (HG.out _ C2.drew) (qdr.below (Below.refl _ _).drew) hsh).mono ?_;rintro e w4 ⟨rfl,hb4⟩;have ag:Below W2.heap.size W2 w4:=(Below.refl _ _).drew.trans hb4;have D4:Below w.heap.size w w4:=D2.trans (ag.mono D2.size);have C4:Below W.heap.size W w4:=C2.trans (ag.mono C2.size);refine hK.out _ _ (wQ.out _ ag) (fun hHeld=>?_);clear hK K;try simp only [zz]
     cases h7:xN y.v with
     | false=>
      have HR2:Hid (R=false):=HN.out h7;clear HN HY;refine tr 8 (.bool true) ?_;refine tr 9 (.bool true) ?_;refine wpAnyH_done (by kernel_rfl) ?_ _;go_wp2_with fail;go_ret;exact ⟨qd HR2.out.symm,D4⟩
     | true=>
      have dS:=HY.out h7;clear HN HY;refine tr 8 (.bool false) ?_;refine tr 9 (.bool false) ?_;refine wpAnyH_done (by kernel_rfl) ?_ _;go_wp2_with fail;go_roundw
      case rel=>exact ⟨k+1,by omega,by go_num,dS,C4⟩
      case measure=>simp [intOf];omega
   ·have HR:Hid (R=true):=aa.out (fun j hj=>hall.out j (by omega));clear jP aa;go_wp2;go_ret;exact ⟨qd HR.out.symm,ve⟩
end Go.Proofs.YtjkckhfddgeboaaGreatDoor
namespace Go.Proofs.YtjkckhfddgeboaaGreatDoor
open Go.RowKit
theorem bH {ops:Array Oper} {rest:List Oper} {op:Oper} {a:Act} {w:World} {Q:Exit→Act→World→Prop} {P:Program} (hw:Region.wanted op (yielded ops a.tmps)=true) (ty:TypeId) (x:Operand) (ho:op.op=.load ty x)
  (b o:Nat) (hx:a.eval x=.pointer (some ⟨b,o,none⟩)) (cs:List Value) (d:TypeDesc) (hc:w.rangeAt b o cs)
  (hu:P.underlying ty=some d) (hd:d.isRow=true) (hi:(P.info? ty).map (·.size)=some cs.length)
  (h:wpList P ops Q rest (a.put op.dst (.agg cs.toArray)) w):wpList P ops Q (op::rest) a w:=
 wpList_step fun _ hK=>by
  simp only [hw,if_true];exact wp_load_mid ty x ho b o hx cs d hc hu hd hi (hK _ _ h)
theorem GY (l:qz) (w:World) (hr:l.reads w) (hl:l.short 1099511627776):
  Calls Tryz.prog 166 #[.agg l.cells.toArray] w fun e w'=>e=.returned (.bool (kC l.v))∧Below w.heap.size w w':=by
 have HLEN:Hid (¬ l.recs.length≤4000→kC l.v=false):=fun h=>dP (by rw [l.QO];exact h)
 have QQ:Hid (inB l.sure 0 l.recs.length=false→kC l.v=false):=fun h=>WK (by rw [l.QO];exact h)
 have jP:Hid (∀ k,k<l.recs.length→(((l.recs.getD k qm).lsn == (k+1:Int)) && xN (l.recs.getD k qm).v)=false→kC l.v=false):=fun k hk h=>Mm k (by rw [l.QO];exact hk) (by rw [WL];exact h)
 have xP:Hid (l.recs.length≤4000→inB l.sure 0 l.recs.length=true→(∀ k,k<l.recs.length→(((l.recs.getD k qm).lsn == (k+1:Int)) && xN (l.recs.getD k qm).v)=true)→kC l.v=true):=fun h0 h1 h=>dQ (by rw [l.QO];exact h0) (by rw [l.QO];exact h1) (fun k hk=>by rw [WL];exact h k (by rw [l.QO] at hk;exact hk))
 generalize kC l.v=R at*
 have HS:Hid (∀ k,k<l.recs.length→(l.recs.getD k qm).short 1099511627776):=fun k hk=>hl.at k hk
 have hlen:=hl.len;obtain ⟨rs,s,a,c⟩:=l;simp only [qz.reads,qz.cells] at*
 obtain ⟨W,hW,b0,hbW,qp⟩:=qx w [.slice a rs.length c,.int .i64 s] 38;have c0:=b0.cell 0 _ rfl;have c1:=b0.cell 1 _ rfl;clear hl qp;have HC:Hid (∀ k,k<rs.length→∃ b off,a=some ⟨b,off,none⟩∧W.rangeAt b (off+k*15) (rs.getD k qm).cells∧(rs.getD k qm).reads W):=fun k hk=>by
  obtain ⟨b,off,ha,hc⟩:=(xc.below hr hbW) (by intro e;rw [e] at hk;simp at hk);exact ⟨b,off,ha,hc k hk⟩
 have HI:Hid ((Tryz.prog.info? 189).map (·.size)=some 15):=by rw [Hid];kernel_rfl
 clear hr;by_cases h4:rs.length≤4000
 case neg=>
  have HR:Hid (R=false):=HLEN.out h4;clear HLEN QQ jP xP;go_enter Tryz.func166,Tryz.ntmps166;go_wp2_with fail;rw [hW.out];go_ret;exact ⟨qd HR.out.symm,hbW⟩
 case pos=>
  cases h5:inB s 0 rs.length with
  | false=>
   have HR:Hid (R=false):=QQ.out h5;clear HLEN QQ jP xP;go_enter Tryz.func166,Tryz.ntmps166;go_wp2_with fail;rw [hW.out];refine (jd _ _ _ W).mono ?_;rintro e u ⟨rfl,hu⟩;rw [hu];clear hu u;go_wp2;go_ret;exact ⟨qd HR.out.symm,hbW⟩
  | true=>
   go_enter Tryz.func166,Tryz.ntmps166;go_wp2_with fail;rw [hW.out];refine (jd _ _ _ W).mono ?_;rintro e u ⟨rfl,hu⟩;rw [hu];clear hu u hW;go_wp2_with fail;go_loopw [3] (fun i wr=>∃ k:Nat,k≤rs.length∧i=.int .i64 k∧Hid (∀ j,j<k→(((rs.getD j qm).lsn == (j+1:Int)) && xN (rs.getD j qm).v)=true)∧Below W.heap.size W wr) (fun i _=>rs.length-(intOf i).toNat)
   case atStart=>exact ⟨0,Nat.zero_le _,rfl,fun j hj=>by omega,Below.refl _ _⟩
   case round=>
    obtain ⟨k,hk,rfl,hall,hbl⟩:=hrel;have ve:Below w.heap.size w wr:=hbW.trans (hbl.mono hbW.size);have r0:=(hbl.cell (block_lt c0)).trans c0;clear c0 c1;by_cases hlt:k<rs.length
    ·obtain ⟨b,off,rfl,hcell,hrd⟩:=HC.out k hlt;have HR:Hid (wr.rangeAt b (off+k*15) (rs.getD k qm).cells):=Qz hcell hbl;have x0:wr.cell? ⟨b,off+k*15,none⟩=some (.int .i64 (rs.getD k qm).lsn):=HR.out 0 _ rfl;have C:=GZ (rs.getD k qm) wr (hrd.below hbl) (HS.out k hlt);have HN:Hid ((((rs.getD k qm).lsn == (k+1:Int)) && xN (rs.getD k qm).v)=false→R=false):=jP.out k hlt;have HY:Hid ((((rs.getD k qm).lsn == (k+1:Int)) && xN (rs.getD k qm).v)=true→∀ j,j<k+1→(((rs.getD j qm).lsn == (j+1:Int)) && xN (rs.getD j qm).v)=true):=fun h j hj=>by
      by_cases e:j=k
      ·rw [e];exact h
      ·exact hall.out j (by omega)
     clear hcell HC HLEN QQ jP xP hall HS hrd;generalize rs.getD k qm=y at*
     cases h6:(y.lsn == (k+1:Int)) with
     | false=>
      have HR2:Hid (R=false):=HN.out (by rw [h6];rfl);have Vj:(y.lsn != (k:Int)+1)=true:=by simp only [bne,h6,Bool.not_false]
      clear h6;clear HN HY C;go_wp2_with fail;go_ret;exact ⟨qd HR2.out.symm,ve⟩
     | true=>
      rw [h6,Bool.true_and] at HN HY;have Vj:(y.lsn != (k:Int)+1)=false:=by simp only [bne,h6,Bool.not_true]
      clear h6;cases h7:xN y.v with
      | false=>
       have HR2:Hid (R=false):=HN.out h7;clear HN HY;rw [h7] at C;go_wp2_with (first | (guard_target=wpList _ _ _ (Oper.mk (some 38) _ _ _ _ _::_) _ _;refine bH (by rfl) 189 (.tmp 37) rfl b (off+k*15) rfl y.cells _ HR.out Tryz.underlying189 rfl HI.out ?_) | fail);refine C.mono ?_;rintro e w1 ⟨rfl,hb1⟩;go_wp2_with fail;go_ret;exact ⟨qd HR2.out.symm,ve.trans (hb1.mono ve.size)⟩
      | true=>
       have dS:=HY.out h7;clear HN HY;rw [h7] at C;go_wp2_with (first | (guard_target=wpList _ _ _ (Oper.mk (some 38) _ _ _ _ _::_) _ _;refine bH (by rfl) 189 (.tmp 37) rfl b (off+k*15) rfl y.cells _ HR.out Tryz.underlying189 rfl HI.out ?_) | fail);refine C.mono ?_;rintro e w1 ⟨rfl,hb1⟩;clear C;have hb2:Below W.heap.size W w1:=hbl.trans (hb1.mono hbl.size);go_wp2_with fail;go_roundw
       case rel=>exact ⟨k+1,by omega,by go_num,dS,hb2⟩
       case measure=>simp [intOf];omega
    ·have HR:Hid (R=true):=xP.out h4 h5 (fun j hj=>hall.out j (by omega));clear HLEN QQ jP xP;go_wp2;go_ret;exact ⟨qd HR.out.symm,ve⟩
end Go.Proofs.YtjkckhfddgeboaaGreatDoor