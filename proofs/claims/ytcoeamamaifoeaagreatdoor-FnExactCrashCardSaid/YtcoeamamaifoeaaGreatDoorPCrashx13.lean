/- Several texts in one, in their order. -/
import Derived.Test.YtcoeamamaifoeaaGreatDoorPCrashx11
import Derived.Test.YtcoeamamaifoeaaGreatDoorPCrashx12
import Derived.Deep.RegionLaw
import Derived.Deep.DrawnRows
import Derived.Test.YtcoeamamaifoeaaGreatDoorPCrashx5
import Derived.Test.YtcoeamamaifoeaaGreatDoorPCrashx2
import Derived.Test.YtcoeamamaifoeaaGreatDoorPCrashx9
import Derived.Deep.QuietTactic
import Derived.BigQuiet
import Derived.Test.YtcoeamamaifoeaaGreatDoorPCrashx1
set_option maxHeartbeats 8000000
set_option maxRecDepth 100000
namespace Go.Proofs.YtcoeamamaifoeaaGreatDoor
open Go.RowKit
attribute [local go_sem ↓] Go.wp_at_zero Go.wp_at_succ
theorem lit_rec (q:RecA):List.foldl (fun cs x=>cs.setIfInBounds x.snd x.fst) (#[.int .i64 0,.int .i64 0,.int .i64 0,.int .i64 0,.int .i64 0,.bool false,.int .i64 0,.slice none 0 0,.slice none 0 0,.bool false,.int .i64 0,.slice none 0 0,.slice none 0 0,.int .i64 0,.slice none 0 0]:Array Value) q.cells.zipIdx=q.cells.toArray:=by simp [RecA.cells,List.zipIdx]
theorem l5Copy_any (l:LogA) (w:World) (hr:l.reads w) (hl:l.short 1048576) (hcp:∀ r∈l.recs,r.aL=none→r.cL=0):
  Calls Tryz.prog 48 #[.agg l.cells.toArray] w fun e w'=>∃ t:LogA,e=.returned (.agg t.cells.toArray)∧Hid (t.v=l.v)∧t.own w' w.heap.size w'.heap.size∧Below w.heap.size w w':=by
 obtain ⟨rs,s,a,c⟩:=l
 have hl2:=(LogA.short_wide hl).each
 have hl0:=hl.len
 simp only [LogA.reads,LogA.cells,LogA.own] at*
 obtain ⟨W,hW,b0,b1,b2,hbW,hsW⟩:=boxes3 w [.slice a rs.length c,.int .i64 s] [.slice none 0 0,.int .i64 0] [.slice none 0 0,.int .i64 s] 54 54 54
 have hs0:w.heap.size+1+1<W.heap.size:=by omega
 clear hsW
 have x0:=b0.cell 0 _ rfl
 have x1:=b0.cell 1 _ rfl
 have HC:Hid (∀ k,k<rs.length→∃ b off,a=some ⟨b,off,none⟩∧w.rangeAt b (off+k*15) (rs.getD k zeroR).cells∧(rs.getD k zeroR).reads w∧(rs.getD k zeroR).short 1099511627776∧((rs.getD k zeroR).aL=none→(rs.getD k zeroR).cL=0)):=fun k hk=>by
  obtain ⟨b,off,ha,hc⟩:=hr (by intro e;rw [e] at hk;simp at hk)
  exact ⟨b,off,ha,(hc k hk).1,(hc k hk).2,hl2 _ (recD_mem rs k hk),hcp _ (recD_mem rs k hk)⟩
 have HI:Hid ((Tryz.prog.info? 100).map (·.size)=some 15):=by rw [Hid];kernel_rfl
 clear hr hl hl2 hcp
 go_enter Tryz.func48,Tryz.ntmps48
 go_wp2_with fail
 rw [hW.out]
 clear hW x0 x1
 go_loopw [4] (fun i wr=>∃ (k:Nat) (ts:List RecA) (a':Option Addr) (c':Nat),k≤rs.length∧i=.int .i64 k∧Hid (Came rs ts k)∧Box wr (w.heap.size+1+1) [.slice a' ts.length c',.int .i64 s] 54∧Box wr w.heap.size [.slice a rs.length c,.int .i64 s] 54∧Box wr (w.heap.size+1) [.slice none 0 0,.int .i64 0] 54∧OwnRs wr W.heap.size wr.heap.size a' c' ts∧Below w.heap.size w wr∧W.heap.size≤wr.heap.size)
  (fun i _=>rs.length-(intOf i).toNat)
 case atStart=>exact ⟨0,[],none,0,Nat.zero_le _,rfl,came_none rs,b2,b0,b1,ownRs_nil _ _ _ (Nat.le_refl _),hbW,Nat.le_refl _⟩
 case round=>
  obtain ⟨k,ts,a',c',hk,rfl,hc,k2,k0,k1,hown,hnx,hsz⟩:=hrel
  clear b0 b1 b2 hbW
  have x0:=k0.cell 0 _ rfl
  by_cases hlt:k<rs.length
  ·obtain ⟨b,off,rfl,hcell,hrd,hsh,hnc⟩:=HC.out k hlt
   have hbB:=rangeR_lt hcell
   have hnw:=hnx.size
   have HR:Hid (∀ u,Below w.heap.size w u→u.rangeAt b (off+k*15) (rs.getD k zeroR).cells):=fun u hu=>rangeAt_below hcell hu hbB
   have HS:Hid (∀ q:RecA,q.v=(rs.getD k zeroR).v→Came rs (ts++[q]) (k+1)):=fun q hq=>hc.out.snoc hlt hq
   have HL:Hid (ts.length=k):=hc.out.1
   clear hcell HC
   generalize rs.getD k zeroR=z at*
   have e0:=k2.cell 0 _ rfl
   have HSS:Hid (∀ u,Below w.heap.size w u→Box u w.heap.size [.slice (some ⟨b,off,none⟩) rs.length c,.int .i64 s] 54→u.rangeAt b (off+k*15) z.cells∧u.cell? ⟨w.heap.size,0,none⟩=some (.slice (some ⟨b,off,none⟩) rs.length c)):=fun u h1 h2=>⟨HR.out u h1,h2.cell 0 _ rfl⟩
   go_wp2_with fail
   refine wp_region_held_drew (S:=fun w'=>w'.rangeAt b (off+k*15) z.cells∧w'.cell? ⟨w.heap.size,0,none⟩=some (.slice (some ⟨b,off,none⟩) rs.length c)) (by kernel_rfl) ?_ (fun hHeld=>?_)
   ·exact HSS.out _ hnx.drew (k0.drewN 1)
   refine tq 0 (v:=.pointer (some ⟨w.heap.size+1+1,0,none⟩)) rfl hHeld ?_
   try simp only [zz]
   refine tq 2 (v:=.pointer (some ⟨w.heap.size,0,none⟩)) rfl hHeld ?_
   try simp only [zz]
   refine tk 3 (v:=.slice (some ⟨b,off,none⟩) rs.length c) rfl (Or.inl ⟨by rfl,?_⟩) hHeld ?_
   ·intro w' hSw
    have hx:=hSw.2
    go_simp<;>rfl
   try simp only [zz]
   refine tq 4 (v:=.int .i64 k) rfl hHeld ?_
   try simp only [zz]
   refine tq 5 (v:=.pointer (some ⟨b,off+k*15,none⟩)) rfl hHeld ?_
   try simp only [zz]
   refine tk 6 rfl (yieldsIf_load_mid (by rfl) _ _ rfl _ _ rfl z.cells _ (fun _ h=>h.1) Tryz.underlying100 rfl HI.out) hHeld ?_
   try simp only [zz]
   have hnd:Below wr.heap.size wr wr.drew:=(Below.refl _ _).drew
   have C:=l5CopyRec_own z wr.drew (hrd.below hnx.drew) hsh hnc
   refine wpAnyH_ready (rs:=[1,7]) (by kernel_rfl) (by simp) ?_
   refine AllReadyH.cons rfl (fun K hK=>?_) (AllReadyH.cons rfl (fun K hK=>?_) AllReadyH.nil)
   ·go_simp
    refine hK.out _ _ (hHeld) (fun hHeld=>?_)
    clear hK K
    try simp only [zz]
    refine wpAnyH_ready (rs:=[7]) (by kernel_rfl) (by simp) ?_
    refine AllReadyH.cons rfl (fun K hK=>?_) AllReadyH.nil
    go_simp
    refine C.mono ?_
    clear C
    rintro e u2 ⟨q,rfl,hq,hqo,hb2⟩
    have hb2':Below wr.heap.size wr u2:=hnd.trans hb2
    have hn2:Below w.heap.size w u2:=hnx.trans (hb2'.mono hnw)
    have k22:=k2.below hb2' k2.lt
    have k02:=k0.below hb2' k0.lt
    have k12:=k1.below hb2' k1.lt
    have o2:=hown.below hb2'
    have hqo2:q.own u2 wr.heap.size u2.heap.size:=hqo
    have hs2:=hb2'.size
    refine hK.out _ _ (HSS.out _ hn2 k02) (fun hHeld=>?_)
    clear hK K
    try simp only [zz]
    refine wpAnyH_ready (rs:=[8]) (by kernel_rfl) (by simp) ?_
    refine AllReadyH.cons rfl (fun K hK=>?_) AllReadyH.nil
    go_simp
    simp only [cellsR_len,lit_rec,not_true_eq_false,Nat.lt_irrefl,or_self,if_false]
    go_simp
    obtain ⟨W3,hW3,b3,hb3,hs3⟩:=boxes1 u2 q.cells 100
    rw [hW3.out]
    have hn3:Below w.heap.size w W3:=hn2.trans (hb3.mono hn2.size)
    have k23:=k22.below hb3 k22.lt
    have k03:=k02.below hb3 k02.lt
    have k13:=k12.below hb3 k12.lt
    have o3:=o2.below hb3
    have hqo3:=hqo2.below hb3
    have r3:W3.rangeAt u2.heap.size 0 q.cells:=Box.range [] q.cells [] (by simpa using b3)
    have hs3':=b3.lt
    clear hs3 hb3 hW3 b3 k02 k12 o2 hqo2
    refine hK.out _ _ (HSS.out _ hn3 k03) (fun hHeld=>?_)
    clear hK K
    try simp only [zz]
    have hll:ts.length+1≤68719476736:=by have:=HL.out;omega
    refine wpAnyH_ready (rs:=[9]) (by kernel_rfl) (by simp) ?_
    refine AllReadyH.cons rfl (fun K hK=>?_) AllReadyH.nil
    refine step_append_rec rfl (.tmp 16) (.tmp 23) rfl W.heap.size wr.heap.size a' c' ts rfl o3 u2.heap.size 0 1 q rfl r3 wr.heap.size u2.heap.size hqo3 (Nat.le_refl _) (by omega) hll hsz ?_
    intro a9 c9 w9 o9 g9
    have HCM:=HS.out q hq.out
    obtain ⟨ys,hys⟩:∃ ys,Hid (ts++[q]=ys):=⟨_,rfl⟩
    rw [hys.out] at o9 HCM ⊢
    have hw9:Within W.heap.size wr.heap.size W3 w9:=Within.of_grown g9 (fun j hj=>⟨(o3.row.lt j hj).1,o3.blk j hj⟩)
    have hs9:=hw9.size
    have hn9:Below w.heap.size w w9:=hn3.trans (hw9.below (by omega) (by omega))
    have k29:=k23.within hw9 (by omega)
    have k09:=k03.within hw9 (by omega)
    have k19:=k13.within hw9 (by omega)
    refine hK.out _ _ (HSS.out _ hn9 k09) (fun hHeld=>?_)
    clear hK K hw9 g9 o3 r3 hqo3 k23 k03 k13
    try simp only [zz]
    refine tq 10 (v:=.pointer (some ⟨w.heap.size+1+1,0,none⟩)) rfl hHeld ?_
    try simp only [zz]
    have m0:=k29.cell 0 _ rfl
    have mf0:=k29.frozen 0
    obtain ⟨WF,hWF,kF,hwF,hsF⟩:=box_set k29 0 (.slice a9 ys.length c9)
    simp only [List.set] at kF
    have hsFa:=Nat.le_of_eq hsF
    have hsFb:=Nat.le_of_eq hsF.symm
    clear hsF
    have k0F:=k09.within hwF (by omega)
    have k1F:=k19.within hwF (by omega)
    have oF:=(o9.within hwF (.inr (by omega))).widen (Nat.le_refl _) hsFb (Nat.le_refl _)
    have hnF:Below w.heap.size w WF:=hn9.trans (hwF.below (by omega) (by omega))
    clear hwF k29 k09 k19 o9
    refine wpAnyH_ready (rs:=[11]) (by kernel_rfl) (by simp) ?_
    refine AllReadyH.cons rfl (fun K hK=>?_) AllReadyH.nil
    go_simp
    rw [hWF.out]
    refine hK.out _ _ (HSS.out _ hnF k0F) (fun hHeld=>?_)
    clear hK K
    try simp only [zz]
    refine wpAnyH_done (by kernel_rfl) ?_ _
    clear m0 mf0 hWF
    go_wp2_with fail
    go_roundw
    case rel=>exact ⟨k+1,ys,a9,c9,by omega,by go_num,HCM,kF,k0F,k1F,oF,hnF,by omega⟩
    case measure=>simp [intOf];omega
   ·go_simp
    refine C.mono ?_
    clear C
    rintro e u2 ⟨q,rfl,hq,hqo,hb2⟩
    have hb2':Below wr.heap.size wr u2:=hnd.trans hb2
    have hn2:Below w.heap.size w u2:=hnx.trans (hb2'.mono hnw)
    have k22:=k2.below hb2' k2.lt
    have k02:=k0.below hb2' k0.lt
    have k12:=k1.below hb2' k1.lt
    have o2:=hown.below hb2'
    have hqo2:q.own u2 wr.heap.size u2.heap.size:=hqo
    have hs2:=hb2'.size
    refine hK.out _ _ (HSS.out _ hn2 k02) (fun hHeld=>?_)
    clear hK K
    try simp only [zz]
    refine wpAnyH_ready (rs:=[1,8]) (by kernel_rfl) (by simp) ?_
    refine AllReadyH.cons rfl (fun K hK=>?_) (AllReadyH.cons rfl (fun K hK=>?_) AllReadyH.nil)
    ·have d0:=k22.cell 0 _ rfl
     go_simp
     refine hK.out _ _ (hHeld) (fun hHeld=>?_)
     clear hK K
     try simp only [zz]
     refine wpAnyH_ready (rs:=[8]) (by kernel_rfl) (by simp) ?_
     refine AllReadyH.cons rfl (fun K hK=>?_) AllReadyH.nil
     go_simp
     simp only [cellsR_len,lit_rec,not_true_eq_false,Nat.lt_irrefl,or_self,if_false]
     go_simp
     obtain ⟨W3,hW3,b3,hb3,hs3⟩:=boxes1 u2 q.cells 100
     rw [hW3.out]
     have hn3:Below w.heap.size w W3:=hn2.trans (hb3.mono hn2.size)
     have k23:=k22.below hb3 k22.lt
     have k03:=k02.below hb3 k02.lt
     have k13:=k12.below hb3 k12.lt
     have o3:=o2.below hb3
     have hqo3:=hqo2.below hb3
     have r3:W3.rangeAt u2.heap.size 0 q.cells:=Box.range [] q.cells [] (by simpa using b3)
     have hs3':=b3.lt
     clear hs3 hb3 hW3 b3 k02 k12 o2 hqo2
     refine hK.out _ _ (HSS.out _ hn3 k03) (fun hHeld=>?_)
     clear hK K
     try simp only [zz]
     have hll:ts.length+1≤68719476736:=by have:=HL.out;omega
     refine wpAnyH_ready (rs:=[9]) (by kernel_rfl) (by simp) ?_
     refine AllReadyH.cons rfl (fun K hK=>?_) AllReadyH.nil
     refine step_append_rec rfl (.tmp 16) (.tmp 23) rfl W.heap.size wr.heap.size a' c' ts rfl o3 u2.heap.size 0 1 q rfl r3 wr.heap.size u2.heap.size hqo3 (Nat.le_refl _) (by omega) hll hsz ?_
     intro a9 c9 w9 o9 g9
     have HCM:=HS.out q hq.out
     obtain ⟨ys,hys⟩:∃ ys,Hid (ts++[q]=ys):=⟨_,rfl⟩
     rw [hys.out] at o9 HCM ⊢
     have hw9:Within W.heap.size wr.heap.size W3 w9:=Within.of_grown g9 (fun j hj=>⟨(o3.row.lt j hj).1,o3.blk j hj⟩)
     have hs9:=hw9.size
     have hn9:Below w.heap.size w w9:=hn3.trans (hw9.below (by omega) (by omega))
     have k29:=k23.within hw9 (by omega)
     have k09:=k03.within hw9 (by omega)
     have k19:=k13.within hw9 (by omega)
     refine hK.out _ _ (HSS.out _ hn9 k09) (fun hHeld=>?_)
     clear hK K hw9 g9 o3 r3 hqo3 k23 k03 k13
     try simp only [zz]
     refine tq 10 (v:=.pointer (some ⟨w.heap.size+1+1,0,none⟩)) rfl hHeld ?_
     try simp only [zz]
     have m0:=k29.cell 0 _ rfl
     have mf0:=k29.frozen 0
     obtain ⟨WF,hWF,kF,hwF,hsF⟩:=box_set k29 0 (.slice a9 ys.length c9)
     simp only [List.set] at kF
     have hsFa:=Nat.le_of_eq hsF
     have hsFb:=Nat.le_of_eq hsF.symm
     clear hsF
     have k0F:=k09.within hwF (by omega)
     have k1F:=k19.within hwF (by omega)
     have oF:=(o9.within hwF (.inr (by omega))).widen (Nat.le_refl _) hsFb (Nat.le_refl _)
     have hnF:Below w.heap.size w WF:=hn9.trans (hwF.below (by omega) (by omega))
     clear hwF k29 k09 k19 o9
     refine wpAnyH_ready (rs:=[11]) (by kernel_rfl) (by simp) ?_
     refine AllReadyH.cons rfl (fun K hK=>?_) AllReadyH.nil
     go_simp
     rw [hWF.out]
     refine hK.out _ _ (HSS.out _ hnF k0F) (fun hHeld=>?_)
     clear hK K
     try simp only [zz]
     refine wpAnyH_done (by kernel_rfl) ?_ _
     clear m0 mf0 hWF
     go_wp2_with fail
     go_roundw
     case rel=>exact ⟨k+1,ys,a9,c9,by omega,by go_num,HCM,kF,k0F,k1F,oF,hnF,by omega⟩
     case measure=>simp [intOf];omega
    ·go_simp
     simp only [cellsR_len,lit_rec,not_true_eq_false,Nat.lt_irrefl,or_self,if_false]
     go_simp
     obtain ⟨W3,hW3,b3,hb3,hs3⟩:=boxes1 u2 q.cells 100
     rw [hW3.out]
     have hn3:Below w.heap.size w W3:=hn2.trans (hb3.mono hn2.size)
     have k23:=k22.below hb3 k22.lt
     have k03:=k02.below hb3 k02.lt
     have k13:=k12.below hb3 k12.lt
     have o3:=o2.below hb3
     have hqo3:=hqo2.below hb3
     have r3:W3.rangeAt u2.heap.size 0 q.cells:=Box.range [] q.cells [] (by simpa using b3)
     have hs3':=b3.lt
     clear hs3 hb3 hW3 b3 k02 k12 o2 hqo2
     refine hK.out _ _ (HSS.out _ hn3 k03) (fun hHeld=>?_)
     clear hK K
     try simp only [zz]
     have d0:=k23.cell 0 _ rfl
     refine wpAnyH_ready (rs:=[1]) (by kernel_rfl) (by simp) ?_
     refine AllReadyH.cons rfl (fun K hK=>?_) AllReadyH.nil
     go_simp
     refine hK.out _ _ (hHeld) (fun hHeld=>?_)
     clear hK K
     try simp only [zz]
     have hll:ts.length+1≤68719476736:=by have:=HL.out;omega
     refine wpAnyH_ready (rs:=[9]) (by kernel_rfl) (by simp) ?_
     refine AllReadyH.cons rfl (fun K hK=>?_) AllReadyH.nil
     refine step_append_rec rfl (.tmp 16) (.tmp 23) rfl W.heap.size wr.heap.size a' c' ts rfl o3 u2.heap.size 0 1 q rfl r3 wr.heap.size u2.heap.size hqo3 (Nat.le_refl _) (by omega) hll hsz ?_
     intro a9 c9 w9 o9 g9
     have HCM:=HS.out q hq.out
     obtain ⟨ys,hys⟩:∃ ys,Hid (ts++[q]=ys):=⟨_,rfl⟩
     rw [hys.out] at o9 HCM ⊢
     have hw9:Within W.heap.size wr.heap.size W3 w9:=Within.of_grown g9 (fun j hj=>⟨(o3.row.lt j hj).1,o3.blk j hj⟩)
     have hs9:=hw9.size
     have hn9:Below w.heap.size w w9:=hn3.trans (hw9.below (by omega) (by omega))
     have k29:=k23.within hw9 (by omega)
     have k09:=k03.within hw9 (by omega)
     have k19:=k13.within hw9 (by omega)
     refine hK.out _ _ (HSS.out _ hn9 k09) (fun hHeld=>?_)
     clear hK K hw9 g9 o3 r3 hqo3 k23 k03 k13
     try simp only [zz]
     refine tq 10 (v:=.pointer (some ⟨w.heap.size+1+1,0,none⟩)) rfl hHeld ?_
     try simp only [zz]
     have m0:=k29.cell 0 _ rfl
     have mf0:=k29.frozen 0
     obtain ⟨WF,hWF,kF,hwF,hsF⟩:=box_set k29 0 (.slice a9 ys.length c9)
     simp only [List.set] at kF
     have hsFa:=Nat.le_of_eq hsF
     have hsFb:=Nat.le_of_eq hsF.symm
     clear hsF
     have k0F:=k09.within hwF (by omega)
     have k1F:=k19.within hwF (by omega)
     have oF:=(o9.within hwF (.inr (by omega))).widen (Nat.le_refl _) hsFb (Nat.le_refl _)
     have hnF:Below w.heap.size w WF:=hn9.trans (hwF.below (by omega) (by omega))
     clear hwF k29 k09 k19 o9
     refine wpAnyH_ready (rs:=[11]) (by kernel_rfl) (by simp) ?_
     refine AllReadyH.cons rfl (fun K hK=>?_) AllReadyH.nil
     go_simp
     rw [hWF.out]
     refine hK.out _ _ (HSS.out _ hnF k0F) (fun hHeld=>?_)
     clear hK K
     try simp only [zz]
     refine wpAnyH_done (by kernel_rfl) ?_ _
     clear m0 mf0 hWF
     go_wp2_with fail
     go_roundw
     case rel=>exact ⟨k+1,ys,a9,c9,by omega,by go_num,HCM,kF,k0F,k1F,oF,hnF,by omega⟩
     case measure=>simp [intOf];omega
  ·have HE:Hid (ts.map RecA.v=rs.map RecA.v):=by
    have e:k=rs.length:=by omega
    rw [e] at hc
    exact hc.out.all
   have e0:=k2.cell 0 _ rfl
   have e1:=k2.cell 1 _ rfl
   have m0:=k1.cell 0 _ rfl
   have m1:=k1.cell 1 _ rfl
   have mf0:=k1.frozen 0
   have mf1:=k1.frozen 1
   obtain ⟨WF,hWF,bF,hwF,hsF⟩:=box2_fill k1 (.slice a' ts.length c') (.int .i64 s)
   have q0:=bF.cell 0 _ rfl
   have q1:=bF.cell 1 _ rfl
   have hoF:=(hown.within hwF (.inr (by omega))).widen (show w.heap.size≤W.heap.size by omega) (show wr.heap.size≤WF.heap.size by omega) (Nat.le_refl _)
   have hbF:Below w.heap.size w WF:=hnx.trans (hwF.below (by omega) (by have:=hnx.size;omega))
   clear hwF hsF bF
   go_wp2
   rw [hWF.out]
   exact bodyPost_ret (v:=.agg #[.slice a' ts.length c',.int .i64 s]) (by simp [results,Tryz.results48,go_sem,q0,q1]) rfl ⟨⟨ts,s,a',c'⟩,rfl,by simp only [Hid,LogA.v];rw [HE.out],hoF,hbF⟩
end Go.Proofs.YtcoeamamaifoeaaGreatDoor
namespace Go.Proofs.YtcoeamamaifoeaaGreatDoor
open Go.RowKit
theorem getD_v (rs:List RecA) (k:Nat):(rs.map RecA.v).getD k noR=(rs.getD k zeroR).v:=by
 simp only [List.getD,List.getElem?_map]
 cases rs[k]? <;>rfl
def okAt (rs:List RecV) (k:Nat):Bool:=((rs.getD k noR).lsn == (k+1:Int)) && okR (rs.getD k noR)
def okLog (l:LogV):Bool:=decide (l.recs.length≤4000) && (inB l.sure 0 l.recs.length && (List.range l.recs.length).all (okAt l.recs))
theorem okLog_len {l:LogV} (h:¬ l.recs.length≤4000):okLog l=false:=by simp [okLog,h]
theorem okLog_sure {l:LogV} (h:inB l.sure 0 l.recs.length=false):okLog l=false:=by simp [okLog,h]
theorem okLog_no {l:LogV} (k:Nat) (hk:k<l.recs.length) (h:okAt l.recs k=false):okLog l=false:=by
 have:(List.range l.recs.length).all (okAt l.recs)=false:=by
  rw [List.all_eq_false]
  exact ⟨k,List.mem_range.2 hk,by rw [h];decide⟩
 simp [okLog,this]
theorem okLog_all {l:LogV} (h0:l.recs.length≤4000) (h1:inB l.sure 0 l.recs.length=true) (h:∀ k,k<l.recs.length→okAt l.recs k=true):okLog l=true:=by
 have:(List.range l.recs.length).all (okAt l.recs)=true:=by
  rw [List.all_eq_true]
  exact fun k hk=>h k (List.mem_range.1 hk)
 simp [okLog,this,h0,h1]
theorem okLog_yes {l:LogV} (h:okLog l=true):l.recs.length≤4000∧0≤l.sure∧l.sure≤l.recs.length∧∀ k,k<l.recs.length→(l.recs.getD k noR).lsn=(k+1:Int)∧okR (l.recs.getD k noR)=true:=by
 simp only [okLog,Bool.and_eq_true,decide_eq_true_eq,List.all_eq_true,List.mem_range,okAt,beq_iff_eq,inB] at h
 exact ⟨h.1,h.2.1.1,h.2.1.2,h.2.2⟩
theorem LogA.v_len (l:LogA):l.v.recs.length=l.recs.length:=by simp [LogA.v]
theorem LogA.v_at (l:LogA) (k:Nat):l.v.recs.getD k noR=(l.recs.getD k zeroR).v:=getD_v l.recs k
theorem okAt_v (l:LogA) (k:Nat):okAt l.v.recs k=(((l.recs.getD k zeroR).lsn == (k+1:Int)) && okR (l.recs.getD k zeroR).v):=by
 unfold okAt
 rw [l.v_at]
 rfl
def leftOf (l:LogV) (keep:Int):Nat:=if keep<l.recs.length-l.sure then (l.sure+keep).toNat else l.recs.length
def tearOf (l:LogV) (keep:Int):LogV:=if okLog l=true∧0≤keep then ⟨l.recs.take (leftOf l keep),leftOf l keep⟩ else l
end Go.Proofs.YtcoeamamaifoeaaGreatDoor
namespace Go.Proofs.YtcoeamamaifoeaaGreatDoor
open Go.RowKit
def sameL (a b:LiveV):Bool:=decide (a.tx=b.tx) && (decide (a.last=b.last) && (a.aborts == b.aborts))
theorem sameL_iff {a b:LiveV}:sameL a b=true ↔ a=b:=by
 obtain ⟨a1,a2,a3⟩:=a
 obtain ⟨b1,b2,b3⟩:=b
 simp [sameL]
def sameLs (xs ys:List LiveV):Bool:=decide (xs.length=ys.length) && (List.range xs.length).all fun k=>sameL (xs.getD k zeroL) (ys.getD k zeroL)
theorem sameLs_len {xs ys:List LiveV} (h:¬ xs.length=ys.length):sameLs xs ys=false:=by simp [sameLs,h]
theorem sameLs_no {xs ys:List LiveV} (k:Nat) (hk:k<xs.length) (h:sameL (xs.getD k zeroL) (ys.getD k zeroL)=false):sameLs xs ys=false:=by
 have:((List.range xs.length).all fun k=>sameL (xs.getD k zeroL) (ys.getD k zeroL))=false:=by
  rw [List.all_eq_false]
  exact ⟨k,List.mem_range.2 hk,by rw [h];decide⟩
 unfold sameLs
 rw [this,Bool.and_false]
theorem sameLs_all {xs ys:List LiveV} (hl:xs.length=ys.length) (h:∀ k,k<xs.length→sameL (xs.getD k zeroL) (ys.getD k zeroL)=true):sameLs xs ys=true:=by
 have:((List.range xs.length).all fun k=>sameL (xs.getD k zeroL) (ys.getD k zeroL))=true:=by
  rw [List.all_eq_true]
  exact fun k hk=>h k (List.mem_range.1 hk)
 unfold sameLs
 rw [this,Bool.and_true]
 exact decide_eq_true hl
theorem sameLs_refl (xs:List LiveV):sameLs xs xs=true:=sameLs_all rfl (fun _ _=>sameL_iff.2 rfl)
theorem sameLs_nil (xs:List LiveV):sameLs [] xs=decide (xs.length=0):=by
 cases xs with
 | nil=>rfl
 | cons x r=>rw [sameLs_len (by simp)];simp
theorem run_neq_live (a b:LiveV) (w:World):(binOp .neq 109 (.agg #[.int .i64 a.tx,.int .i64 a.last,.bool a.aborts]) (.agg #[.int .i64 b.tx,.int .i64 b.last,.bool b.aborts])).run Tryz.prog w=.ok (.bool (!sameL a b)) w:=by
 obtain ⟨a1,a2,a3⟩:=a
 obtain ⟨b1,b2,b3⟩:=b
 have hp:Tryz.prog.stoodInHeld 109=false:=by kernel_rfl
 by_cases h1:a1=b1<;>by_cases h2:a2=b2<;>cases a3<;>cases b3<;>go_simp<;>simp_all [sameL]
theorem equalLives_any (a b:Option Addr) (ca cb:Nat) (xs ys:List LiveV) (w:World) (ha:ReadsL w a xs) (hb:ReadsL w b ys) (hl:xs.length≤1099511627776) (hl2:ys.length≤1099511627776):
  Calls Tryz.prog 144 #[.slice a xs.length ca,.slice b ys.length cb] w fun e w'=>e=.returned (.bool (sameLs xs ys))∧∃ n,w'=w.drewN n:=by
 by_cases hle:xs.length=ys.length
 case neg=>
  have HE:Hid (_=_):=sameLs_len hle
  have hle':((xs.length:Int) == (ys.length:Int))=false:=by simp;omega
  go_enter Tryz.func144,Tryz.ntmps144
  go_wp2
  go_ret
  exact ⟨ret_bool HE.out.symm,0,rfl⟩
 case pos=>
 have HL:Hid (xs.length=ys.length):=hle
 have hle':((xs.length:Int) == (ys.length:Int))=true:=by simp;omega
 rcases ha.cases with rfl | ⟨b1,o1,rfl,hpos,hc1⟩
 ·obtain rfl:ys=[]:=List.length_eq_zero_iff.1 (by simpa using hle.symm)
  have HE:Hid (sameLs [] []=true):=rfl
  clear hle hle' HL
  go_enter Tryz.func144,Tryz.ntmps144
  go_wp2
  refine wp_loop_rounds 1 ?_
  rw [rounds_succ]
  go_wp2
  go_ret
  exact ⟨ret_bool HE.out.symm,0,rfl⟩
 ·rcases hb.cases with rfl | ⟨b2,o2,rfl,_,hc2⟩
  ·simp at hle;simp [hle] at hpos
  ·clear hle
   go_enter Tryz.func144,Tryz.ntmps144
   go_wp2
   go_loopw [13] (fun i wr=>∃ k:Nat,k≤xs.length∧i=.int .i64 k∧Hid (∀ t,t<k→sameL (xs.getD t zeroL) (ys.getD t zeroL)=true)∧∃ n,wr=w.drewN n) (fun i _=>xs.length-(intOf i).toNat)
   case atStart=>exact ⟨0,Nat.zero_le _,rfl,fun t ht=>by omega,0,rfl⟩
   case round=>
    obtain ⟨k,hk,rfl,hall,n,rfl⟩:=hrel
    by_cases hlt:k<xs.length
    ·obtain ⟨h10,h11,h12⟩:=hc1 k hlt
     obtain ⟨h20,h21,h22⟩:=hc2 k (by have:=HL.out;omega)
     have hlt2:(k:Int)<(ys.length:Int):=by have:=HL.out;omega
     have hnl:=run_neq_live (xs.getD k zeroL) (ys.getD k zeroL)
     clear hc1 hc2
     cases hz:sameL (xs.getD k zeroL) (ys.getD k zeroL) with
     | true=>
      have HN:Hid (∀ t,t<k+1→sameL (xs.getD t zeroL) (ys.getD t zeroL)=true):=by
       intro t ht
       by_cases e:t=k
       ·rw [e];exact hz
       ·exact hall.out t (by omega)
      rw [hz] at hnl
      clear hz
      generalize xs.getD k zeroL=z at*
      generalize ys.getD k zeroL=y at*
      go_wp2
      go_quiet (fail)
      go_wp2
      go_roundw
      case rel=>exact ⟨k+1,by omega,by go_num,HN,_,rfl⟩
      case measure=>simp [intOf];omega
     | false=>
      have HE:Hid (_=_):=sameLs_no k hlt hz
      rw [hz] at hnl
      clear hz
      generalize xs.getD k zeroL=z at*
      generalize ys.getD k zeroL=y at*
      go_wp2
      go_quiet (fail)
      go_wp2
      go_ret
      exact ⟨ret_bool HE.out.symm,n+nq,by first | rfl | simp⟩
    ·have HE:Hid (_=_):=sameLs_all HL.out (fun t ht=>hall.out t (by omega))
     go_wp2
     go_ret
     exact ⟨ret_bool HE.out.symm,n,rfl⟩
def sameS (a b:SlotV):Bool:=(a.has == b.has) && sameO a.o b.o
theorem implSameSlot_any (s t:SlotA) (w:World) (hs:s.reads w) (ht:t.reads w) (hls:Fit [s]) (hlt:Fit [t]):
  Calls Tryz.prog 139 #[.agg s.cells.toArray,.agg t.cells.toArray] w fun e w'=>e=.returned (.bool (sameS s.v t.v))∧Below w.heap.size w w':=by
 obtain ⟨h1,h2⟩:=hls s (List.mem_singleton.2 rfl)
 obtain ⟨h3,h4⟩:=hlt t (List.mem_singleton.2 rfl)
 obtain ⟨W,hW,b0,b1,hbW,hsW⟩:=boxes2 w s.cells t.cells 44 44
 have C1:=implSameObj_any s.v.o t.v.o s.aI s.cI s.aR s.cR t.aI t.cI t.aR t.cR W (ReadsO.below hs hbW) (ReadsO.below ht hbW) h1 h2 h3 h4
 have HZ:Hid (sameS s.v t.v=((s.v.has == t.v.has) && sameO s.v.o t.v.o)):=rfl
 generalize sameS s.v t.v=R at*
 simp only [SlotA.cells] at*
 obtain ⟨x0,x1,x2,x3,_⟩:=b0.four
 obtain ⟨y0,y1,y2,y3,_⟩:=b1.four
 clear hsW b0 b1
 cases hb:(s.v.has == t.v.has) with
 | false=>
  have HR:Hid (R=false):=by rw [Hid,HZ.out];simp [hb]
  clear HZ C1
  go_enter Tryz.func139,Tryz.ntmps139
  go_wp2
  go_ret
  exact ⟨ret_bool HR.out.symm,by rw [hW.out];exact hbW⟩
 | true=>
  have HR:Hid (R=sameO s.v.o t.v.o):=by rw [Hid,HZ.out];simp [hb]
  clear HZ
  go_enter Tryz.func139,Tryz.ntmps139
  go_wp2_with fail
  rw [hW.out]
  refine C1.mono ?_
  clear C1 x0 x1 x2 x3 y0 y1 y2 y3
  rintro e w1 ⟨rfl,hb1⟩
  go_wp2
  go_ret
  exact ⟨ret_bool HR.out.symm,hbW.trans (hb1.mono hbW.size)⟩
def sameR (r t:RecV):Bool:=((r.lsn == t.lsn) && ((r.tx == t.tx) && ((r.prev == t.prev) && ((r.kind == t.kind) && ((r.oid == t.oid) && (sameS r.bf t.bf && (sameS r.af t.af && ((r.next == t.next) && sameLs r.txs t.txs))))))))
theorem sameRec_any (r t:RecA) (w:World) (hr:r.reads w) (ht:t.reads w) (hlr:r.short 1099511627776) (hlt:t.short 1099511627776):
  Calls Tryz.prog 129 #[.agg r.cells.toArray,.agg t.cells.toArray] w fun e w'=>e=.returned (.bool (sameR r.v t.v))∧Below w.heap.size w w':=by
 obtain ⟨W,hW,b0,b1,hbW,hsW⟩:=boxes2 w r.cells t.cells 100 100
 have HZ:Hid (sameR r.v t.v=((r.lsn == t.lsn) && ((r.tx == t.tx) && ((r.prev == t.prev) && ((r.kind == t.kind) && ((r.oid == t.oid) && (sameS r.bf.v t.bf.v && (sameS r.af.v t.af.v && ((r.next == t.next) && sameLs r.txs t.txs))))))))):=rfl
 have HB:Hid (∀ u,Below w.heap.size w u→Calls _ _ _ _ _):=fun u hu=>implSameSlot_any r.bf t.bf u (ReadsO.below hr.bf hu) (ReadsO.below ht.bf hu) (fun s hs=>by obtain rfl:=List.mem_singleton.1 hs;exact hlr.bf) (fun s hs=>by obtain rfl:=List.mem_singleton.1 hs;exact hlt.bf)
 have HA:Hid (∀ u,Below w.heap.size w u→Calls _ _ _ _ _):=fun u hu=>implSameSlot_any r.af t.af u (ReadsO.below hr.af hu) (ReadsO.below ht.af hu) (fun s hs=>by obtain rfl:=List.mem_singleton.1 hs;exact hlr.af) (fun s hs=>by obtain rfl:=List.mem_singleton.1 hs;exact hlt.af)
 have HL:Hid (∀ u,Below w.heap.size w u→Calls _ _ _ _ _):=fun u hu=>equalLives_any r.aL t.aL r.cL t.cL r.txs t.txs u (hr.txs.below hu) (ht.txs.below hu) hlr.txs hlt.txs
 have HX:Hid (∀ u,Below W.heap.size W u→Box u w.heap.size r.cells 100∧Box u (w.heap.size+1) t.cells 100):=fun u hu=>⟨b0.below hu b0.lt,b1.below hu b1.lt⟩
 generalize sameR r.v t.v=R at*
 clear hsW hr ht hlr hlt b0 b1
 simp only [RecA.cells,SlotA.cells] at*
 have l0:Below W.heap.size W W:=Below.refl _ _
 obtain ⟨x0,x1,x2,x3,x4,x5,x6,x7,x8,x9,x10,x11,x12,x13,x14⟩:=fifteen (HX.out W l0).1
 obtain ⟨y0,y1,y2,y3,y4,y5,y6,y7,y8,y9,y10,y11,y12,y13,y14⟩:=fifteen (HX.out W l0).2
 go_enter Tryz.func129,Tryz.ntmps129
 cases c0:(r.lsn == t.lsn) with
 | false=>
  have HR:Hid (R=false):=by rw [Hid,HZ.out];simp [c0]
  clear HZ
  go_wp2
  go_ret
  exact ⟨ret_bool HR.out.symm,by rw [hW.out];exact hbW⟩
 | true=>
  cases c1:(r.tx == t.tx) with
  | false=>
   have HR:Hid (R=false):=by rw [Hid,HZ.out];simp [c0,c1]
   clear HZ
   go_wp2
   go_ret
   exact ⟨ret_bool HR.out.symm,by rw [hW.out];exact hbW⟩
  | true=>
   cases c2:(r.prev == t.prev) with
   | false=>
    have HR:Hid (R=false):=by rw [Hid,HZ.out];simp [c0,c1,c2]
    clear HZ
    go_wp2
    go_ret
    exact ⟨ret_bool HR.out.symm,by rw [hW.out];exact hbW⟩
   | true=>
    cases c3:(r.kind == t.kind) with
    | false=>
     have HR:Hid (R=false):=by rw [Hid,HZ.out];simp [c0,c1,c2,c3]
     clear HZ
     go_wp2
     go_ret
     exact ⟨ret_bool HR.out.symm,by rw [hW.out];exact hbW⟩
    | true=>
     cases c4:(r.oid == t.oid) with
     | false=>
      have HR:Hid (R=false):=by rw [Hid,HZ.out];simp [c0,c1,c2,c3,c4]
      clear HZ
      go_wp2
      go_ret
      exact ⟨ret_bool HR.out.symm,by rw [hW.out];exact hbW⟩
     | true=>
      go_wp2_with fail
      rw [hW.out]
      clear hW
      refine (HB.out W hbW).mono ?_
      clear x0 x1 x2 x3 x4 x5 x6 x7 x8 x9 x10 x11 x12 x13 x14 y0 y1 y2 y3 y4 y5 y6 y7 y8 y9 y10 y11 y12 y13 y14
      rintro e u5 ⟨rfl,hb5⟩
      have b_5:Below w.heap.size w u5:=(hbW).trans (hb5.mono (hbW).size)
      have l_5:Below W.heap.size W u5:=(l0).trans (hb5.mono (l0).size)
      obtain ⟨x0,x1,x2,x3,x4,x5,x6,x7,x8,x9,x10,x11,x12,x13,x14⟩:=fifteen (HX.out u5 l_5).1
      obtain ⟨y0,y1,y2,y3,y4,y5,y6,y7,y8,y9,y10,y11,y12,y13,y14⟩:=fifteen (HX.out u5 l_5).2
      clear hb5
      cases c5:sameS r.bf.v t.bf.v with
      | false=>
       have HR:Hid (R=false):=by rw [Hid,HZ.out];simp [c0,c1,c2,c3,c4,c5]
       clear HZ
       go_wp2
       go_ret
       exact ⟨ret_bool HR.out.symm,b_5⟩
      | true=>
       go_wp2_with fail
       refine (HA.out u5 b_5).mono ?_
       clear x0 x1 x2 x3 x4 x5 x6 x7 x8 x9 x10 x11 x12 x13 x14 y0 y1 y2 y3 y4 y5 y6 y7 y8 y9 y10 y11 y12 y13 y14
       rintro e u6 ⟨rfl,hb6⟩
       have b_6:Below w.heap.size w u6:=(b_5).trans (hb6.mono (b_5).size)
       have l_6:Below W.heap.size W u6:=(l_5).trans (hb6.mono (l_5).size)
       obtain ⟨x0,x1,x2,x3,x4,x5,x6,x7,x8,x9,x10,x11,x12,x13,x14⟩:=fifteen (HX.out u6 l_6).1
       obtain ⟨y0,y1,y2,y3,y4,y5,y6,y7,y8,y9,y10,y11,y12,y13,y14⟩:=fifteen (HX.out u6 l_6).2
       clear hb6
       cases c6:sameS r.af.v t.af.v with
       | false=>
        have HR:Hid (R=false):=by rw [Hid,HZ.out];simp [c0,c1,c2,c3,c4,c5,c6]
        clear HZ
        go_wp2
        go_ret
        exact ⟨ret_bool HR.out.symm,b_6⟩
       | true=>
        cases c7:(r.next == t.next) with
        | false=>
         have HR:Hid (R=false):=by rw [Hid,HZ.out];simp [c0,c1,c2,c3,c4,c5,c6,c7]
         clear HZ
         go_wp2
         go_ret
         exact ⟨ret_bool HR.out.symm,b_6⟩
        | true=>
         go_wp2_with fail
         refine (HL.out u6 b_6).mono ?_
         clear x0 x1 x2 x3 x4 x5 x6 x7 x8 x9 x10 x11 x12 x13 x14 y0 y1 y2 y3 y4 y5 y6 y7 y8 y9 y10 y11 y12 y13 y14
         rintro e u8 ⟨rfl,nn,hnn⟩
         have hb8:Below (u6).heap.size u6 u8:=by rw [hnn];exact below_drewN (Below.refl _ _) nn
         clear hnn
         have b_8:Below w.heap.size w u8:=(b_6).trans (hb8.mono (b_6).size)
         have l_8:Below W.heap.size W u8:=(l_6).trans (hb8.mono (l_6).size)
         have HR:Hid (R=sameLs r.txs t.txs):=by rw [Hid,HZ.out];simp [c0,c1,c2,c3,c4,c5,c6,c7]
         clear HZ
         go_wp2
         go_ret
         exact ⟨ret_bool HR.out.symm,b_8⟩
end Go.Proofs.YtcoeamamaifoeaaGreatDoor