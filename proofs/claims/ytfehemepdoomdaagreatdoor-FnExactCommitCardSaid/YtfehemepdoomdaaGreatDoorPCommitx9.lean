/- Several texts in one, in their order. -/
import Derived.Test.YtfehemepdoomdaaGreatDoorPCommitx8
import Derived.Deep.RegionLaw
import Derived.Deep.DrawnRows
import Derived.Test.YtfehemepdoomdaaGreatDoorPCommitx7
import Derived.Test.YtfehemepdoomdaaGreatDoorPCommitx4
import Derived.Test.YtfehemepdoomdaaGreatDoorPCommitx1
import Derived.Test.YtfehemepdoomdaaGreatDoorPCommitx2
import Derived.Test.YtfehemepdoomdaaGreatDoorPCommitx6
import Derived.Deep.QuietTactic
import Derived.BigQuiet
import Derived.Test.YtfehemepdoomdaaGreatDoorPCommitx3
set_option maxHeartbeats 8000000
set_option maxRecDepth 100000
namespace Go.Proofs.YtfehemepdoomdaaGreatDoor
open Go.RowKit
attribute [local go_sem ↓] Go.wp_at_zero Go.wp_at_succ
theorem lit_rec (q:RecA):List.foldl (fun cs x=>cs.setIfInBounds x.snd x.fst) (#[.int .i64 0,.int .i64 0,.int .i64 0,.int .i64 0,.int .i64 0,.bool false,.int .i64 0,.slice none 0 0,.slice none 0 0,.bool false,.int .i64 0,.slice none 0 0,.slice none 0 0,.int .i64 0,.slice none 0 0]:Array Value) q.cells.zipIdx=q.cells.toArray:=by simp [RecA.cells,List.zipIdx]
theorem l5Copy_any (l:LogA) (w:World) (hr:l.reads w) (hl:l.short 1048576) (hcp:∀ r∈l.recs,r.aL=none→r.cL=0):
  Calls Tryz.prog 84 #[.agg l.cells.toArray] w fun e w'=>∃ t:LogA,e=.returned (.agg t.cells.toArray)∧Hid (t.v=l.v)∧t.own w' w.heap.size w'.heap.size∧Below w.heap.size w w':=by
 obtain ⟨rs,s,a,c⟩:=l
 have hl2:=(LogA.short_wide hl).each
 have hl0:=hl.len
 simp only [LogA.reads,LogA.cells,LogA.own] at*
 obtain ⟨W,hW,b0,b1,b2,hbW,hsW⟩:=boxes3 w [.slice a rs.length c,.int .i64 s] [.slice none 0 0,.int .i64 0] [.slice none 0 0,.int .i64 s] 54 54 54
 have hs0:w.heap.size+1+1<W.heap.size:=by omega
 clear hsW
 have x0:=b0.cell 0 _ rfl
 have x1:=b0.cell 1 _ rfl
 have HC:Hid (∀ k,k<rs.length→∃ b off,a=some ⟨b,off,none⟩∧w.rangeAt b (off+k*15) (rs.getD k zeroR).cells∧(rs.getD k zeroR).reads w∧(rs.getD k zeroR).short 1099511627776∧((rs.getD k zeroR).aL=none→(rs.getD k zeroR).cL=0)):=fun k hk=>by
  obtain ⟨b,off,ha,hc⟩:=hr (by intro e;rw [e] at hk;simp at hk)
  exact ⟨b,off,ha,(hc k hk).1,(hc k hk).2,hl2 _ (recD_mem rs k hk),hcp _ (recD_mem rs k hk)⟩
 have HI:Hid ((Tryz.prog.info? 99).map (·.size)=some 15):=by rw [Hid];kernel_rfl
 clear hr hl hl2 hcp
 go_enter Tryz.func84,Tryz.ntmps84
 go_wp2_with fail
 rw [hW.out]
 clear hW x0 x1
 go_loopw [4] (fun i wr=>∃ (k:Nat) (ts:List RecA) (a':Option Addr) (c':Nat),k≤rs.length∧i=.int .i64 k∧Hid (Came rs ts k)∧Box wr (w.heap.size+1+1) [.slice a' ts.length c',.int .i64 s] 54∧Box wr w.heap.size [.slice a rs.length c,.int .i64 s] 54∧Box wr (w.heap.size+1) [.slice none 0 0,.int .i64 0] 54∧OwnRs wr W.heap.size wr.heap.size a' c' ts∧Below w.heap.size w wr∧W.heap.size≤wr.heap.size)
  (fun i _=>rs.length-(intOf i).toNat)
 case atStart=>exact ⟨0,[],none,0,Nat.zero_le _,rfl,came_none rs,b2,b0,b1,ownRs_nil _ _ _ (Nat.le_refl _),hbW,Nat.le_refl _⟩
 case round=>
  obtain ⟨k,ts,a',c',hk,rfl,hc,k2,k0,k1,hown,hnx,hsz⟩:=hrel
  clear b0 b1 b2 hbW
  have x0:=k0.cell 0 _ rfl
  by_cases hlt:k<rs.length
  ·obtain ⟨b,off,rfl,hcell,hrd,hsh,hnc⟩:=HC.out k hlt
   have hbB:=rangeR_lt hcell
   have hnw:=hnx.size
   have HR:Hid (∀ u,Below w.heap.size w u→u.rangeAt b (off+k*15) (rs.getD k zeroR).cells):=fun u hu=>rangeAt_below hcell hu hbB
   have HS:Hid (∀ q:RecA,q.v=(rs.getD k zeroR).v→Came rs (ts++[q]) (k+1)):=fun q hq=>hc.out.snoc hlt hq
   have HL:Hid (ts.length=k):=hc.out.1
   clear hcell HC
   generalize rs.getD k zeroR=z at*
   have e0:=k2.cell 0 _ rfl
   have HSS:Hid (∀ u,Below w.heap.size w u→Box u w.heap.size [.slice (some ⟨b,off,none⟩) rs.length c,.int .i64 s] 54→u.rangeAt b (off+k*15) z.cells∧u.cell? ⟨w.heap.size,0,none⟩=some (.slice (some ⟨b,off,none⟩) rs.length c)):=fun u h1 h2=>⟨HR.out u h1,h2.cell 0 _ rfl⟩
   go_wp2_with fail
   refine wp_region_held_drew (S:=fun w'=>w'.rangeAt b (off+k*15) z.cells∧w'.cell? ⟨w.heap.size,0,none⟩=some (.slice (some ⟨b,off,none⟩) rs.length c)) (by kernel_rfl) ?_ (fun hHeld=>?_)
   ·exact HSS.out _ hnx.drew (k0.drewN 1)
   refine tq 0 (v:=.pointer (some ⟨w.heap.size+1+1,0,none⟩)) rfl hHeld ?_
   try simp only [zz]
   refine tq 2 (v:=.pointer (some ⟨w.heap.size,0,none⟩)) rfl hHeld ?_
   try simp only [zz]
   refine tk 3 (v:=.slice (some ⟨b,off,none⟩) rs.length c) rfl (Or.inl ⟨by rfl,?_⟩) hHeld ?_
   ·intro w' hSw
    have hx:=hSw.2
    go_simp<;>rfl
   try simp only [zz]
   refine tq 4 (v:=.int .i64 k) rfl hHeld ?_
   try simp only [zz]
   refine tq 5 (v:=.pointer (some ⟨b,off+k*15,none⟩)) rfl hHeld ?_
   try simp only [zz]
   refine tk 6 rfl (yieldsIf_load_mid (by rfl) _ _ rfl _ _ rfl z.cells _ (fun _ h=>h.1) Tryz.underlying99 rfl HI.out) hHeld ?_
   try simp only [zz]
   have hnd:Below wr.heap.size wr wr.drew:=(Below.refl _ _).drew
   have C:=l5CopyRec_own z wr.drew (hrd.below hnx.drew) hsh hnc
   refine wpAnyH_ready (rs:=[1,7]) (by kernel_rfl) (by simp) ?_
   refine AllReadyH.cons rfl (fun K hK=>?_) (AllReadyH.cons rfl (fun K hK=>?_) AllReadyH.nil)
   ·go_simp
    refine hK.out _ _ (hHeld) (fun hHeld=>?_)
    clear hK K
    try simp only [zz]
    refine wpAnyH_ready (rs:=[7]) (by kernel_rfl) (by simp) ?_
    refine AllReadyH.cons rfl (fun K hK=>?_) AllReadyH.nil
    go_simp
    refine C.mono ?_
    clear C
    rintro e u2 ⟨q,rfl,hq,hqo,hb2⟩
    have hb2':Below wr.heap.size wr u2:=hnd.trans hb2
    have hn2:Below w.heap.size w u2:=hnx.trans (hb2'.mono hnw)
    have k22:=k2.below hb2' k2.lt
    have k02:=k0.below hb2' k0.lt
    have k12:=k1.below hb2' k1.lt
    have o2:=hown.below hb2'
    have hqo2:q.own u2 wr.heap.size u2.heap.size:=hqo
    have hs2:=hb2'.size
    refine hK.out _ _ (HSS.out _ hn2 k02) (fun hHeld=>?_)
    clear hK K
    try simp only [zz]
    refine wpAnyH_ready (rs:=[8]) (by kernel_rfl) (by simp) ?_
    refine AllReadyH.cons rfl (fun K hK=>?_) AllReadyH.nil
    go_simp
    simp only [cellsR_len,lit_rec,not_true_eq_false,Nat.lt_irrefl,or_self,if_false]
    go_simp
    obtain ⟨W3,hW3,b3,hb3,hs3⟩:=boxes1 u2 q.cells 99
    rw [hW3.out]
    have hn3:Below w.heap.size w W3:=hn2.trans (hb3.mono hn2.size)
    have k23:=k22.below hb3 k22.lt
    have k03:=k02.below hb3 k02.lt
    have k13:=k12.below hb3 k12.lt
    have o3:=o2.below hb3
    have hqo3:=hqo2.below hb3
    have r3:W3.rangeAt u2.heap.size 0 q.cells:=Box.range [] q.cells [] (by simpa using b3)
    have hs3':=b3.lt
    clear hs3 hb3 hW3 b3 k02 k12 o2 hqo2
    refine hK.out _ _ (HSS.out _ hn3 k03) (fun hHeld=>?_)
    clear hK K
    try simp only [zz]
    have hll:ts.length+1≤68719476736:=by have:=HL.out;omega
    refine wpAnyH_ready (rs:=[9]) (by kernel_rfl) (by simp) ?_
    refine AllReadyH.cons rfl (fun K hK=>?_) AllReadyH.nil
    refine step_append_rec rfl (.tmp 16) (.tmp 23) rfl W.heap.size wr.heap.size a' c' ts rfl o3 u2.heap.size 0 1 q rfl r3 wr.heap.size u2.heap.size hqo3 (Nat.le_refl _) (by omega) hll hsz ?_
    intro a9 c9 w9 o9 g9
    have HCM:=HS.out q hq.out
    obtain ⟨ys,hys⟩:∃ ys,Hid (ts++[q]=ys):=⟨_,rfl⟩
    rw [hys.out] at o9 HCM ⊢
    have hw9:Within W.heap.size wr.heap.size W3 w9:=Within.of_grown g9 (fun j hj=>⟨(o3.row.lt j hj).1,o3.blk j hj⟩)
    have hs9:=hw9.size
    have hn9:Below w.heap.size w w9:=hn3.trans (hw9.below (by omega) (by omega))
    have k29:=k23.within hw9 (by omega)
    have k09:=k03.within hw9 (by omega)
    have k19:=k13.within hw9 (by omega)
    refine hK.out _ _ (HSS.out _ hn9 k09) (fun hHeld=>?_)
    clear hK K hw9 g9 o3 r3 hqo3 k23 k03 k13
    try simp only [zz]
    refine tq 10 (v:=.pointer (some ⟨w.heap.size+1+1,0,none⟩)) rfl hHeld ?_
    try simp only [zz]
    have m0:=k29.cell 0 _ rfl
    have mf0:=k29.frozen 0
    obtain ⟨WF,hWF,kF,hwF,hsF⟩:=box_set k29 0 (.slice a9 ys.length c9)
    simp only [List.set] at kF
    have hsFa:=Nat.le_of_eq hsF
    have hsFb:=Nat.le_of_eq hsF.symm
    clear hsF
    have k0F:=k09.within hwF (by omega)
    have k1F:=k19.within hwF (by omega)
    have oF:=(o9.within hwF (.inr (by omega))).widen (Nat.le_refl _) hsFb (Nat.le_refl _)
    have hnF:Below w.heap.size w WF:=hn9.trans (hwF.below (by omega) (by omega))
    clear hwF k29 k09 k19 o9
    refine wpAnyH_ready (rs:=[11]) (by kernel_rfl) (by simp) ?_
    refine AllReadyH.cons rfl (fun K hK=>?_) AllReadyH.nil
    go_simp
    rw [hWF.out]
    refine hK.out _ _ (HSS.out _ hnF k0F) (fun hHeld=>?_)
    clear hK K
    try simp only [zz]
    refine wpAnyH_done (by kernel_rfl) ?_ _
    clear m0 mf0 hWF
    go_wp2_with fail
    go_roundw
    case rel=>exact ⟨k+1,ys,a9,c9,by omega,by go_num,HCM,kF,k0F,k1F,oF,hnF,by omega⟩
    case measure=>simp [intOf];omega
   ·go_simp
    refine C.mono ?_
    clear C
    rintro e u2 ⟨q,rfl,hq,hqo,hb2⟩
    have hb2':Below wr.heap.size wr u2:=hnd.trans hb2
    have hn2:Below w.heap.size w u2:=hnx.trans (hb2'.mono hnw)
    have k22:=k2.below hb2' k2.lt
    have k02:=k0.below hb2' k0.lt
    have k12:=k1.below hb2' k1.lt
    have o2:=hown.below hb2'
    have hqo2:q.own u2 wr.heap.size u2.heap.size:=hqo
    have hs2:=hb2'.size
    refine hK.out _ _ (HSS.out _ hn2 k02) (fun hHeld=>?_)
    clear hK K
    try simp only [zz]
    refine wpAnyH_ready (rs:=[1,8]) (by kernel_rfl) (by simp) ?_
    refine AllReadyH.cons rfl (fun K hK=>?_) (AllReadyH.cons rfl (fun K hK=>?_) AllReadyH.nil)
    ·have d0:=k22.cell 0 _ rfl
     go_simp
     refine hK.out _ _ (hHeld) (fun hHeld=>?_)
     clear hK K
     try simp only [zz]
     refine wpAnyH_ready (rs:=[8]) (by kernel_rfl) (by simp) ?_
     refine AllReadyH.cons rfl (fun K hK=>?_) AllReadyH.nil
     go_simp
     simp only [cellsR_len,lit_rec,not_true_eq_false,Nat.lt_irrefl,or_self,if_false]
     go_simp
     obtain ⟨W3,hW3,b3,hb3,hs3⟩:=boxes1 u2 q.cells 99
     rw [hW3.out]
     have hn3:Below w.heap.size w W3:=hn2.trans (hb3.mono hn2.size)
     have k23:=k22.below hb3 k22.lt
     have k03:=k02.below hb3 k02.lt
     have k13:=k12.below hb3 k12.lt
     have o3:=o2.below hb3
     have hqo3:=hqo2.below hb3
     have r3:W3.rangeAt u2.heap.size 0 q.cells:=Box.range [] q.cells [] (by simpa using b3)
     have hs3':=b3.lt
     clear hs3 hb3 hW3 b3 k02 k12 o2 hqo2
     refine hK.out _ _ (HSS.out _ hn3 k03) (fun hHeld=>?_)
     clear hK K
     try simp only [zz]
     have hll:ts.length+1≤68719476736:=by have:=HL.out;omega
     refine wpAnyH_ready (rs:=[9]) (by kernel_rfl) (by simp) ?_
     refine AllReadyH.cons rfl (fun K hK=>?_) AllReadyH.nil
     refine step_append_rec rfl (.tmp 16) (.tmp 23) rfl W.heap.size wr.heap.size a' c' ts rfl o3 u2.heap.size 0 1 q rfl r3 wr.heap.size u2.heap.size hqo3 (Nat.le_refl _) (by omega) hll hsz ?_
     intro a9 c9 w9 o9 g9
     have HCM:=HS.out q hq.out
     obtain ⟨ys,hys⟩:∃ ys,Hid (ts++[q]=ys):=⟨_,rfl⟩
     rw [hys.out] at o9 HCM ⊢
     have hw9:Within W.heap.size wr.heap.size W3 w9:=Within.of_grown g9 (fun j hj=>⟨(o3.row.lt j hj).1,o3.blk j hj⟩)
     have hs9:=hw9.size
     have hn9:Below w.heap.size w w9:=hn3.trans (hw9.below (by omega) (by omega))
     have k29:=k23.within hw9 (by omega)
     have k09:=k03.within hw9 (by omega)
     have k19:=k13.within hw9 (by omega)
     refine hK.out _ _ (HSS.out _ hn9 k09) (fun hHeld=>?_)
     clear hK K hw9 g9 o3 r3 hqo3 k23 k03 k13
     try simp only [zz]
     refine tq 10 (v:=.pointer (some ⟨w.heap.size+1+1,0,none⟩)) rfl hHeld ?_
     try simp only [zz]
     have m0:=k29.cell 0 _ rfl
     have mf0:=k29.frozen 0
     obtain ⟨WF,hWF,kF,hwF,hsF⟩:=box_set k29 0 (.slice a9 ys.length c9)
     simp only [List.set] at kF
     have hsFa:=Nat.le_of_eq hsF
     have hsFb:=Nat.le_of_eq hsF.symm
     clear hsF
     have k0F:=k09.within hwF (by omega)
     have k1F:=k19.within hwF (by omega)
     have oF:=(o9.within hwF (.inr (by omega))).widen (Nat.le_refl _) hsFb (Nat.le_refl _)
     have hnF:Below w.heap.size w WF:=hn9.trans (hwF.below (by omega) (by omega))
     clear hwF k29 k09 k19 o9
     refine wpAnyH_ready (rs:=[11]) (by kernel_rfl) (by simp) ?_
     refine AllReadyH.cons rfl (fun K hK=>?_) AllReadyH.nil
     go_simp
     rw [hWF.out]
     refine hK.out _ _ (HSS.out _ hnF k0F) (fun hHeld=>?_)
     clear hK K
     try simp only [zz]
     refine wpAnyH_done (by kernel_rfl) ?_ _
     clear m0 mf0 hWF
     go_wp2_with fail
     go_roundw
     case rel=>exact ⟨k+1,ys,a9,c9,by omega,by go_num,HCM,kF,k0F,k1F,oF,hnF,by omega⟩
     case measure=>simp [intOf];omega
    ·go_simp
     simp only [cellsR_len,lit_rec,not_true_eq_false,Nat.lt_irrefl,or_self,if_false]
     go_simp
     obtain ⟨W3,hW3,b3,hb3,hs3⟩:=boxes1 u2 q.cells 99
     rw [hW3.out]
     have hn3:Below w.heap.size w W3:=hn2.trans (hb3.mono hn2.size)
     have k23:=k22.below hb3 k22.lt
     have k03:=k02.below hb3 k02.lt
     have k13:=k12.below hb3 k12.lt
     have o3:=o2.below hb3
     have hqo3:=hqo2.below hb3
     have r3:W3.rangeAt u2.heap.size 0 q.cells:=Box.range [] q.cells [] (by simpa using b3)
     have hs3':=b3.lt
     clear hs3 hb3 hW3 b3 k02 k12 o2 hqo2
     refine hK.out _ _ (HSS.out _ hn3 k03) (fun hHeld=>?_)
     clear hK K
     try simp only [zz]
     have d0:=k23.cell 0 _ rfl
     refine wpAnyH_ready (rs:=[1]) (by kernel_rfl) (by simp) ?_
     refine AllReadyH.cons rfl (fun K hK=>?_) AllReadyH.nil
     go_simp
     refine hK.out _ _ (hHeld) (fun hHeld=>?_)
     clear hK K
     try simp only [zz]
     have hll:ts.length+1≤68719476736:=by have:=HL.out;omega
     refine wpAnyH_ready (rs:=[9]) (by kernel_rfl) (by simp) ?_
     refine AllReadyH.cons rfl (fun K hK=>?_) AllReadyH.nil
     refine step_append_rec rfl (.tmp 16) (.tmp 23) rfl W.heap.size wr.heap.size a' c' ts rfl o3 u2.heap.size 0 1 q rfl r3 wr.heap.size u2.heap.size hqo3 (Nat.le_refl _) (by omega) hll hsz ?_
     intro a9 c9 w9 o9 g9
     have HCM:=HS.out q hq.out
     obtain ⟨ys,hys⟩:∃ ys,Hid (ts++[q]=ys):=⟨_,rfl⟩
     rw [hys.out] at o9 HCM ⊢
     have hw9:Within W.heap.size wr.heap.size W3 w9:=Within.of_grown g9 (fun j hj=>⟨(o3.row.lt j hj).1,o3.blk j hj⟩)
     have hs9:=hw9.size
     have hn9:Below w.heap.size w w9:=hn3.trans (hw9.below (by omega) (by omega))
     have k29:=k23.within hw9 (by omega)
     have k09:=k03.within hw9 (by omega)
     have k19:=k13.within hw9 (by omega)
     refine hK.out _ _ (HSS.out _ hn9 k09) (fun hHeld=>?_)
     clear hK K hw9 g9 o3 r3 hqo3 k23 k03 k13
     try simp only [zz]
     refine tq 10 (v:=.pointer (some ⟨w.heap.size+1+1,0,none⟩)) rfl hHeld ?_
     try simp only [zz]
     have m0:=k29.cell 0 _ rfl
     have mf0:=k29.frozen 0
     obtain ⟨WF,hWF,kF,hwF,hsF⟩:=box_set k29 0 (.slice a9 ys.length c9)
     simp only [List.set] at kF
     have hsFa:=Nat.le_of_eq hsF
     have hsFb:=Nat.le_of_eq hsF.symm
     clear hsF
     have k0F:=k09.within hwF (by omega)
     have k1F:=k19.within hwF (by omega)
     have oF:=(o9.within hwF (.inr (by omega))).widen (Nat.le_refl _) hsFb (Nat.le_refl _)
     have hnF:Below w.heap.size w WF:=hn9.trans (hwF.below (by omega) (by omega))
     clear hwF k29 k09 k19 o9
     refine wpAnyH_ready (rs:=[11]) (by kernel_rfl) (by simp) ?_
     refine AllReadyH.cons rfl (fun K hK=>?_) AllReadyH.nil
     go_simp
     rw [hWF.out]
     refine hK.out _ _ (HSS.out _ hnF k0F) (fun hHeld=>?_)
     clear hK K
     try simp only [zz]
     refine wpAnyH_done (by kernel_rfl) ?_ _
     clear m0 mf0 hWF
     go_wp2_with fail
     go_roundw
     case rel=>exact ⟨k+1,ys,a9,c9,by omega,by go_num,HCM,kF,k0F,k1F,oF,hnF,by omega⟩
     case measure=>simp [intOf];omega
  ·have HE:Hid (ts.map RecA.v=rs.map RecA.v):=by
    have e:k=rs.length:=by omega
    rw [e] at hc
    exact hc.out.all
   have e0:=k2.cell 0 _ rfl
   have e1:=k2.cell 1 _ rfl
   have m0:=k1.cell 0 _ rfl
   have m1:=k1.cell 1 _ rfl
   have mf0:=k1.frozen 0
   have mf1:=k1.frozen 1
   obtain ⟨WF,hWF,bF,hwF,hsF⟩:=box2_fill k1 (.slice a' ts.length c') (.int .i64 s)
   have q0:=bF.cell 0 _ rfl
   have q1:=bF.cell 1 _ rfl
   have hoF:=(hown.within hwF (.inr (by omega))).widen (show w.heap.size≤W.heap.size by omega) (show wr.heap.size≤WF.heap.size by omega) (Nat.le_refl _)
   have hbF:Below w.heap.size w WF:=hnx.trans (hwF.below (by omega) (by have:=hnx.size;omega))
   clear hwF hsF bF
   go_wp2
   rw [hWF.out]
   exact bodyPost_ret (v:=.agg #[.slice a' ts.length c',.int .i64 s]) (by simp [results,Tryz.results84,go_sem,q0,q1]) rfl ⟨⟨ts,s,a',c'⟩,rfl,by simp only [Hid,LogA.v];rw [HE.out],hoF,hbF⟩
end Go.Proofs.YtfehemepdoomdaaGreatDoor
namespace Go.Proofs.YtfehemepdoomdaaGreatDoor
open Go.RowKit
theorem getD_v (rs:List RecA) (k:Nat):(rs.map RecA.v).getD k noR=(rs.getD k zeroR).v:=by
 simp only [List.getD,List.getElem?_map]
 cases rs[k]? <;>rfl
def okAt (rs:List RecV) (k:Nat):Bool:=((rs.getD k noR).lsn == (k+1:Int)) && okR (rs.getD k noR)
def okLog (l:LogV):Bool:=decide (l.recs.length≤4000) && (inB l.sure 0 l.recs.length && (List.range l.recs.length).all (okAt l.recs))
theorem okLog_len {l:LogV} (h:¬ l.recs.length≤4000):okLog l=false:=by simp [okLog,h]
theorem okLog_sure {l:LogV} (h:inB l.sure 0 l.recs.length=false):okLog l=false:=by simp [okLog,h]
theorem okLog_no {l:LogV} (k:Nat) (hk:k<l.recs.length) (h:okAt l.recs k=false):okLog l=false:=by
 have:(List.range l.recs.length).all (okAt l.recs)=false:=by
  rw [List.all_eq_false]
  exact ⟨k,List.mem_range.2 hk,by rw [h];decide⟩
 simp [okLog,this]
theorem okLog_all {l:LogV} (h0:l.recs.length≤4000) (h1:inB l.sure 0 l.recs.length=true) (h:∀ k,k<l.recs.length→okAt l.recs k=true):okLog l=true:=by
 have:(List.range l.recs.length).all (okAt l.recs)=true:=by
  rw [List.all_eq_true]
  exact fun k hk=>h k (List.mem_range.1 hk)
 simp [okLog,this,h0,h1]
theorem okLog_yes {l:LogV} (h:okLog l=true):l.recs.length≤4000∧0≤l.sure∧l.sure≤l.recs.length∧∀ k,k<l.recs.length→(l.recs.getD k noR).lsn=(k+1:Int)∧okR (l.recs.getD k noR)=true:=by
 simp only [okLog,Bool.and_eq_true,decide_eq_true_eq,List.all_eq_true,List.mem_range,okAt,beq_iff_eq,inB] at h
 exact ⟨h.1,h.2.1.1,h.2.1.2,h.2.2⟩
theorem LogA.v_len (l:LogA):l.v.recs.length=l.recs.length:=by simp [LogA.v]
theorem LogA.v_at (l:LogA) (k:Nat):l.v.recs.getD k noR=(l.recs.getD k zeroR).v:=getD_v l.recs k
theorem okAt_v (l:LogA) (k:Nat):okAt l.v.recs k=(((l.recs.getD k zeroR).lsn == (k+1:Int)) && okR (l.recs.getD k zeroR).v):=by
 unfold okAt
 rw [l.v_at]
 rfl
def lsnR (r:RecV) (n:Int):RecV:={ r with lsn:=n }
def sameL (a b:LiveV):Bool:=decide (a.tx=b.tx) && (decide (a.last=b.last) && (a.aborts == b.aborts))
theorem sameL_iff {a b:LiveV}:sameL a b=true ↔ a=b:=by
 obtain ⟨a1,a2,a3⟩:=a
 obtain ⟨b1,b2,b3⟩:=b
 simp [sameL]
def sameLs (xs ys:List LiveV):Bool:=decide (xs.length=ys.length) && (List.range xs.length).all fun k=>sameL (xs.getD k zeroL) (ys.getD k zeroL)
theorem sameLs_len {xs ys:List LiveV} (h:¬ xs.length=ys.length):sameLs xs ys=false:=by simp [sameLs,h]
theorem sameLs_no {xs ys:List LiveV} (k:Nat) (hk:k<xs.length) (h:sameL (xs.getD k zeroL) (ys.getD k zeroL)=false):sameLs xs ys=false:=by
 have:((List.range xs.length).all fun k=>sameL (xs.getD k zeroL) (ys.getD k zeroL))=false:=by
  rw [List.all_eq_false]
  exact ⟨k,List.mem_range.2 hk,by rw [h];decide⟩
 unfold sameLs
 rw [this,Bool.and_false]
theorem sameLs_all {xs ys:List LiveV} (hl:xs.length=ys.length) (h:∀ k,k<xs.length→sameL (xs.getD k zeroL) (ys.getD k zeroL)=true):sameLs xs ys=true:=by
 have:((List.range xs.length).all fun k=>sameL (xs.getD k zeroL) (ys.getD k zeroL))=true:=by
  rw [List.all_eq_true]
  exact fun k hk=>h k (List.mem_range.1 hk)
 unfold sameLs
 rw [this,Bool.and_true]
 exact decide_eq_true hl
theorem sameLs_refl (xs:List LiveV):sameLs xs xs=true:=sameLs_all rfl (fun _ _=>sameL_iff.2 rfl)
theorem sameLs_nil (xs:List LiveV):sameLs [] xs=decide (xs.length=0):=by
 cases xs with
 | nil=>rfl
 | cons x r=>rw [sameLs_len (by simp)];simp
theorem run_neq_live (a b:LiveV) (w:World):(binOp .neq 106 (.agg #[.int .i64 a.tx,.int .i64 a.last,.bool a.aborts]) (.agg #[.int .i64 b.tx,.int .i64 b.last,.bool b.aborts])).run Tryz.prog w=.ok (.bool (!sameL a b)) w:=by
 obtain ⟨a1,a2,a3⟩:=a
 obtain ⟨b1,b2,b3⟩:=b
 have hp:Tryz.prog.stoodInHeld 106=false:=by kernel_rfl
 by_cases h1:a1=b1<;>by_cases h2:a2=b2<;>cases a3<;>cases b3<;>go_simp<;>simp_all [sameL]
theorem equalLives_any (a b:Option Addr) (ca cb:Nat) (xs ys:List LiveV) (w:World) (ha:ReadsL w a xs) (hb:ReadsL w b ys) (hl:xs.length≤1099511627776) (hl2:ys.length≤1099511627776):
  Calls Tryz.prog 177 #[.slice a xs.length ca,.slice b ys.length cb] w fun e w'=>e=.returned (.bool (sameLs xs ys))∧∃ n,w'=w.drewN n:=by
 by_cases hle:xs.length=ys.length
 case neg=>
  have HE:Hid (_=_):=sameLs_len hle
  have hle':((xs.length:Int) == (ys.length:Int))=false:=by simp;omega
  go_enter Tryz.func177,Tryz.ntmps177
  go_wp2
  go_ret
  exact ⟨ret_bool HE.out.symm,0,rfl⟩
 case pos=>
 have HL:Hid (xs.length=ys.length):=hle
 have hle':((xs.length:Int) == (ys.length:Int))=true:=by simp;omega
 rcases ha.cases with rfl | ⟨b1,o1,rfl,hpos,hc1⟩
 ·obtain rfl:ys=[]:=List.length_eq_zero_iff.1 (by simpa using hle.symm)
  have HE:Hid (sameLs [] []=true):=rfl
  clear hle hle' HL
  go_enter Tryz.func177,Tryz.ntmps177
  go_wp2
  refine wp_loop_rounds 1 ?_
  rw [rounds_succ]
  go_wp2
  go_ret
  exact ⟨ret_bool HE.out.symm,0,rfl⟩
 ·rcases hb.cases with rfl | ⟨b2,o2,rfl,_,hc2⟩
  ·simp at hle;simp [hle] at hpos
  ·clear hle
   go_enter Tryz.func177,Tryz.ntmps177
   go_wp2
   go_loopw [13] (fun i wr=>∃ k:Nat,k≤xs.length∧i=.int .i64 k∧Hid (∀ t,t<k→sameL (xs.getD t zeroL) (ys.getD t zeroL)=true)∧∃ n,wr=w.drewN n) (fun i _=>xs.length-(intOf i).toNat)
   case atStart=>exact ⟨0,Nat.zero_le _,rfl,fun t ht=>by omega,0,rfl⟩
   case round=>
    obtain ⟨k,hk,rfl,hall,n,rfl⟩:=hrel
    by_cases hlt:k<xs.length
    ·obtain ⟨h10,h11,h12⟩:=hc1 k hlt
     obtain ⟨h20,h21,h22⟩:=hc2 k (by have:=HL.out;omega)
     have hlt2:(k:Int)<(ys.length:Int):=by have:=HL.out;omega
     have hnl:=run_neq_live (xs.getD k zeroL) (ys.getD k zeroL)
     clear hc1 hc2
     cases hz:sameL (xs.getD k zeroL) (ys.getD k zeroL) with
     | true=>
      have HN:Hid (∀ t,t<k+1→sameL (xs.getD t zeroL) (ys.getD t zeroL)=true):=by
       intro t ht
       by_cases e:t=k
       ·rw [e];exact hz
       ·exact hall.out t (by omega)
      rw [hz] at hnl
      clear hz
      generalize xs.getD k zeroL=z at*
      generalize ys.getD k zeroL=y at*
      go_wp2
      go_quiet (fail)
      go_wp2
      go_roundw
      case rel=>exact ⟨k+1,by omega,by go_num,HN,_,rfl⟩
      case measure=>simp [intOf];omega
     | false=>
      have HE:Hid (_=_):=sameLs_no k hlt hz
      rw [hz] at hnl
      clear hz
      generalize xs.getD k zeroL=z at*
      generalize ys.getD k zeroL=y at*
      go_wp2
      go_quiet (fail)
      go_wp2
      go_ret
      exact ⟨ret_bool HE.out.symm,n+nq,by first | rfl | simp⟩
    ·have HE:Hid (_=_):=sameLs_all HL.out (fun t ht=>hall.out t (by omega))
     go_wp2
     go_ret
     exact ⟨ret_bool HE.out.symm,n,rfl⟩
def sameS (a b:SlotV):Bool:=(a.has == b.has) && sameO a.o b.o
theorem implSameSlot_any (s t:SlotA) (w:World) (hs:s.reads w) (ht:t.reads w) (hls:Fit [s]) (hlt:Fit [t]):
  Calls Tryz.prog 151 #[.agg s.cells.toArray,.agg t.cells.toArray] w fun e w'=>e=.returned (.bool (sameS s.v t.v))∧Below w.heap.size w w':=by
 obtain ⟨h1,h2⟩:=hls s (List.mem_singleton.2 rfl)
 obtain ⟨h3,h4⟩:=hlt t (List.mem_singleton.2 rfl)
 obtain ⟨W,hW,b0,b1,hbW,hsW⟩:=boxes2 w s.cells t.cells 44 44
 have C1:=implSameObj_any s.v.o t.v.o s.aI s.cI s.aR s.cR t.aI t.cI t.aR t.cR W (ReadsO.below hs hbW) (ReadsO.below ht hbW) h1 h2 h3 h4
 have HZ:Hid (sameS s.v t.v=((s.v.has == t.v.has) && sameO s.v.o t.v.o)):=rfl
 generalize sameS s.v t.v=R at*
 simp only [SlotA.cells] at*
 obtain ⟨x0,x1,x2,x3,_⟩:=b0.four
 obtain ⟨y0,y1,y2,y3,_⟩:=b1.four
 clear hsW b0 b1
 cases hb:(s.v.has == t.v.has) with
 | false=>
  have HR:Hid (R=false):=by rw [Hid,HZ.out];simp [hb]
  clear HZ C1
  go_enter Tryz.func151,Tryz.ntmps151
  go_wp2
  go_ret
  exact ⟨ret_bool HR.out.symm,by rw [hW.out];exact hbW⟩
 | true=>
  have HR:Hid (R=sameO s.v.o t.v.o):=by rw [Hid,HZ.out];simp [hb]
  clear HZ
  go_enter Tryz.func151,Tryz.ntmps151
  go_wp2_with fail
  rw [hW.out]
  refine C1.mono ?_
  clear C1 x0 x1 x2 x3 y0 y1 y2 y3
  rintro e w1 ⟨rfl,hb1⟩
  go_wp2
  go_ret
  exact ⟨ret_bool HR.out.symm,hbW.trans (hb1.mono hbW.size)⟩
def sameR (r t:RecV):Bool:=((r.lsn == t.lsn) && ((r.tx == t.tx) && ((r.prev == t.prev) && ((r.kind == t.kind) && ((r.oid == t.oid) && (sameS r.bf t.bf && (sameS r.af t.af && ((r.next == t.next) && sameLs r.txs t.txs))))))))
theorem sameRec_any (r t:RecA) (w:World) (hr:r.reads w) (ht:t.reads w) (hlr:r.short 1099511627776) (hlt:t.short 1099511627776):
  Calls Tryz.prog 149 #[.agg r.cells.toArray,.agg t.cells.toArray] w fun e w'=>e=.returned (.bool (sameR r.v t.v))∧Below w.heap.size w w':=by
 obtain ⟨W,hW,b0,b1,hbW,hsW⟩:=boxes2 w r.cells t.cells 99 99
 have HZ:Hid (sameR r.v t.v=((r.lsn == t.lsn) && ((r.tx == t.tx) && ((r.prev == t.prev) && ((r.kind == t.kind) && ((r.oid == t.oid) && (sameS r.bf.v t.bf.v && (sameS r.af.v t.af.v && ((r.next == t.next) && sameLs r.txs t.txs))))))))):=rfl
 have HB:Hid (∀ u,Below w.heap.size w u→Calls _ _ _ _ _):=fun u hu=>implSameSlot_any r.bf t.bf u (ReadsO.below hr.bf hu) (ReadsO.below ht.bf hu) (fun s hs=>by obtain rfl:=List.mem_singleton.1 hs;exact hlr.bf) (fun s hs=>by obtain rfl:=List.mem_singleton.1 hs;exact hlt.bf)
 have HA:Hid (∀ u,Below w.heap.size w u→Calls _ _ _ _ _):=fun u hu=>implSameSlot_any r.af t.af u (ReadsO.below hr.af hu) (ReadsO.below ht.af hu) (fun s hs=>by obtain rfl:=List.mem_singleton.1 hs;exact hlr.af) (fun s hs=>by obtain rfl:=List.mem_singleton.1 hs;exact hlt.af)
 have HL:Hid (∀ u,Below w.heap.size w u→Calls _ _ _ _ _):=fun u hu=>equalLives_any r.aL t.aL r.cL t.cL r.txs t.txs u (hr.txs.below hu) (ht.txs.below hu) hlr.txs hlt.txs
 have HX:Hid (∀ u,Below W.heap.size W u→Box u w.heap.size r.cells 99∧Box u (w.heap.size+1) t.cells 99):=fun u hu=>⟨b0.below hu b0.lt,b1.below hu b1.lt⟩
 generalize sameR r.v t.v=R at*
 clear hsW hr ht hlr hlt b0 b1
 simp only [RecA.cells,SlotA.cells] at*
 have l0:Below W.heap.size W W:=Below.refl _ _
 obtain ⟨x0,x1,x2,x3,x4,x5,x6,x7,x8,x9,x10,x11,x12,x13,x14⟩:=fifteen (HX.out W l0).1
 obtain ⟨y0,y1,y2,y3,y4,y5,y6,y7,y8,y9,y10,y11,y12,y13,y14⟩:=fifteen (HX.out W l0).2
 go_enter Tryz.func149,Tryz.ntmps149
 cases c0:(r.lsn == t.lsn) with
 | false=>
  have HR:Hid (R=false):=by rw [Hid,HZ.out];simp [c0]
  clear HZ
  go_wp2
  go_ret
  exact ⟨ret_bool HR.out.symm,by rw [hW.out];exact hbW⟩
 | true=>
  cases c1:(r.tx == t.tx) with
  | false=>
   have HR:Hid (R=false):=by rw [Hid,HZ.out];simp [c0,c1]
   clear HZ
   go_wp2
   go_ret
   exact ⟨ret_bool HR.out.symm,by rw [hW.out];exact hbW⟩
  | true=>
   cases c2:(r.prev == t.prev) with
   | false=>
    have HR:Hid (R=false):=by rw [Hid,HZ.out];simp [c0,c1,c2]
    clear HZ
    go_wp2
    go_ret
    exact ⟨ret_bool HR.out.symm,by rw [hW.out];exact hbW⟩
   | true=>
    cases c3:(r.kind == t.kind) with
    | false=>
     have HR:Hid (R=false):=by rw [Hid,HZ.out];simp [c0,c1,c2,c3]
     clear HZ
     go_wp2
     go_ret
     exact ⟨ret_bool HR.out.symm,by rw [hW.out];exact hbW⟩
    | true=>
     cases c4:(r.oid == t.oid) with
     | false=>
      have HR:Hid (R=false):=by rw [Hid,HZ.out];simp [c0,c1,c2,c3,c4]
      clear HZ
      go_wp2
      go_ret
      exact ⟨ret_bool HR.out.symm,by rw [hW.out];exact hbW⟩
     | true=>
      go_wp2_with fail
      rw [hW.out]
      clear hW
      refine (HB.out W hbW).mono ?_
      clear x0 x1 x2 x3 x4 x5 x6 x7 x8 x9 x10 x11 x12 x13 x14 y0 y1 y2 y3 y4 y5 y6 y7 y8 y9 y10 y11 y12 y13 y14
      rintro e u5 ⟨rfl,hb5⟩
      have b_5:Below w.heap.size w u5:=(hbW).trans (hb5.mono (hbW).size)
      have l_5:Below W.heap.size W u5:=(l0).trans (hb5.mono (l0).size)
      obtain ⟨x0,x1,x2,x3,x4,x5,x6,x7,x8,x9,x10,x11,x12,x13,x14⟩:=fifteen (HX.out u5 l_5).1
      obtain ⟨y0,y1,y2,y3,y4,y5,y6,y7,y8,y9,y10,y11,y12,y13,y14⟩:=fifteen (HX.out u5 l_5).2
      clear hb5
      cases c5:sameS r.bf.v t.bf.v with
      | false=>
       have HR:Hid (R=false):=by rw [Hid,HZ.out];simp [c0,c1,c2,c3,c4,c5]
       clear HZ
       go_wp2
       go_ret
       exact ⟨ret_bool HR.out.symm,b_5⟩
      | true=>
       go_wp2_with fail
       refine (HA.out u5 b_5).mono ?_
       clear x0 x1 x2 x3 x4 x5 x6 x7 x8 x9 x10 x11 x12 x13 x14 y0 y1 y2 y3 y4 y5 y6 y7 y8 y9 y10 y11 y12 y13 y14
       rintro e u6 ⟨rfl,hb6⟩
       have b_6:Below w.heap.size w u6:=(b_5).trans (hb6.mono (b_5).size)
       have l_6:Below W.heap.size W u6:=(l_5).trans (hb6.mono (l_5).size)
       obtain ⟨x0,x1,x2,x3,x4,x5,x6,x7,x8,x9,x10,x11,x12,x13,x14⟩:=fifteen (HX.out u6 l_6).1
       obtain ⟨y0,y1,y2,y3,y4,y5,y6,y7,y8,y9,y10,y11,y12,y13,y14⟩:=fifteen (HX.out u6 l_6).2
       clear hb6
       cases c6:sameS r.af.v t.af.v with
       | false=>
        have HR:Hid (R=false):=by rw [Hid,HZ.out];simp [c0,c1,c2,c3,c4,c5,c6]
        clear HZ
        go_wp2
        go_ret
        exact ⟨ret_bool HR.out.symm,b_6⟩
       | true=>
        cases c7:(r.next == t.next) with
        | false=>
         have HR:Hid (R=false):=by rw [Hid,HZ.out];simp [c0,c1,c2,c3,c4,c5,c6,c7]
         clear HZ
         go_wp2
         go_ret
         exact ⟨ret_bool HR.out.symm,b_6⟩
        | true=>
         go_wp2_with fail
         refine (HL.out u6 b_6).mono ?_
         clear x0 x1 x2 x3 x4 x5 x6 x7 x8 x9 x10 x11 x12 x13 x14 y0 y1 y2 y3 y4 y5 y6 y7 y8 y9 y10 y11 y12 y13 y14
         rintro e u8 ⟨rfl,nn,hnn⟩
         have hb8:Below (u6).heap.size u6 u8:=by rw [hnn];exact below_drewN (Below.refl _ _) nn
         clear hnn
         have b_8:Below w.heap.size w u8:=(b_6).trans (hb8.mono (b_6).size)
         have l_8:Below W.heap.size W u8:=(l_6).trans (hb8.mono (l_6).size)
         have HR:Hid (R=sameLs r.txs t.txs):=by rw [Hid,HZ.out];simp [c0,c1,c2,c3,c4,c5,c6,c7]
         clear HZ
         go_wp2
         go_ret
         exact ⟨ret_bool HR.out.symm,b_8⟩
def deedB (n:Int) (r:RecV):Bool:=
 if r.kind == 1 then (linkB n r.tx r.prev && (inB r.oid 1 31 && (slotB r.bf && slotB r.af)))
 else if r.kind == 2 then linkB n r.tx r.prev
 else if r.kind == 3 then linkB n r.tx r.prev
 else if r.kind == 4 then (linkB n r.tx r.prev && (inB r.oid 1 31 && (slotB r.af && inB r.next 0 (n-1))))
 else if r.kind == 5 then linkB n r.tx r.prev
 else if r.kind == 6 then livesB n r.txs
 else false
def cutA (n:Int) (r:RecA):RecA:=
 if r.kind == 1 then ⟨n,r.tx,r.prev,1,r.oid,r.bf,r.af,0,[],none,0⟩
 else if r.kind == 2 then recA n r.tx r.prev 2
 else if r.kind == 3 then recA n r.tx r.prev 3
 else if r.kind == 4 then ⟨n,r.tx,r.prev,4,r.oid,zeroS,r.af,r.next,[],none,0⟩
 else if r.kind == 5 then recA n r.tx r.prev 5
 else if r.kind == 6 then ⟨n,0,0,6,0,zeroS,zeroS,0,r.txs,r.aL,r.cL⟩
 else recA 0 0 0 0
theorem one_fit {s:SlotA} (h:s.v.o.ints.length≤1099511627776∧s.v.o.refs.length≤1099511627776):Fit [s]:=fun t ht=>by obtain rfl:=List.mem_singleton.1 ht;exact h
theorem deedOk_any (n:Int) (r:RecA) (w:World) (hg:ErrT w) (hr:r.reads w) (hl:r.short 1099511627776):
  Calls Tryz.prog 148 #[.int .i64 n,deedV r] w fun e w'=>e=.returned (.bool (deedB n r.v))∧Below w.heap.size w w':=by
 cases k1:(r.kind == 1) with
 | true=>
  have e1:deedV r=issetDeed (setD r.tx r.prev r.oid r.bf r.af):=by simp [deedV,k1]
  have e2:deedB n r.v=(linkB n r.tx r.prev && (inB r.oid 1 31 && (slotB r.bf.v && slotB r.af.v))):=by simp [deedB,RecA.v,k1]
  rw [e1,e2]
  exact deedOk_set n r.tx r.prev r.oid r.bf r.af w hg hr.bf hr.af (one_fit hl.bf) (one_fit hl.af)
 | false=>
  cases k2:(r.kind == 2) with
  | true=>
   have e1:deedV r=iscommitDeed (linkD r.tx r.prev):=by simp [deedV,k1,k2]
   have e2:deedB n r.v=linkB n r.tx r.prev:=by simp [deedB,RecA.v,k1,k2]
   rw [e1,e2]
   exact deedOk_commit n r.tx r.prev w
  | false=>
   cases k3:(r.kind == 3) with
   | true=>
    have e1:deedV r=isabortDeed (linkD r.tx r.prev):=by simp [deedV,k1,k2,k3]
    have e2:deedB n r.v=linkB n r.tx r.prev:=by simp [deedB,RecA.v,k1,k2,k3]
    rw [e1,e2]
    exact deedOk_abort n r.tx r.prev w
   | false=>
    cases k4:(r.kind == 4) with
    | true=>
     have e1:deedV r=isbackDeed (backD r.tx r.prev r.oid r.af r.next):=by simp [deedV,k1,k2,k3,k4]
     have e2:deedB n r.v=(linkB n r.tx r.prev && (inB r.oid 1 31 && (slotB r.af.v && inB r.next 0 (n-1)))):=by simp [deedB,RecA.v,k1,k2,k3,k4]
     rw [e1,e2]
     exact deedOk_back n r.tx r.prev r.oid r.af r.next w hg hr.af (one_fit hl.af)
    | false=>
     cases k5:(r.kind == 5) with
     | true=>
      have e1:deedV r=isendDeed (linkD r.tx r.prev):=by simp [deedV,k1,k2,k3,k4,k5]
      have e2:deedB n r.v=linkB n r.tx r.prev:=by simp [deedB,RecA.v,k1,k2,k3,k4,k5]
      rw [e1,e2]
      exact deedOk_end n r.tx r.prev w
     | false=>
      cases k6:(r.kind == 6) with
      | true=>
       have e1:deedV r=ischeckDeed (checkD r.txs r.aL r.cL):=by simp [deedV,k1,k2,k3,k4,k5,k6]
       have e2:deedB n r.v=livesB n r.txs:=by simp [deedB,RecA.v,k1,k2,k3,k4,k5,k6]
       rw [e1,e2]
       exact deedOk_check n r.txs r.aL r.cL w hr.txs hl.txs
      | false=>
       have e1:deedV r=.nilIface:=by simp [deedV,k1,k2,k3,k4,k5,k6]
       have e2:deedB n r.v=false:=by simp [deedB,RecA.v,k1,k2,k3,k4,k5,k6]
       rw [e1,e2]
       exact deedOk_nil n w
theorem recOf_any (n:Int) (r:RecA) (w:World):
  Calls Tryz.prog 150 #[.int .i64 n,deedV r] w fun e w'=>e=.returned (.agg (cutA n r).cells.toArray)∧Below w.heap.size w w':=by
 cases k1:(r.kind == 1) with
 | true=>
  have e1:deedV r=issetDeed (setD r.tx r.prev r.oid r.bf r.af):=by simp [deedV,k1]
  have e2:cutA n r=⟨n,r.tx,r.prev,1,r.oid,r.bf,r.af,0,[],none,0⟩:=by simp [cutA,k1]
  rw [e1,e2]
  exact recOf_set n r.tx r.prev r.oid r.bf r.af w
 | false=>
  cases k2:(r.kind == 2) with
  | true=>
   have e1:deedV r=iscommitDeed (linkD r.tx r.prev):=by simp [deedV,k1,k2]
   have e2:cutA n r=recA n r.tx r.prev 2:=by simp [cutA,k1,k2]
   rw [e1,e2]
   exact recOf_commit n r.tx r.prev w
  | false=>
   cases k3:(r.kind == 3) with
   | true=>
    have e1:deedV r=isabortDeed (linkD r.tx r.prev):=by simp [deedV,k1,k2,k3]
    have e2:cutA n r=recA n r.tx r.prev 3:=by simp [cutA,k1,k2,k3]
    rw [e1,e2]
    exact recOf_abort n r.tx r.prev w
   | false=>
    cases k4:(r.kind == 4) with
    | true=>
     have e1:deedV r=isbackDeed (backD r.tx r.prev r.oid r.af r.next):=by simp [deedV,k1,k2,k3,k4]
     have e2:cutA n r=⟨n,r.tx,r.prev,4,r.oid,zeroS,r.af,r.next,[],none,0⟩:=by simp [cutA,k1,k2,k3,k4]
     rw [e1,e2]
     exact recOf_back n r.tx r.prev r.oid r.af r.next w
    | false=>
     cases k5:(r.kind == 5) with
     | true=>
      have e1:deedV r=isendDeed (linkD r.tx r.prev):=by simp [deedV,k1,k2,k3,k4,k5]
      have e2:cutA n r=recA n r.tx r.prev 5:=by simp [cutA,k1,k2,k3,k4,k5]
      rw [e1,e2]
      exact recOf_end n r.tx r.prev w
     | false=>
      cases k6:(r.kind == 6) with
      | true=>
       have e1:deedV r=ischeckDeed (checkD r.txs r.aL r.cL):=by simp [deedV,k1,k2,k3,k4,k5,k6]
       have e2:cutA n r=⟨n,0,0,6,0,zeroS,zeroS,0,r.txs,r.aL,r.cL⟩:=by simp [cutA,k1,k2,k3,k4,k5,k6]
       rw [e1,e2]
       exact recOf_check n r.txs r.aL r.cL w
      | false=>
       have e1:deedV r=.nilIface:=by simp [deedV,k1,k2,k3,k4,k5,k6]
       have e2:cutA n r=recA 0 0 0 0:=by simp [cutA,k1,k2,k3,k4,k5,k6]
       rw [e1,e2]
       exact recOf_nil n w
theorem cutA_reads (n:Int) {r:RecA} {w:World} (h:r.reads w):(cutA n r).reads w:=by
 have z:zeroS.reads w:=⟨ReadsI.nil _ _,ReadsI.nil _ _,fun _=>rfl,fun _=>rfl⟩
 have y:ReadsL w none []:=ReadsL.nil _ _
 unfold cutA
 split
 ·exact ⟨h.bf,h.af,y⟩
 split
 ·exact ⟨z,z,y⟩
 split
 ·exact ⟨z,z,y⟩
 split
 ·exact ⟨z,h.af,y⟩
 split
 ·exact ⟨z,z,y⟩
 split
 ·exact ⟨z,z,h.txs⟩
 ·exact ⟨z,z,y⟩
theorem cutA_short (n:Int) {r:RecA} {m:Nat} (h:r.short m):(cutA n r).short m:=by
 have z:zeroS.v.o.ints.length≤m∧zeroS.v.o.refs.length≤m:=⟨Nat.zero_le _,Nat.zero_le _⟩
 have y:([]:List LiveV).length≤m:=Nat.zero_le _
 unfold cutA
 split
 ·exact ⟨h.bf,h.af,y⟩
 split
 ·exact ⟨z,z,y⟩
 split
 ·exact ⟨z,z,y⟩
 split
 ·exact ⟨z,h.af,y⟩
 split
 ·exact ⟨z,z,y⟩
 split
 ·exact ⟨z,z,h.txs⟩
 ·exact ⟨z,z,y⟩
theorem isNo_same (v:SlotV):sameS noS v=isNo v:=by
 obtain ⟨h,k,i,f⟩:=v
 cases h
 ·simp [sameS,isNo,noS,noO,sameO,eq_comm]
 ·simp [sameS,isNo,noS]
theorem sameS_refl (v:SlotV):sameS v v=true:=by simp [sameS,sameO]
theorem isNo_slot {v:SlotV} (h:isNo v=true):slotB v=true:=by
 obtain ⟨b,k,i,f⟩:=v
 cases b
 ·simp [isNo,sameO] at h
  simp [slotB,h]
 ·simp [isNo] at h
theorem okV_set (n t v o:Int) (b a:SlotV) (x:Int) (l:List LiveV):((inB n 1 1000000 && ((linkB n t v && (inB o 1 31 && (slotB b && slotB a))) && sameR ⟨n,t,v,1,o,b,a,0,[]⟩ ⟨n,t,v,1,o,b,a,x,l⟩))=true) ↔ okR ⟨n,t,v,1,o,b,a,x,l⟩=true:=by
 have hb:isNo b=true→slotB b=true:=isNo_slot
 have ha:isNo a=true→slotB a=true:=isNo_slot
 simp only [sameR,sameS_refl,sameLs_nil,okR,zeroB,linkB,Bool.and_eq_true,beq_self_eq_true,beq_iff_eq,decide_eq_true_eq,Bool.true_or,Bool.false_or]
 generalize isNo b=ib at*
 generalize isNo a=ia at*
 generalize slotB b=sb at*
 generalize slotB a=sa at*
 by_cases hl:l=[]
 all_goals cases ib<;>cases ia<;>cases sb<;>cases sa<;>simp [inB,hl] at hb ha ⊢ <;>omega
theorem okR_set (r:RecA) (hk:r.kind=1):((inB r.lsn 1 1000000 && ((linkB r.lsn r.tx r.prev && (inB r.oid 1 31 && (slotB r.bf.v && slotB r.af.v))) && sameR (RecA.v (⟨r.lsn,r.tx,r.prev,1,r.oid,r.bf,r.af,0,[],none,0⟩)) r.v))=true) ↔ okR r.v=true:=by
 obtain ⟨n,t,v,k,o,b,a,x,l,aL,cL⟩:=r
 simp only at hk
 subst hk
 exact okV_set n t v o b.v a.v x l
theorem okV_commit (n t v o:Int) (b a:SlotV) (x:Int) (l:List LiveV):((inB n 1 1000000 && (linkB n t v && sameR ⟨n,t,v,2,0,noS,noS,0,[]⟩ ⟨n,t,v,2,o,b,a,x,l⟩))=true) ↔ okR ⟨n,t,v,2,o,b,a,x,l⟩=true:=by
 have hb:isNo b=true→slotB b=true:=isNo_slot
 have ha:isNo a=true→slotB a=true:=isNo_slot
 simp only [sameR,isNo_same,sameLs_nil,okR,zeroB,linkB,Bool.and_eq_true,beq_self_eq_true,beq_iff_eq,decide_eq_true_eq,Bool.true_or,Bool.false_or]
 generalize isNo b=ib at*
 generalize isNo a=ia at*
 generalize slotB b=sb at*
 generalize slotB a=sa at*
 by_cases hl:l=[]
 all_goals cases ib<;>cases ia<;>cases sb<;>cases sa<;>simp [inB,hl] at hb ha ⊢ <;>omega
theorem okR_commit (r:RecA) (hk:r.kind=2):((inB r.lsn 1 1000000 && (linkB r.lsn r.tx r.prev && sameR (RecA.v (recA r.lsn r.tx r.prev 2)) r.v))=true) ↔ okR r.v=true:=by
 obtain ⟨n,t,v,k,o,b,a,x,l,aL,cL⟩:=r
 simp only at hk
 subst hk
 exact okV_commit n t v o b.v a.v x l
theorem okV_abort (n t v o:Int) (b a:SlotV) (x:Int) (l:List LiveV):((inB n 1 1000000 && (linkB n t v && sameR ⟨n,t,v,3,0,noS,noS,0,[]⟩ ⟨n,t,v,3,o,b,a,x,l⟩))=true) ↔ okR ⟨n,t,v,3,o,b,a,x,l⟩=true:=by
 have hb:isNo b=true→slotB b=true:=isNo_slot
 have ha:isNo a=true→slotB a=true:=isNo_slot
 simp only [sameR,isNo_same,sameLs_nil,okR,zeroB,linkB,Bool.and_eq_true,beq_self_eq_true,beq_iff_eq,decide_eq_true_eq,Bool.true_or,Bool.false_or]
 generalize isNo b=ib at*
 generalize isNo a=ia at*
 generalize slotB b=sb at*
 generalize slotB a=sa at*
 by_cases hl:l=[]
 all_goals cases ib<;>cases ia<;>cases sb<;>cases sa<;>simp [inB,hl] at hb ha ⊢ <;>omega
theorem okR_abort (r:RecA) (hk:r.kind=3):((inB r.lsn 1 1000000 && (linkB r.lsn r.tx r.prev && sameR (RecA.v (recA r.lsn r.tx r.prev 3)) r.v))=true) ↔ okR r.v=true:=by
 obtain ⟨n,t,v,k,o,b,a,x,l,aL,cL⟩:=r
 simp only at hk
 subst hk
 exact okV_abort n t v o b.v a.v x l
theorem okV_back (n t v o:Int) (b a:SlotV) (x:Int) (l:List LiveV):((inB n 1 1000000 && ((linkB n t v && (inB o 1 31 && (slotB a && inB x 0 (n-1)))) && sameR ⟨n,t,v,4,o,noS,a,x,[]⟩ ⟨n,t,v,4,o,b,a,x,l⟩))=true) ↔ okR ⟨n,t,v,4,o,b,a,x,l⟩=true:=by
 have hb:isNo b=true→slotB b=true:=isNo_slot
 have ha:isNo a=true→slotB a=true:=isNo_slot
 simp only [sameR,isNo_same,sameS_refl,sameLs_nil,okR,zeroB,linkB,Bool.and_eq_true,beq_self_eq_true,beq_iff_eq,decide_eq_true_eq,Bool.true_or,Bool.false_or]
 generalize isNo b=ib at*
 generalize isNo a=ia at*
 generalize slotB b=sb at*
 generalize slotB a=sa at*
 by_cases hl:l=[]
 all_goals cases ib<;>cases ia<;>cases sb<;>cases sa<;>simp [inB,hl] at hb ha ⊢ <;>omega
theorem okR_back (r:RecA) (hk:r.kind=4):((inB r.lsn 1 1000000 && ((linkB r.lsn r.tx r.prev && (inB r.oid 1 31 && (slotB r.af.v && inB r.next 0 (r.lsn-1)))) && sameR (RecA.v (⟨r.lsn,r.tx,r.prev,4,r.oid,zeroS,r.af,r.next,[],none,0⟩)) r.v))=true) ↔ okR r.v=true:=by
 obtain ⟨n,t,v,k,o,b,a,x,l,aL,cL⟩:=r
 simp only at hk
 subst hk
 exact okV_back n t v o b.v a.v x l
theorem okV_end (n t v o:Int) (b a:SlotV) (x:Int) (l:List LiveV):((inB n 1 1000000 && (linkB n t v && sameR ⟨n,t,v,5,0,noS,noS,0,[]⟩ ⟨n,t,v,5,o,b,a,x,l⟩))=true) ↔ okR ⟨n,t,v,5,o,b,a,x,l⟩=true:=by
 have hb:isNo b=true→slotB b=true:=isNo_slot
 have ha:isNo a=true→slotB a=true:=isNo_slot
 simp only [sameR,isNo_same,sameLs_nil,okR,zeroB,linkB,Bool.and_eq_true,beq_self_eq_true,beq_iff_eq,decide_eq_true_eq,Bool.true_or,Bool.false_or]
 generalize isNo b=ib at*
 generalize isNo a=ia at*
 generalize slotB b=sb at*
 generalize slotB a=sa at*
 by_cases hl:l=[]
 all_goals cases ib<;>cases ia<;>cases sb<;>cases sa<;>simp [inB,hl] at hb ha ⊢ <;>omega
theorem okR_end (r:RecA) (hk:r.kind=5):((inB r.lsn 1 1000000 && (linkB r.lsn r.tx r.prev && sameR (RecA.v (recA r.lsn r.tx r.prev 5)) r.v))=true) ↔ okR r.v=true:=by
 obtain ⟨n,t,v,k,o,b,a,x,l,aL,cL⟩:=r
 simp only at hk
 subst hk
 exact okV_end n t v o b.v a.v x l
theorem okV_check (n t v o:Int) (b a:SlotV) (x:Int) (l:List LiveV):((inB n 1 1000000 && (livesB n l && sameR ⟨n,0,0,6,0,noS,noS,0,l⟩ ⟨n,t,v,6,o,b,a,x,l⟩))=true) ↔ okR ⟨n,t,v,6,o,b,a,x,l⟩=true:=by
 have hb:isNo b=true→slotB b=true:=isNo_slot
 have ha:isNo a=true→slotB a=true:=isNo_slot
 simp only [sameR,isNo_same,sameLs_refl,okR,zeroB,Bool.and_eq_true,beq_self_eq_true,beq_iff_eq,Bool.true_or,Bool.false_or]
 generalize isNo b=ib at*
 generalize isNo a=ia at*
 generalize slotB b=sb at*
 generalize slotB a=sa at*
 generalize livesB n l=L at*
 all_goals cases L<;>cases ib<;>cases ia<;>cases sb<;>cases sa<;>simp [inB] at hb ha ⊢ <;>omega
theorem okR_check (r:RecA) (hk:r.kind=6):((inB r.lsn 1 1000000 && (livesB r.lsn r.txs && sameR (RecA.v (⟨r.lsn,0,0,6,0,zeroS,zeroS,0,r.txs,r.aL,r.cL⟩)) r.v))=true) ↔ okR r.v=true:=by
 obtain ⟨n,t,v,k,o,b,a,x,l,aL,cL⟩:=r
 simp only at hk
 subst hk
 exact okV_check n t v o b.v a.v x l
theorem okR_eq (r:RecA):(inB r.lsn 1 1000000 && (deedB r.lsn r.v && sameR (cutA r.lsn r).v r.v))=okR r.v:=by
 rw [Bool.eq_iff_iff]
 cases k1:(r.kind == 1) with
 | true=>
  have e2:deedB r.lsn r.v=(linkB r.lsn r.tx r.prev && (inB r.oid 1 31 && (slotB r.bf.v && slotB r.af.v))):=by simp [deedB,RecA.v,k1]
  have e3:cutA r.lsn r=⟨r.lsn,r.tx,r.prev,1,r.oid,r.bf,r.af,0,[],none,0⟩:=by simp [cutA,k1]
  rw [e2,e3]
  have hk:r.kind=1:=by simpa using k1
  exact okR_set _ (by simpa using k1)
 | false=>
  cases k2:(r.kind == 2) with
  | true=>
   have e2:deedB r.lsn r.v=linkB r.lsn r.tx r.prev:=by simp [deedB,RecA.v,k1,k2]
   have e3:cutA r.lsn r=recA r.lsn r.tx r.prev 2:=by simp [cutA,k1,k2]
   rw [e2,e3]
   have hk:r.kind=2:=by simpa using k2
   exact okR_commit _ (by simpa using k2)
  | false=>
   cases k3:(r.kind == 3) with
   | true=>
    have e2:deedB r.lsn r.v=linkB r.lsn r.tx r.prev:=by simp [deedB,RecA.v,k1,k2,k3]
    have e3:cutA r.lsn r=recA r.lsn r.tx r.prev 3:=by simp [cutA,k1,k2,k3]
    rw [e2,e3]
    have hk:r.kind=3:=by simpa using k3
    exact okR_abort _ (by simpa using k3)
   | false=>
    cases k4:(r.kind == 4) with
    | true=>
     have e2:deedB r.lsn r.v=(linkB r.lsn r.tx r.prev && (inB r.oid 1 31 && (slotB r.af.v && inB r.next 0 (r.lsn-1)))):=by simp [deedB,RecA.v,k1,k2,k3,k4]
     have e3:cutA r.lsn r=⟨r.lsn,r.tx,r.prev,4,r.oid,zeroS,r.af,r.next,[],none,0⟩:=by simp [cutA,k1,k2,k3,k4]
     rw [e2,e3]
     have hk:r.kind=4:=by simpa using k4
     exact okR_back _ (by simpa using k4)
    | false=>
     cases k5:(r.kind == 5) with
     | true=>
      have e2:deedB r.lsn r.v=linkB r.lsn r.tx r.prev:=by simp [deedB,RecA.v,k1,k2,k3,k4,k5]
      have e3:cutA r.lsn r=recA r.lsn r.tx r.prev 5:=by simp [cutA,k1,k2,k3,k4,k5]
      rw [e2,e3]
      have hk:r.kind=5:=by simpa using k5
      exact okR_end _ (by simpa using k5)
     | false=>
      cases k6:(r.kind == 6) with
      | true=>
       have e2:deedB r.lsn r.v=livesB r.lsn r.txs:=by simp [deedB,RecA.v,k1,k2,k3,k4,k5,k6]
       have e3:cutA r.lsn r=⟨r.lsn,0,0,6,0,zeroS,zeroS,0,r.txs,r.aL,r.cL⟩:=by simp [cutA,k1,k2,k3,k4,k5,k6]
       rw [e2,e3]
       have hk:r.kind=6:=by simpa using k6
       exact okR_check _ (by simpa using k6)
      | false=>
       have e2:deedB r.lsn r.v=false:=by simp [deedB,RecA.v,k1,k2,k3,k4,k5,k6]
       have e3:okR r.v=false:=by simp [okR,RecA.v,k1,k2,k3,k4,k5,k6]
       rw [e2,e3]
       simp
theorem implRecOk_any (r:RecA) (w:World) (hg:ErrT w) (hr:r.reads w) (hl:r.short 1099511627776):
  Calls Tryz.prog 126 #[.agg r.cells.toArray] w fun e w'=>e=.returned (.bool (okR r.v))∧Below w.heap.size w w':=by
 obtain ⟨W,hW,b0,hbW,hsW⟩:=boxes1 w r.cells 99
 have HZ:Hid (okR r.v=_):=(okR_eq r).symm
 have HX:Hid (∀ u,Below W.heap.size W u→Box u w.heap.size r.cells 99):=fun u hu=>b0.below hu b0.lt
 have C1:=deedOf_any r W
 have HD:Hid (∀ u,Below w.heap.size w u→Calls _ _ _ _ _):=fun u hu=>deedOk_any r.lsn r u (hg.keep hu) (hr.below hu) hl
 have HM:Hid (∀ u,Below w.heap.size w u→Calls _ _ _ _ _):=fun u hu=>sameRec_any (cutA r.lsn r) r u (cutA_reads r.lsn (hr.below hu)) (hr.below hu) (cutA_short r.lsn hl) hl
 generalize okR r.v=R at*
 generalize deedB r.lsn r.v=G at*
 generalize sameR (cutA r.lsn r).v r.v=M at*
 have HN:Hid (∀ u,Calls _ _ _ _ _):=fun u=>recOf_any r.lsn r u
 generalize deedV r=D at*
 generalize cutA r.lsn r=cc at*
 simp only [RecA.cells] at*
 have HC:Hid (∀ w',Box w' w.heap.size [.int .i64 r.lsn,.int .i64 r.tx,.int .i64 r.prev,.int .i64 r.kind,.int .i64 r.oid,.bool r.bf.v.has,.int .i64 r.bf.v.o.kind,.slice r.bf.aI r.bf.v.o.ints.length r.bf.cI,.slice r.bf.aR r.bf.v.o.refs.length r.bf.cR,.bool r.af.v.has,.int .i64 r.af.v.o.kind,.slice r.af.aI r.af.v.o.ints.length r.af.cI,.slice r.af.aR r.af.v.o.refs.length r.af.cR,.int .i64 r.next,.slice r.aL r.txs.length r.cL] 99→w'.cell? ⟨w.heap.size,0,none⟩=some (.int .i64 r.lsn)∧w'.cell? ⟨w.heap.size,1,none⟩=some (.int .i64 r.tx)∧w'.cell? ⟨w.heap.size,2,none⟩=some (.int .i64 r.prev)∧w'.cell? ⟨w.heap.size,3,none⟩=some (.int .i64 r.kind)∧w'.cell? ⟨w.heap.size,4,none⟩=some (.int .i64 r.oid)∧w'.cell? ⟨w.heap.size,5,none⟩=some (.bool r.bf.v.has)∧w'.cell? ⟨w.heap.size,6,none⟩=some (.int .i64 r.bf.v.o.kind)∧w'.cell? ⟨w.heap.size,7,none⟩=some (.slice r.bf.aI r.bf.v.o.ints.length r.bf.cI)∧w'.cell? ⟨w.heap.size,8,none⟩=some (.slice r.bf.aR r.bf.v.o.refs.length r.bf.cR)∧w'.cell? ⟨w.heap.size,9,none⟩=some (.bool r.af.v.has)∧w'.cell? ⟨w.heap.size,10,none⟩=some (.int .i64 r.af.v.o.kind)∧w'.cell? ⟨w.heap.size,11,none⟩=some (.slice r.af.aI r.af.v.o.ints.length r.af.cI)∧w'.cell? ⟨w.heap.size,12,none⟩=some (.slice r.af.aR r.af.v.o.refs.length r.af.cR)∧w'.cell? ⟨w.heap.size,13,none⟩=some (.int .i64 r.next)∧w'.cell? ⟨w.heap.size,14,none⟩=some (.slice r.aL r.txs.length r.cL)):=fun w' b=>fifteen b
 obtain ⟨x0,x1,x2,x3,x4,x5,x6,x7,x8,x9,x10,x11,x12,x13,x14⟩:=HC.out W b0
 clear hsW b0 hg hr hl
 go_enter Tryz.func126,Tryz.ntmps126
 go_wp2_with fail
 rw [hW.out]
 clear hW
 refine C1.mono ?_
 clear C1 x0 x1 x2 x3 x4 x5 x6 x7 x8 x9 x10 x11 x12 x13 x14
 rintro e w1 ⟨rfl,hb1⟩
 have B1:Below w.heap.size w w1:=hbW.trans (hb1.mono hbW.size)
 have hh:=HC.out w1 (HX.out _ hb1)
 by_cases h1:1≤r.lsn
 case neg=>
  have HR:Hid (R=false):=by rw [Hid,HZ.out];simp [inB];omega
  have hd:decide (1≤r.lsn)=false:=by simp;omega
  clear HZ HD HM HN h1
  go_wp2_with fail
  obtain ⟨x0,x1,x2,x3,x4,x5,x6,x7,x8,x9,x10,x11,x12,x13,x14⟩:=hh
  go_quiet (fail)
  go_wp2
  go_ret
  exact ⟨ret_bool HR.out.symm,below_drewN B1 _⟩
 case pos=>
 by_cases h2:r.lsn≤1000000
 case neg=>
  have HR:Hid (R=false):=by rw [Hid,HZ.out];simp [inB];omega
  have hd:decide (1≤r.lsn)=true:=by simp;omega
  have hd2:decide (r.lsn≤1000000)=false:=by simp;omega
  clear HZ HD HM HN h1 h2
  go_wp2_with fail
  obtain ⟨x0,x1,x2,x3,x4,x5,x6,x7,x8,x9,x10,x11,x12,x13,x14⟩:=hh
  go_quiet (fail)
  go_wp2
  go_ret
  exact ⟨ret_bool HR.out.symm,below_drewN B1 _⟩
 case pos=>
 have h12:inB r.lsn 1 1000000=true:=by simp [inB];omega
 cases G with
 | false=>
  have HR:Hid (R=false):=by rw [Hid,HZ.out];simp
  clear HZ HM HN h12
  go_wp2_with fail
  refine wp_region_held_drew (S:=fun w'=>w'.cell? ⟨w.heap.size,0,none⟩=some (.int .i64 r.lsn)∧w'.cell? ⟨w.heap.size,1,none⟩=some (.int .i64 r.tx)∧w'.cell? ⟨w.heap.size,2,none⟩=some (.int .i64 r.prev)∧w'.cell? ⟨w.heap.size,3,none⟩=some (.int .i64 r.kind)∧w'.cell? ⟨w.heap.size,4,none⟩=some (.int .i64 r.oid)∧w'.cell? ⟨w.heap.size,5,none⟩=some (.bool r.bf.v.has)∧w'.cell? ⟨w.heap.size,6,none⟩=some (.int .i64 r.bf.v.o.kind)∧w'.cell? ⟨w.heap.size,7,none⟩=some (.slice r.bf.aI r.bf.v.o.ints.length r.bf.cI)∧w'.cell? ⟨w.heap.size,8,none⟩=some (.slice r.bf.aR r.bf.v.o.refs.length r.bf.cR)∧w'.cell? ⟨w.heap.size,9,none⟩=some (.bool r.af.v.has)∧w'.cell? ⟨w.heap.size,10,none⟩=some (.int .i64 r.af.v.o.kind)∧w'.cell? ⟨w.heap.size,11,none⟩=some (.slice r.af.aI r.af.v.o.ints.length r.af.cI)∧w'.cell? ⟨w.heap.size,12,none⟩=some (.slice r.af.aR r.af.v.o.refs.length r.af.cR)∧w'.cell? ⟨w.heap.size,13,none⟩=some (.int .i64 r.next)∧w'.cell? ⟨w.heap.size,14,none⟩=some (.slice r.aL r.txs.length r.cL)) (by kernel_rfl) (HC.out _ (HX.out _ hb1.drew)) (fun hHeld=>?_)
  refine tq 0 (v:=.pointer (some ⟨w.heap.size,0,none⟩)) rfl hHeld ?_
  try simp only [zz]
  refine tq 1 (v:=.int .i64 r.lsn) rfl hHeld ?_
  try simp only [zz]
  refine tq 2 (v:=.bool true) rfl hHeld ?_
  try simp only [zz]
  refine tq 3 (v:=.bool true) rfl hHeld ?_
  try simp only [zz]
  refine tq 4 (v:=.pointer (some ⟨w.heap.size,0,none⟩)) rfl hHeld ?_
  try simp only [zz]
  refine tq 5 (v:=.int .i64 r.lsn) rfl hHeld ?_
  try simp only [zz]
  refine tq 6 (v:=.bool true) rfl hHeld ?_
  try simp only [zz]
  refine tq 7 (v:=.bool true) rfl hHeld ?_
  try simp only [zz]
  refine tq 8 (v:=.bool true) rfl hHeld ?_
  try simp only [zz]
  refine tq 9 (v:=.pointer (some ⟨w.heap.size,0,none⟩)) rfl hHeld ?_
  try simp only [zz]
  refine tq 10 (v:=.int .i64 r.lsn) rfl hHeld ?_
  try simp only [zz]
  refine tq 11 (v:=D) rfl hHeld ?_
  try simp only [zz]
  refine wpAnyH_ready (rs:=[12]) (by kernel_rfl) (by simp) ?_
  refine AllReadyH.cons rfl (fun K hK=>?_) AllReadyH.nil
  go_simp
  refine (HD.out _ B1.drew).mono ?_
  rintro e u2 ⟨rfl,hbu2⟩
  have hBu2:Below W.heap.size W u2:=(hb1.drew).trans (hbu2.mono (hb1.drew).size)
  refine hK.out _ _ (HC.out _ (HX.out _ hBu2)) (fun hHeld=>?_)
  clear hK K
  try simp only [zz]
  refine tq 13 (v:=.bool false) rfl hHeld ?_
  try simp only [zz]
  refine tq 14 (v:=.bool false) rfl hHeld ?_
  try simp only [zz]
  refine tk 15 (v:=undef) rfl (Or.inr ⟨by rfl,rfl⟩) hHeld ?_
  try simp only [zz]
  refine tk 16 (v:=undef) rfl (Or.inr ⟨by rfl,rfl⟩) hHeld ?_
  try simp only [zz]
  refine tk 17 (v:=undef) rfl (Or.inr ⟨by rfl,rfl⟩) hHeld ?_
  try simp only [zz]
  refine tk 18 (v:=undef) rfl (Or.inr ⟨by rfl,rfl⟩) hHeld ?_
  try simp only [zz]
  refine tk 19 (v:=undef) rfl (Or.inr ⟨by rfl,rfl⟩) hHeld ?_
  try simp only [zz]
  refine tk 20 (v:=undef) rfl (Or.inr ⟨by rfl,rfl⟩) hHeld ?_
  try simp only [zz]
  refine tq 21 (v:=.bool false) rfl hHeld ?_
  try simp only [zz]
  refine tq 22 (v:=.bool false) rfl hHeld ?_
  try simp only [zz]
  refine wpAnyH_done (by kernel_rfl) ?_ _
  go_wp2
  go_ret
  exact ⟨ret_bool HR.out.symm,hbW.trans (hBu2.mono hbW.size)⟩
 | true=>
  have HR:Hid (R=M):=by rw [Hid,HZ.out,h12];simp
  clear HZ h12
  go_wp2_with fail
  refine wp_region_held_drew (S:=fun w'=>w'.cell? ⟨w.heap.size,0,none⟩=some (.int .i64 r.lsn)∧w'.cell? ⟨w.heap.size,1,none⟩=some (.int .i64 r.tx)∧w'.cell? ⟨w.heap.size,2,none⟩=some (.int .i64 r.prev)∧w'.cell? ⟨w.heap.size,3,none⟩=some (.int .i64 r.kind)∧w'.cell? ⟨w.heap.size,4,none⟩=some (.int .i64 r.oid)∧w'.cell? ⟨w.heap.size,5,none⟩=some (.bool r.bf.v.has)∧w'.cell? ⟨w.heap.size,6,none⟩=some (.int .i64 r.bf.v.o.kind)∧w'.cell? ⟨w.heap.size,7,none⟩=some (.slice r.bf.aI r.bf.v.o.ints.length r.bf.cI)∧w'.cell? ⟨w.heap.size,8,none⟩=some (.slice r.bf.aR r.bf.v.o.refs.length r.bf.cR)∧w'.cell? ⟨w.heap.size,9,none⟩=some (.bool r.af.v.has)∧w'.cell? ⟨w.heap.size,10,none⟩=some (.int .i64 r.af.v.o.kind)∧w'.cell? ⟨w.heap.size,11,none⟩=some (.slice r.af.aI r.af.v.o.ints.length r.af.cI)∧w'.cell? ⟨w.heap.size,12,none⟩=some (.slice r.af.aR r.af.v.o.refs.length r.af.cR)∧w'.cell? ⟨w.heap.size,13,none⟩=some (.int .i64 r.next)∧w'.cell? ⟨w.heap.size,14,none⟩=some (.slice r.aL r.txs.length r.cL)) (by kernel_rfl) (HC.out _ (HX.out _ hb1.drew)) (fun hHeld=>?_)
  refine tq 0 (v:=.pointer (some ⟨w.heap.size,0,none⟩)) rfl hHeld ?_
  try simp only [zz]
  refine tq 1 (v:=.int .i64 r.lsn) rfl hHeld ?_
  try simp only [zz]
  refine tq 2 (v:=.bool true) rfl hHeld ?_
  try simp only [zz]
  refine tq 3 (v:=.bool true) rfl hHeld ?_
  try simp only [zz]
  refine tq 4 (v:=.pointer (some ⟨w.heap.size,0,none⟩)) rfl hHeld ?_
  try simp only [zz]
  refine tq 5 (v:=.int .i64 r.lsn) rfl hHeld ?_
  try simp only [zz]
  refine tq 6 (v:=.bool true) rfl hHeld ?_
  try simp only [zz]
  refine tq 7 (v:=.bool true) rfl hHeld ?_
  try simp only [zz]
  refine tq 8 (v:=.bool true) rfl hHeld ?_
  try simp only [zz]
  refine tq 9 (v:=.pointer (some ⟨w.heap.size,0,none⟩)) rfl hHeld ?_
  try simp only [zz]
  refine tq 10 (v:=.int .i64 r.lsn) rfl hHeld ?_
  try simp only [zz]
  refine tq 11 (v:=D) rfl hHeld ?_
  try simp only [zz]
  refine wpAnyH_ready (rs:=[12]) (by kernel_rfl) (by simp) ?_
  refine AllReadyH.cons rfl (fun K hK=>?_) AllReadyH.nil
  go_simp
  refine (HD.out _ B1.drew).mono ?_
  rintro e u2 ⟨rfl,hbu2⟩
  have hBu2:Below W.heap.size W u2:=(hb1.drew).trans (hbu2.mono (hb1.drew).size)
  refine hK.out _ _ (HC.out _ (HX.out _ hBu2)) (fun hHeld=>?_)
  clear hK K
  try simp only [zz]
  refine tq 13 (v:=.bool true) rfl hHeld ?_
  try simp only [zz]
  refine tq 14 (v:=.bool true) rfl hHeld ?_
  try simp only [zz]
  refine tq 15 (v:=.pointer (some ⟨w.heap.size,0,none⟩)) rfl hHeld ?_
  try simp only [zz]
  refine tq 16 (v:=.int .i64 r.lsn) rfl hHeld ?_
  try simp only [zz]
  refine tq 17 (v:=D) rfl hHeld ?_
  try simp only [zz]
  refine tq 19 (v:=.agg #[.int .i64 r.lsn,.int .i64 r.tx,.int .i64 r.prev,.int .i64 r.kind,.int .i64 r.oid,.bool r.bf.v.has,.int .i64 r.bf.v.o.kind,.slice r.bf.aI r.bf.v.o.ints.length r.bf.cI,.slice r.bf.aR r.bf.v.o.refs.length r.bf.cR,.bool r.af.v.has,.int .i64 r.af.v.o.kind,.slice r.af.aI r.af.v.o.ints.length r.af.cI,.slice r.af.aR r.af.v.o.refs.length r.af.cR,.int .i64 r.next,.slice r.aL r.txs.length r.cL]) rfl hHeld ?_
  try simp only [zz]
  refine wpAnyH_ready (rs:=[18]) (by kernel_rfl) (by simp) ?_
  refine AllReadyH.cons rfl (fun K hK=>?_) AllReadyH.nil
  go_simp
  refine (HN.out _).mono ?_
  rintro e u3 ⟨rfl,hbu3⟩
  have hBu3:Below W.heap.size W u3:=(hBu2).trans (hbu3.mono (hBu2).size)
  refine hK.out _ _ (HC.out _ (HX.out _ hBu3)) (fun hHeld=>?_)
  clear hK K
  try simp only [zz]
  refine wpAnyH_ready (rs:=[20]) (by kernel_rfl) (by simp) ?_
  refine AllReadyH.cons rfl (fun K hK=>?_) AllReadyH.nil
  go_simp
  refine (HM.out _ (hbW.trans (hBu3.mono hbW.size))).mono ?_
  rintro e u4 ⟨rfl,hbu4⟩
  have hBu4:Below W.heap.size W u4:=(hBu3).trans (hbu4.mono (hBu3).size)
  refine hK.out _ _ (HC.out _ (HX.out _ hBu4)) (fun hHeld=>?_)
  clear hK K
  try simp only [zz]
  refine tq 21 (v:=.bool M) rfl hHeld ?_
  try simp only [zz]
  refine tq 22 (v:=.bool M) rfl hHeld ?_
  try simp only [zz]
  refine wpAnyH_done (by kernel_rfl) ?_ _
  go_wp2
  go_ret
  exact ⟨ret_bool HR.out.symm,hbW.trans (hBu4.mono hbW.size)⟩
theorem lsnAt_any (p:Int) (w:World) (h:0≤p∧p≤1099511627776):
  Calls Tryz.prog 125 #[.int .i64 p] w fun e w'=>e=.returned (.int .i64 (p+1))∧w'=w:=by
 go_enter Tryz.func125,Tryz.ntmps125
 go_wp2
 go_ret
 exact ⟨rfl,rfl⟩
theorem implLogOk_any (l:LogA) (w:World) (hg:ErrT w) (hr:l.reads w) (hl:l.short 1099511627776):
  Calls Tryz.prog 90 #[.agg l.cells.toArray] w fun e w'=>e=.returned (.bool (okLog l.v))∧Below w.heap.size w w':=by
 have HLEN:Hid (¬ l.recs.length≤4000→okLog l.v=false):=fun h=>okLog_len (by rw [l.v_len];exact h)
 have HSURE:Hid (¬ (0≤l.sure∧l.sure≤l.recs.length)→okLog l.v=false):=fun h=>okLog_sure (by rw [l.v_len];unfold inB;exact decide_eq_false h)
 have HNO:Hid (∀ k,k<l.recs.length→(((l.recs.getD k zeroR).lsn == (k+1:Int)) && okR (l.recs.getD k zeroR).v)=false→okLog l.v=false):=fun k hk h=>okLog_no k (by rw [l.v_len];exact hk) (by rw [okAt_v];exact h)
 have HALL:Hid (l.recs.length≤4000→0≤l.sure∧l.sure≤l.recs.length→(∀ k,k<l.recs.length→(((l.recs.getD k zeroR).lsn == (k+1:Int)) && okR (l.recs.getD k zeroR).v)=true)→okLog l.v=true):=fun h0 h1 h=>okLog_all (by rw [l.v_len];exact h0) (by rw [l.v_len];unfold inB;exact decide_eq_true h1) (fun k hk=>by rw [okAt_v];exact h k (by rw [l.v_len] at hk;exact hk))
 generalize okLog l.v=R at*
 have HS:Hid (∀ k,k<l.recs.length→(l.recs.getD k zeroR).short 1099511627776):=fun k hk=>hl.at k hk
 have hlen:=hl.len
 obtain ⟨rs,s,a,c⟩:=l
 simp only [LogA.reads,LogA.cells] at*
 obtain ⟨W,hW,b0,hbW,hsW⟩:=boxes1 w [.slice a rs.length c,.int .i64 s] 54
 have c0:=b0.cell 0 _ rfl
 have c1:=b0.cell 1 _ rfl
 clear hl hsW
 have HC:Hid (∀ k,k<rs.length→∃ b off,a=some ⟨b,off,none⟩∧W.rangeAt b (off+k*15) (rs.getD k zeroR).cells∧(rs.getD k zeroR).reads W):=fun k hk=>by
  obtain ⟨b,off,ha,hc⟩:=(ReadsRs.below hr hbW) (by intro e;rw [e] at hk;simp at hk)
  exact ⟨b,off,ha,hc k hk⟩
 have HI:Hid ((Tryz.prog.info? 99).map (·.size)=some 15):=by rw [Hid];kernel_rfl
 have HG:Hid (∀ u,Below W.heap.size W u→ErrT u):=fun u hu=>hg.keep (hbW.trans (hu.mono hbW.size))
 clear hr hg
 by_cases h4:rs.length≤4000
 case neg=>
  have HR:Hid (R=false):=HLEN.out h4
  clear HLEN HSURE HNO HALL
  go_enter Tryz.func90,Tryz.ntmps90
  go_wp2_with fail
  rw [hW.out]
  go_ret
  exact ⟨ret_bool HR.out.symm,hbW⟩
 case pos=>
  by_cases h5:0≤s
  case neg=>
   have HR:Hid (R=false):=HSURE.out (fun h=>h5 h.1)
   clear HLEN HSURE HNO HALL
   go_enter Tryz.func90,Tryz.ntmps90
   go_wp2_with fail
   rw [hW.out]
   go_ret
   exact ⟨ret_bool HR.out.symm,hbW⟩
  by_cases h6:s≤rs.length
  case neg=>
   have HR:Hid (R=false):=HSURE.out (fun h=>h6 h.2)
   clear HLEN HSURE HNO HALL
   go_enter Tryz.func90,Tryz.ntmps90
   go_wp2_with fail
   rw [hW.out]
   go_ret
   exact ⟨ret_bool HR.out.symm,hbW⟩
  have HRES:Hid ((∀ k,k<rs.length→(((rs.getD k zeroR).lsn == (k+1:Int)) && okR (rs.getD k zeroR).v)=true)→R=true):=HALL.out h4 ⟨h5,h6⟩
  clear HALL HLEN HSURE
  go_enter Tryz.func90,Tryz.ntmps90
  go_wp2_with fail
  rw [hW.out]
  clear hW
  go_loopw [25] (fun i wr=>∃ k:Nat,k≤rs.length∧i=.int .i64 k∧Hid (∀ j,j<k→(((rs.getD j zeroR).lsn == (j+1:Int)) && okR (rs.getD j zeroR).v)=true)∧Below W.heap.size W wr) (fun i _=>rs.length-(intOf i).toNat)
  case atStart=>exact ⟨0,Nat.zero_le _,rfl,fun j hj=>by omega,Below.refl _ _⟩
  case round=>
   obtain ⟨k,hk,rfl,hall,hbl⟩:=hrel
   have hbm:Below w.heap.size w wr:=hbW.trans (hbl.mono hbW.size)
   clear c0 c1
   by_cases hlt:k<rs.length
   ·obtain ⟨b,off,rfl,hcell,hrd⟩:=HC.out k hlt
    have HR:Hid (wr.rangeAt b (off+k*15) (rs.getD k zeroR).cells):=range_below hcell hbl
    have hrd':=hrd.below hbl
    have hsh:=HS.out k hlt
    have HN:Hid ((((rs.getD k zeroR).lsn == (k+1:Int)) && okR (rs.getD k zeroR).v)=false→R=false):=HNO.out k hlt
    have HY:Hid ((((rs.getD k zeroR).lsn == (k+1:Int)) && okR (rs.getD k zeroR).v)=true→∀ j,j<k+1→(((rs.getD j zeroR).lsn == (j+1:Int)) && okR (rs.getD j zeroR).v)=true):=fun h j hj=>by
     by_cases e:j=k
     ·rw [e];exact h
     ·exact hall.out j (by omega)
    clear hcell HC HNO hall HS hrd HRES
    generalize rs.getD k zeroR=y at*
    obtain ⟨W1,hW1,b1,hb1,hs1⟩:=boxes1 wr [.int .i64 0,.int .i64 0,.int .i64 0,.int .i64 0,.int .i64 0,.bool false,.int .i64 0,.slice none 0 0,.slice none 0 0,.bool false,.int .i64 0,.slice none 0 0,.slice none 0 0,.int .i64 0,.slice none 0 0] 99
    obtain ⟨W2,hW2,hw2,hs2,HT2,_,b2⟩:=rec_out y _ rfl b1
    have B2:Below wr.heap.size wr W2:=hb1.trans (hw2.below (Nat.le_refl _) (by omega))
    have HRG:Hid (∀ u,Below W2.heap.size W2 u→u.rangeAt wr.heap.size 0 y.cells):=fun u hu=>Box.range [] y.cells [] (by simpa using b2.below hu b2.lt)
    have C2:Below W.heap.size W W2:=hbl.trans (B2.mono hbl.size)
    have hrd2:=hrd'.below B2
    have hO:=rec_one y
    have D2:Below w.heap.size w W2:=hbm.trans (B2.mono hbm.size)
    clear b1 b2 hw2 hs2 hs1 hb1 B2 hrd' hbl hbm
    go_wp2_with (first | (guard_target=wpList _ _ _ (Oper.mk (some 29) _ _ _ _ _::_) _ _;refine wpList_load_mid rfl 99 (.tmp 28) rfl b (off+k*15) rfl y.cells _ HR.out Tryz.underlying99 rfl HI.out ?_) | (guard_target=wpList _ _ _ (Oper.mk none (Op.store _ (Operand.tmp 4) _) _ _ _ _::_) _ _;refine wpList_store_mid rfl 99 (.tmp 4) (.tmp 29) rfl wr.heap.size 0 y.cells.toArray rfl rfl (by rw [hW1.out];exact HT2.out) HI.out hO ?_) | fail)
    rw [hW1.out,hW2.out]
    clear hW1 hW2 HT2 HR
    refine wp_region_held_drew (S:=fun w'=>w'.rangeAt wr.heap.size 0 y.cells) (by kernel_rfl) ?_ (fun hHeld=>?_)
    ·exact HRG.out _ (Below.refl _ _).drew
    refine tq 0 (v:=.pointer (some ⟨wr.heap.size,0,none⟩)) rfl hHeld ?_
    try simp only [zz]
    refine tk 1 (v:=.int .i64 y.lsn) rfl (Or.inl ⟨by rfl,?_⟩) hHeld ?_
    ·intro w' hSw
     have hx:w'.cell? ⟨wr.heap.size,0,none⟩=some (.int .i64 y.lsn):=hSw 0 _ rfl
     go_simp<;>rfl
    try simp only [zz]
    refine tq 2 (v:=.int .i64 k) rfl hHeld ?_
    try simp only [zz]
    refine wpAnyH_ready (rs:=[3]) (by kernel_rfl) (by simp) ?_
    refine AllReadyH.cons rfl (fun K hK=>?_) AllReadyH.nil
    go_simp
    refine (lsnAt_any k _ (by omega)).mono ?_
    rintro e w3 ⟨rfl,rfl⟩
    refine hK.out _ _ (HRG.out _ (Below.refl _ _).drew) (fun hHeld=>?_)
    clear hK K
    try simp only [zz]
    refine tq 4 (v:=.bool (y.lsn != (k:Int)+1)) rfl hHeld ?_
    try simp only [zz]
    cases h6:(y.lsn == (k+1:Int)) with
    | false=>
     have HR2:Hid (R=false):=HN.out (by rw [h6];rfl)
     have h6b:(y.lsn != (k:Int)+1)=true:=by simp only [bne,h6,Bool.not_false]
     rw [h6b]
     clear h6 HN HY h6b
     refine tq 5 (v:=.bool true) rfl hHeld ?_
     try simp only [zz]
     refine tk 6 (v:=undef) rfl (Or.inr ⟨by rfl,rfl⟩) hHeld ?_
     try simp only [zz]
     refine tk 7 (v:=undef) rfl (Or.inr ⟨by rfl,rfl⟩) hHeld ?_
     try simp only [zz]
     refine tk 8 (v:=undef) rfl (Or.inr ⟨by rfl,rfl⟩) hHeld ?_
     try simp only [zz]
     refine tq 9 (v:=.bool true) rfl hHeld ?_
     try simp only [zz]
     refine wpAnyH_done (by kernel_rfl) ?_ _
     go_wp2_with fail
     go_ret
     exact ⟨ret_bool HR2.out.symm,D2.drew⟩
    | true=>
     rw [h6,Bool.true_and] at HN HY
     have h6b:(y.lsn != (k:Int)+1)=false:=by simp only [bne,h6,Bool.not_true]
     rw [h6b]
     clear h6 h6b
     refine tq 5 (v:=.bool false) rfl hHeld ?_
     try simp only [zz]
     refine tk 6 rfl (yieldsIf_load_mid (by rfl) _ _ rfl _ _ rfl y.cells _ (fun _ h=>h) Tryz.underlying99 rfl HI.out) hHeld ?_
     try simp only [zz]
     refine wpAnyH_ready (rs:=[7]) (by kernel_rfl) (by simp) ?_
     refine AllReadyH.cons rfl (fun K hK=>?_) AllReadyH.nil
     go_simp
     refine (implRecOk_any y _ (HG.out _ C2.drew) (hrd2.below (Below.refl _ _).drew) hsh).mono ?_
     rintro e w4 ⟨rfl,hb4⟩
     have hb4':Below W2.heap.size W2 w4:=(Below.refl _ _).drew.trans hb4
     have D4:Below w.heap.size w w4:=D2.trans (hb4'.mono D2.size)
     have C4:Below W.heap.size W w4:=C2.trans (hb4'.mono C2.size)
     refine hK.out _ _ (HRG.out _ hb4') (fun hHeld=>?_)
     clear hK K
     try simp only [zz]
     cases h7:okR y.v with
     | false=>
      have HR2:Hid (R=false):=HN.out h7
      clear HN HY
      refine tq 8 (v:=.bool true) rfl hHeld ?_
      try simp only [zz]
      refine tq 9 (v:=.bool true) rfl hHeld ?_
      try simp only [zz]
      refine wpAnyH_done (by kernel_rfl) ?_ _
      go_wp2_with fail
      go_ret
      exact ⟨ret_bool HR2.out.symm,D4⟩
     | true=>
      have HY2:=HY.out h7
      clear HN HY
      refine tq 8 (v:=.bool false) rfl hHeld ?_
      try simp only [zz]
      refine tq 9 (v:=.bool false) rfl hHeld ?_
      try simp only [zz]
      refine wpAnyH_done (by kernel_rfl) ?_ _
      go_wp2_with fail
      go_roundw
      case rel=>exact ⟨k+1,by omega,by go_num,HY2,C4⟩
      case measure=>simp [intOf];omega
   ·have HR:Hid (R=true):=HRES.out (fun j hj=>hall.out j (by omega))
    clear HNO HRES
    go_wp2
    go_ret
    exact ⟨ret_bool HR.out.symm,hbm⟩
end Go.Proofs.YtfehemepdoomdaaGreatDoor
namespace Go.Proofs.YtfehemepdoomdaaGreatDoor
open Go.RowKit
theorem load_if {ops:Array Oper} {rest:List Oper} {op:Oper} {a:Act} {w:World} {Q:Exit→Act→World→Prop} {P:Program} (hw:Region.wanted op (yielded ops a.tmps)=true) (ty:TypeId) (x:Operand) (ho:op.op=.load ty x)
  (b o:Nat) (hx:a.eval x=.pointer (some ⟨b,o,none⟩)) (cs:List Value) (d:TypeDesc) (hc:w.rangeAt b o cs)
  (hu:P.underlying ty=some d) (hd:d.isRow=true) (hi:(P.info? ty).map (·.size)=some cs.length)
  (h:wpList P ops Q rest (a.put op.dst (.agg cs.toArray)) w):wpList P ops Q (op::rest) a w:=
 wpList_step fun _ hK=>by
  simp only [hw,if_true]
  exact wp_load_mid ty x ho b o hx cs d hc hu hd hi (hK _ _ h)
theorem specLogOk_any (l:LogA) (w:World) (hr:l.reads w) (hl:l.short 1099511627776):
  Calls Tryz.prog 112 #[.agg l.cells.toArray] w fun e w'=>e=.returned (.bool (okLog l.v))∧Below w.heap.size w w':=by
 have HLEN:Hid (¬ l.recs.length≤4000→okLog l.v=false):=fun h=>okLog_len (by rw [l.v_len];exact h)
 have HSURE:Hid (inB l.sure 0 l.recs.length=false→okLog l.v=false):=fun h=>okLog_sure (by rw [l.v_len];exact h)
 have HNO:Hid (∀ k,k<l.recs.length→(((l.recs.getD k zeroR).lsn == (k+1:Int)) && okR (l.recs.getD k zeroR).v)=false→okLog l.v=false):=fun k hk h=>okLog_no k (by rw [l.v_len];exact hk) (by rw [okAt_v];exact h)
 have HALL:Hid (l.recs.length≤4000→inB l.sure 0 l.recs.length=true→(∀ k,k<l.recs.length→(((l.recs.getD k zeroR).lsn == (k+1:Int)) && okR (l.recs.getD k zeroR).v)=true)→okLog l.v=true):=fun h0 h1 h=>okLog_all (by rw [l.v_len];exact h0) (by rw [l.v_len];exact h1) (fun k hk=>by rw [okAt_v];exact h k (by rw [l.v_len] at hk;exact hk))
 generalize okLog l.v=R at*
 have HS:Hid (∀ k,k<l.recs.length→(l.recs.getD k zeroR).short 1099511627776):=fun k hk=>hl.at k hk
 have hlen:=hl.len
 obtain ⟨rs,s,a,c⟩:=l
 simp only [LogA.reads,LogA.cells] at*
 obtain ⟨W,hW,b0,hbW,hsW⟩:=boxes1 w [.slice a rs.length c,.int .i64 s] 54
 have c0:=b0.cell 0 _ rfl
 have c1:=b0.cell 1 _ rfl
 clear hl hsW
 have HC:Hid (∀ k,k<rs.length→∃ b off,a=some ⟨b,off,none⟩∧W.rangeAt b (off+k*15) (rs.getD k zeroR).cells∧(rs.getD k zeroR).reads W):=fun k hk=>by
  obtain ⟨b,off,ha,hc⟩:=(ReadsRs.below hr hbW) (by intro e;rw [e] at hk;simp at hk)
  exact ⟨b,off,ha,hc k hk⟩
 have HI:Hid ((Tryz.prog.info? 99).map (·.size)=some 15):=by rw [Hid];kernel_rfl
 clear hr
 by_cases h4:rs.length≤4000
 case neg=>
  have HR:Hid (R=false):=HLEN.out h4
  clear HLEN HSURE HNO HALL
  go_enter Tryz.func112,Tryz.ntmps112
  go_wp2_with fail
  rw [hW.out]
  go_ret
  exact ⟨ret_bool HR.out.symm,hbW⟩
 case pos=>
  cases h5:inB s 0 rs.length with
  | false=>
   have HR:Hid (R=false):=HSURE.out h5
   clear HLEN HSURE HNO HALL
   go_enter Tryz.func112,Tryz.ntmps112
   go_wp2_with fail
   rw [hW.out]
   refine (l1In_any _ _ _ W).mono ?_
   rintro e u ⟨rfl,hu⟩
   rw [hu]
   clear hu u
   go_wp2
   go_ret
   exact ⟨ret_bool HR.out.symm,hbW⟩
  | true=>
   go_enter Tryz.func112,Tryz.ntmps112
   go_wp2_with fail
   rw [hW.out]
   refine (l1In_any _ _ _ W).mono ?_
   rintro e u ⟨rfl,hu⟩
   rw [hu]
   clear hu u hW
   go_wp2_with fail
   go_loopw [3] (fun i wr=>∃ k:Nat,k≤rs.length∧i=.int .i64 k∧Hid (∀ j,j<k→(((rs.getD j zeroR).lsn == (j+1:Int)) && okR (rs.getD j zeroR).v)=true)∧Below W.heap.size W wr) (fun i _=>rs.length-(intOf i).toNat)
   case atStart=>exact ⟨0,Nat.zero_le _,rfl,fun j hj=>by omega,Below.refl _ _⟩
   case round=>
    obtain ⟨k,hk,rfl,hall,hbl⟩:=hrel
    have hbm:Below w.heap.size w wr:=hbW.trans (hbl.mono hbW.size)
    have r0:=(hbl.cell (block_lt c0)).trans c0
    clear c0 c1
    by_cases hlt:k<rs.length
    ·obtain ⟨b,off,rfl,hcell,hrd⟩:=HC.out k hlt
     have HR:Hid (wr.rangeAt b (off+k*15) (rs.getD k zeroR).cells):=range_below hcell hbl
     have x0:wr.cell? ⟨b,off+k*15,none⟩=some (.int .i64 (rs.getD k zeroR).lsn):=HR.out 0 _ rfl
     have C:=specRecOk_any (rs.getD k zeroR) wr (hrd.below hbl) (HS.out k hlt)
     have HN:Hid ((((rs.getD k zeroR).lsn == (k+1:Int)) && okR (rs.getD k zeroR).v)=false→R=false):=HNO.out k hlt
     have HY:Hid ((((rs.getD k zeroR).lsn == (k+1:Int)) && okR (rs.getD k zeroR).v)=true→∀ j,j<k+1→(((rs.getD j zeroR).lsn == (j+1:Int)) && okR (rs.getD j zeroR).v)=true):=fun h j hj=>by
      by_cases e:j=k
      ·rw [e];exact h
      ·exact hall.out j (by omega)
     clear hcell HC HLEN HSURE HNO HALL hall HS hrd
     generalize rs.getD k zeroR=y at*
     cases h6:(y.lsn == (k+1:Int)) with
     | false=>
      have HR2:Hid (R=false):=HN.out (by rw [h6];rfl)
      have h6b:(y.lsn != (k:Int)+1)=true:=by simp only [bne,h6,Bool.not_false]
      clear h6
      clear HN HY C
      go_wp2_with fail
      go_ret
      exact ⟨ret_bool HR2.out.symm,hbm⟩
     | true=>
      rw [h6,Bool.true_and] at HN HY
      have h6b:(y.lsn != (k:Int)+1)=false:=by simp only [bne,h6,Bool.not_true]
      clear h6
      cases h7:okR y.v with
      | false=>
       have HR2:Hid (R=false):=HN.out h7
       clear HN HY
       rw [h7] at C
       go_wp2_with (first | (guard_target=wpList _ _ _ (Oper.mk (some 38) _ _ _ _ _::_) _ _;refine load_if (by rfl) 99 (.tmp 37) rfl b (off+k*15) rfl y.cells _ HR.out Tryz.underlying99 rfl HI.out ?_) | fail)
       refine C.mono ?_
       rintro e w1 ⟨rfl,hb1⟩
       go_wp2_with fail
       go_ret
       exact ⟨ret_bool HR2.out.symm,hbm.trans (hb1.mono hbm.size)⟩
      | true=>
       have HY2:=HY.out h7
       clear HN HY
       rw [h7] at C
       go_wp2_with (first | (guard_target=wpList _ _ _ (Oper.mk (some 38) _ _ _ _ _::_) _ _;refine load_if (by rfl) 99 (.tmp 37) rfl b (off+k*15) rfl y.cells _ HR.out Tryz.underlying99 rfl HI.out ?_) | fail)
       refine C.mono ?_
       rintro e w1 ⟨rfl,hb1⟩
       clear C
       have hb2:Below W.heap.size W w1:=hbl.trans (hb1.mono hbl.size)
       go_wp2_with fail
       go_roundw
       case rel=>exact ⟨k+1,by omega,by go_num,HY2,hb2⟩
       case measure=>simp [intOf];omega
    ·have HR:Hid (R=true):=HALL.out h4 h5 (fun j hj=>hall.out j (by omega))
     clear HLEN HSURE HNO HALL
     go_wp2
     go_ret
     exact ⟨ret_bool HR.out.symm,hbm⟩
end Go.Proofs.YtfehemepdoomdaaGreatDoor