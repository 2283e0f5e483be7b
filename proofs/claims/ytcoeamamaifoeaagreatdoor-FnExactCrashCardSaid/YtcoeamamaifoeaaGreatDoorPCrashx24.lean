/- Several texts in one, in their order. -/
import Derived.Test.YtcoeamamaifoeaaGreatDoorPCrashx23
import Derived.Test.YtcoeamamaifoeaaGreatDoorPCrashx20
import Derived.Test.YtcoeamamaifoeaaGreatDoorPCrashx16
import Derived.Test.YtcoeamamaifoeaaGreatDoorPCrashx12
import Derived.Test.YtcoeamamaifoeaaGreatDoorPCrashx15
import Derived.Deep.RegionLaw
import Derived.Deep.DrawnRows
import Derived.Test.YtcoeamamaifoeaaGreatDoorPCrashx13
import Derived.Test.YtcoeamamaifoeaaGreatDoorPCrashx5
import Derived.Test.YtcoeamamaifoeaaGreatDoorPCrashx19
import Derived.Test.YtcoeamamaifoeaaGreatDoorPCrashx7
import Derived.Test.YtcoeamamaifoeaaGreatDoorPCrashx18
import Derived.Test.YtcoeamamaifoeaaGreatDoorPCrashx1
set_option maxHeartbeats 8000000
set_option maxRecDepth 100000
namespace Go.Proofs.YtcoeamamaifoeaaGreatDoor
open Go.RowKit
attribute [local go_sem ↓] Go.wp_at_zero Go.wp_at_succ
theorem l6Copy_any (l:PoolA) (w:World) (hr:l.reads w) (hl:l.short 1048576):
  Calls Tryz.prog 47 #[.agg l.cells.toArray] w fun e w'=>∃ t:PoolA,e=.returned (.agg t.cells.toArray)∧Hid (t.v=l.v)∧t.own w' w.heap.size w'.heap.size∧Below w.heap.size w w':=by
 obtain ⟨rs,s,a,c⟩:=l
 have hl2:=(PoolA.short_wide hl).each
 have hl0:=hl.len
 simp only [PoolA.reads,PoolA.cells,PoolA.own] at*
 obtain ⟨W,hW,b0,b1,b2,hbW,hsW⟩:=boxes3 w [.slice a rs.length c,.int .i64 s] [.slice none 0 0,.int .i64 0] [.slice none 0 0,.int .i64 s] 51 51 51
 have hs0:w.heap.size+1+1<W.heap.size:=by omega
 clear hsW
 have x0:=b0.cell 0 _ rfl
 have x1:=b0.cell 1 _ rfl
 have HC:Hid (∀ k,k<rs.length→∃ b off,a=some ⟨b,off,none⟩∧w.rangeAt b (off+k*20) (rs.getD k zeroSt).cells∧(rs.getD k zeroSt).reads w∧(rs.getD k zeroSt).short 1099511627776):=fun k hk=>by
  obtain ⟨b,off,ha,hc⟩:=hr (by intro e;rw [e] at hk;simp at hk)
  exact ⟨b,off,ha,(hc k hk).1,(hc k hk).2,hl2 _ (seatD_mem rs k hk)⟩
 have HI:Hid ((Tryz.prog.info? 103).map (·.size)=some 20):=by rw [Hid];kernel_rfl
 clear hr hl hl2
 go_enter Tryz.func47,Tryz.ntmps47
 go_wp2_with fail
 rw [hW.out]
 clear hW x0 x1
 go_loopw [4] (fun i wr=>∃ (k:Nat) (ts:List SeatA) (a':Option Addr) (c':Nat),k≤rs.length∧i=.int .i64 k∧Hid (CameSt rs ts k)∧Box wr (w.heap.size+1+1) [.slice a' ts.length c',.int .i64 s] 51∧Box wr w.heap.size [.slice a rs.length c,.int .i64 s] 51∧Box wr (w.heap.size+1) [.slice none 0 0,.int .i64 0] 51∧OwnSts wr W.heap.size wr.heap.size a' c' ts∧Below w.heap.size w wr∧W.heap.size≤wr.heap.size)
  (fun i _=>rs.length-(intOf i).toNat)
 case atStart=>exact ⟨0,[],none,0,Nat.zero_le _,rfl,cameSt_none rs,b2,b0,b1,ownSts_nil _ _ _ (Nat.le_refl _),hbW,Nat.le_refl _⟩
 case round=>
  obtain ⟨k,ts,a',c',hk,rfl,hc,k2,k0,k1,hown,hnx,hsz⟩:=hrel
  clear b0 b1 b2 hbW
  have x0:=k0.cell 0 _ rfl
  by_cases hlt:k<rs.length
  ·obtain ⟨b,off,rfl,hcell,hrd,hsh⟩:=HC.out k hlt
   have hbB:=rangeSt_lt hcell
   have hnw:=hnx.size
   have HR:Hid (∀ u,Below w.heap.size w u→u.rangeAt b (off+k*20) (rs.getD k zeroSt).cells):=fun u hu=>rangeAt_below hcell hu hbB
   have HS:Hid (∀ q:SeatA,q.v=(rs.getD k zeroSt).v→CameSt rs (ts++[q]) (k+1)):=fun q hq=>hc.out.snoc hlt hq
   have HL:Hid (ts.length=k):=hc.out.1
   clear hcell HC
   generalize rs.getD k zeroSt=z at*
   have e0:=k2.cell 0 _ rfl
   have HSS:Hid (∀ u,Below w.heap.size w u→Box u w.heap.size [.slice (some ⟨b,off,none⟩) rs.length c,.int .i64 s] 51→u.rangeAt b (off+k*20) z.cells∧u.cell? ⟨w.heap.size,0,none⟩=some (.slice (some ⟨b,off,none⟩) rs.length c)):=fun u h1 h2=>⟨HR.out u h1,h2.cell 0 _ rfl⟩
   go_wp2_with fail
   refine wp_region_held_drew (S:=fun w'=>w'.rangeAt b (off+k*20) z.cells∧w'.cell? ⟨w.heap.size,0,none⟩=some (.slice (some ⟨b,off,none⟩) rs.length c)) (by kernel_rfl) ?_ (fun hHeld=>?_)
   ·exact HSS.out _ hnx.drew (k0.drewN 1)
   refine tq 0 (v:=.pointer (some ⟨w.heap.size+1+1,0,none⟩)) rfl hHeld ?_
   try simp only [zz]
   refine tq 2 (v:=.pointer (some ⟨w.heap.size,0,none⟩)) rfl hHeld ?_
   try simp only [zz]
   refine tk 3 (v:=.slice (some ⟨b,off,none⟩) rs.length c) rfl (Or.inl ⟨by rfl,?_⟩) hHeld ?_
   ·intro w' hSw
    have hx:=hSw.2
    go_simp<;>rfl
   try simp only [zz]
   refine tq 4 (v:=.int .i64 k) rfl hHeld ?_
   try simp only [zz]
   refine tq 5 (v:=.pointer (some ⟨b,off+k*20,none⟩)) rfl hHeld ?_
   try simp only [zz]
   refine tk 6 rfl (yieldsIf_load_mid (by rfl) _ _ rfl _ _ rfl z.cells _ (fun _ h=>h.1) Tryz.underlying103 rfl HI.out) hHeld ?_
   try simp only [zz]
   have hnd:Below wr.heap.size wr wr.drew:=(Below.refl _ _).drew
   have C:=l6CopySeat_own z wr.drew (hrd.below hnx.drew) hsh
   refine wpAnyH_ready (rs:=[1,7]) (by kernel_rfl) (by simp) ?_
   refine AllReadyH.cons rfl (fun K hK=>?_) (AllReadyH.cons rfl (fun K hK=>?_) AllReadyH.nil)
   ·go_simp
    refine hK.out _ _ (hHeld) (fun hHeld=>?_)
    clear hK K
    try simp only [zz]
    refine wpAnyH_ready (rs:=[7]) (by kernel_rfl) (by simp) ?_
    refine AllReadyH.cons rfl (fun K hK=>?_) AllReadyH.nil
    go_simp
    refine C.mono ?_
    clear C
    rintro e u2 ⟨q,rfl,hq,hqo,hb2⟩
    have hb2':Below wr.heap.size wr u2:=hnd.trans hb2
    have hn2:Below w.heap.size w u2:=hnx.trans (hb2'.mono hnw)
    have k22:=k2.below hb2' k2.lt
    have k02:=k0.below hb2' k0.lt
    have k12:=k1.below hb2' k1.lt
    have o2:=hown.below hb2'
    have hqo2:q.own u2 wr.heap.size u2.heap.size:=hqo
    have hs2:=hb2'.size
    refine hK.out _ _ (HSS.out _ hn2 k02) (fun hHeld=>?_)
    clear hK K
    try simp only [zz]
    refine wpAnyH_ready (rs:=[8]) (by kernel_rfl) (by simp) ?_
    refine AllReadyH.cons rfl (fun K hK=>?_) AllReadyH.nil
    go_simp
    simp only [cellsSt_len,lit_seat,not_true_eq_false,Nat.lt_irrefl,or_self,if_false]
    go_simp
    obtain ⟨W3,hW3,b3,hb3,hs3⟩:=boxes1 u2 q.cells 103
    rw [hW3.out]
    have hn3:Below w.heap.size w W3:=hn2.trans (hb3.mono hn2.size)
    have k23:=k22.below hb3 k22.lt
    have k03:=k02.below hb3 k02.lt
    have k13:=k12.below hb3 k12.lt
    have o3:=o2.below hb3
    have hqo3:=hqo2.below hb3
    have r3:W3.rangeAt u2.heap.size 0 q.cells:=Box.range [] q.cells [] (by simpa using b3)
    have hs3':=b3.lt
    clear hs3 hb3 hW3 b3 k02 k12 o2 hqo2
    refine hK.out _ _ (HSS.out _ hn3 k03) (fun hHeld=>?_)
    clear hK K
    try simp only [zz]
    have hll:ts.length+1≤68719476736:=by have:=HL.out;omega
    refine wpAnyH_ready (rs:=[9]) (by kernel_rfl) (by simp) ?_
    refine AllReadyH.cons rfl (fun K hK=>?_) AllReadyH.nil
    refine step_append_seat rfl (.tmp 16) (.tmp 23) rfl W.heap.size wr.heap.size a' c' ts rfl o3 u2.heap.size 0 1 q rfl r3 wr.heap.size u2.heap.size hqo3 (Nat.le_refl _) (by omega) hll hsz ?_
    intro a9 c9 w9 o9 g9 _
    have HCM:=HS.out q hq.out
    obtain ⟨ys,hys⟩:∃ ys,Hid (ts++[q]=ys):=⟨_,rfl⟩
    rw [hys.out] at o9 HCM ⊢
    have hw9:Within W.heap.size wr.heap.size W3 w9:=Within.of_grown g9 (fun j hj=>⟨(o3.row.lt j hj).1,o3.blk j hj⟩)
    have hs9:=hw9.size
    have hn9:Below w.heap.size w w9:=hn3.trans (hw9.below (by omega) (by omega))
    have k29:=k23.within hw9 (by omega)
    have k09:=k03.within hw9 (by omega)
    have k19:=k13.within hw9 (by omega)
    refine hK.out _ _ (HSS.out _ hn9 k09) (fun hHeld=>?_)
    clear hK K hw9 g9 o3 r3 hqo3 k23 k03 k13
    try simp only [zz]
    refine tq 10 (v:=.pointer (some ⟨w.heap.size+1+1,0,none⟩)) rfl hHeld ?_
    try simp only [zz]
    have m0:=k29.cell 0 _ rfl
    have mf0:=k29.frozen 0
    obtain ⟨WF,hWF,kF,hwF,hsF⟩:=box_set k29 0 (.slice a9 ys.length c9)
    simp only [List.set] at kF
    have hsFa:=Nat.le_of_eq hsF
    have hsFb:=Nat.le_of_eq hsF.symm
    clear hsF
    have k0F:=k09.within hwF (by omega)
    have k1F:=k19.within hwF (by omega)
    have oF:=(o9.within hwF (.inr (by omega))).widen (Nat.le_refl _) hsFb (Nat.le_refl _)
    have hnF:Below w.heap.size w WF:=hn9.trans (hwF.below (by omega) (by omega))
    clear hwF k29 k09 k19 o9
    refine wpAnyH_ready (rs:=[11]) (by kernel_rfl) (by simp) ?_
    refine AllReadyH.cons rfl (fun K hK=>?_) AllReadyH.nil
    go_simp
    rw [hWF.out]
    refine hK.out _ _ (HSS.out _ hnF k0F) (fun hHeld=>?_)
    clear hK K
    try simp only [zz]
    refine wpAnyH_done (by kernel_rfl) ?_ _
    clear m0 mf0 hWF
    go_wp2_with fail
    go_roundw
    case rel=>exact ⟨k+1,ys,a9,c9,by omega,by go_num,HCM,kF,k0F,k1F,oF,hnF,by omega⟩
    case measure=>simp [intOf];omega
   ·go_simp
    refine C.mono ?_
    clear C
    rintro e u2 ⟨q,rfl,hq,hqo,hb2⟩
    have hb2':Below wr.heap.size wr u2:=hnd.trans hb2
    have hn2:Below w.heap.size w u2:=hnx.trans (hb2'.mono hnw)
    have k22:=k2.below hb2' k2.lt
    have k02:=k0.below hb2' k0.lt
    have k12:=k1.below hb2' k1.lt
    have o2:=hown.below hb2'
    have hqo2:q.own u2 wr.heap.size u2.heap.size:=hqo
    have hs2:=hb2'.size
    refine hK.out _ _ (HSS.out _ hn2 k02) (fun hHeld=>?_)
    clear hK K
    try simp only [zz]
    refine wpAnyH_ready (rs:=[1,8]) (by kernel_rfl) (by simp) ?_
    refine AllReadyH.cons rfl (fun K hK=>?_) (AllReadyH.cons rfl (fun K hK=>?_) AllReadyH.nil)
    ·have d0:=k22.cell 0 _ rfl
     go_simp
     refine hK.out _ _ (hHeld) (fun hHeld=>?_)
     clear hK K
     try simp only [zz]
     refine wpAnyH_ready (rs:=[8]) (by kernel_rfl) (by simp) ?_
     refine AllReadyH.cons rfl (fun K hK=>?_) AllReadyH.nil
     go_simp
     simp only [cellsSt_len,lit_seat,not_true_eq_false,Nat.lt_irrefl,or_self,if_false]
     go_simp
     obtain ⟨W3,hW3,b3,hb3,hs3⟩:=boxes1 u2 q.cells 103
     rw [hW3.out]
     have hn3:Below w.heap.size w W3:=hn2.trans (hb3.mono hn2.size)
     have k23:=k22.below hb3 k22.lt
     have k03:=k02.below hb3 k02.lt
     have k13:=k12.below hb3 k12.lt
     have o3:=o2.below hb3
     have hqo3:=hqo2.below hb3
     have r3:W3.rangeAt u2.heap.size 0 q.cells:=Box.range [] q.cells [] (by simpa using b3)
     have hs3':=b3.lt
     clear hs3 hb3 hW3 b3 k02 k12 o2 hqo2
     refine hK.out _ _ (HSS.out _ hn3 k03) (fun hHeld=>?_)
     clear hK K
     try simp only [zz]
     have hll:ts.length+1≤68719476736:=by have:=HL.out;omega
     refine wpAnyH_ready (rs:=[9]) (by kernel_rfl) (by simp) ?_
     refine AllReadyH.cons rfl (fun K hK=>?_) AllReadyH.nil
     refine step_append_seat rfl (.tmp 16) (.tmp 23) rfl W.heap.size wr.heap.size a' c' ts rfl o3 u2.heap.size 0 1 q rfl r3 wr.heap.size u2.heap.size hqo3 (Nat.le_refl _) (by omega) hll hsz ?_
     intro a9 c9 w9 o9 g9 _
     have HCM:=HS.out q hq.out
     obtain ⟨ys,hys⟩:∃ ys,Hid (ts++[q]=ys):=⟨_,rfl⟩
     rw [hys.out] at o9 HCM ⊢
     have hw9:Within W.heap.size wr.heap.size W3 w9:=Within.of_grown g9 (fun j hj=>⟨(o3.row.lt j hj).1,o3.blk j hj⟩)
     have hs9:=hw9.size
     have hn9:Below w.heap.size w w9:=hn3.trans (hw9.below (by omega) (by omega))
     have k29:=k23.within hw9 (by omega)
     have k09:=k03.within hw9 (by omega)
     have k19:=k13.within hw9 (by omega)
     refine hK.out _ _ (HSS.out _ hn9 k09) (fun hHeld=>?_)
     clear hK K hw9 g9 o3 r3 hqo3 k23 k03 k13
     try simp only [zz]
     refine tq 10 (v:=.pointer (some ⟨w.heap.size+1+1,0,none⟩)) rfl hHeld ?_
     try simp only [zz]
     have m0:=k29.cell 0 _ rfl
     have mf0:=k29.frozen 0
     obtain ⟨WF,hWF,kF,hwF,hsF⟩:=box_set k29 0 (.slice a9 ys.length c9)
     simp only [List.set] at kF
     have hsFa:=Nat.le_of_eq hsF
     have hsFb:=Nat.le_of_eq hsF.symm
     clear hsF
     have k0F:=k09.within hwF (by omega)
     have k1F:=k19.within hwF (by omega)
     have oF:=(o9.within hwF (.inr (by omega))).widen (Nat.le_refl _) hsFb (Nat.le_refl _)
     have hnF:Below w.heap.size w WF:=hn9.trans (hwF.below (by omega) (by omega))
     clear hwF k29 k09 k19 o9
     refine wpAnyH_ready (rs:=[11]) (by kernel_rfl) (by simp) ?_
     refine AllReadyH.cons rfl (fun K hK=>?_) AllReadyH.nil
     go_simp
     rw [hWF.out]
     refine hK.out _ _ (HSS.out _ hnF k0F) (fun hHeld=>?_)
     clear hK K
     try simp only [zz]
     refine wpAnyH_done (by kernel_rfl) ?_ _
     clear m0 mf0 hWF
     go_wp2_with fail
     go_roundw
     case rel=>exact ⟨k+1,ys,a9,c9,by omega,by go_num,HCM,kF,k0F,k1F,oF,hnF,by omega⟩
     case measure=>simp [intOf];omega
    ·go_simp
     simp only [cellsSt_len,lit_seat,not_true_eq_false,Nat.lt_irrefl,or_self,if_false]
     go_simp
     obtain ⟨W3,hW3,b3,hb3,hs3⟩:=boxes1 u2 q.cells 103
     rw [hW3.out]
     have hn3:Below w.heap.size w W3:=hn2.trans (hb3.mono hn2.size)
     have k23:=k22.below hb3 k22.lt
     have k03:=k02.below hb3 k02.lt
     have k13:=k12.below hb3 k12.lt
     have o3:=o2.below hb3
     have hqo3:=hqo2.below hb3
     have r3:W3.rangeAt u2.heap.size 0 q.cells:=Box.range [] q.cells [] (by simpa using b3)
     have hs3':=b3.lt
     clear hs3 hb3 hW3 b3 k02 k12 o2 hqo2
     refine hK.out _ _ (HSS.out _ hn3 k03) (fun hHeld=>?_)
     clear hK K
     try simp only [zz]
     have d0:=k23.cell 0 _ rfl
     refine wpAnyH_ready (rs:=[1]) (by kernel_rfl) (by simp) ?_
     refine AllReadyH.cons rfl (fun K hK=>?_) AllReadyH.nil
     go_simp
     refine hK.out _ _ (hHeld) (fun hHeld=>?_)
     clear hK K
     try simp only [zz]
     have hll:ts.length+1≤68719476736:=by have:=HL.out;omega
     refine wpAnyH_ready (rs:=[9]) (by kernel_rfl) (by simp) ?_
     refine AllReadyH.cons rfl (fun K hK=>?_) AllReadyH.nil
     refine step_append_seat rfl (.tmp 16) (.tmp 23) rfl W.heap.size wr.heap.size a' c' ts rfl o3 u2.heap.size 0 1 q rfl r3 wr.heap.size u2.heap.size hqo3 (Nat.le_refl _) (by omega) hll hsz ?_
     intro a9 c9 w9 o9 g9 _
     have HCM:=HS.out q hq.out
     obtain ⟨ys,hys⟩:∃ ys,Hid (ts++[q]=ys):=⟨_,rfl⟩
     rw [hys.out] at o9 HCM ⊢
     have hw9:Within W.heap.size wr.heap.size W3 w9:=Within.of_grown g9 (fun j hj=>⟨(o3.row.lt j hj).1,o3.blk j hj⟩)
     have hs9:=hw9.size
     have hn9:Below w.heap.size w w9:=hn3.trans (hw9.below (by omega) (by omega))
     have k29:=k23.within hw9 (by omega)
     have k09:=k03.within hw9 (by omega)
     have k19:=k13.within hw9 (by omega)
     refine hK.out _ _ (HSS.out _ hn9 k09) (fun hHeld=>?_)
     clear hK K hw9 g9 o3 r3 hqo3 k23 k03 k13
     try simp only [zz]
     refine tq 10 (v:=.pointer (some ⟨w.heap.size+1+1,0,none⟩)) rfl hHeld ?_
     try simp only [zz]
     have m0:=k29.cell 0 _ rfl
     have mf0:=k29.frozen 0
     obtain ⟨WF,hWF,kF,hwF,hsF⟩:=box_set k29 0 (.slice a9 ys.length c9)
     simp only [List.set] at kF
     have hsFa:=Nat.le_of_eq hsF
     have hsFb:=Nat.le_of_eq hsF.symm
     clear hsF
     have k0F:=k09.within hwF (by omega)
     have k1F:=k19.within hwF (by omega)
     have oF:=(o9.within hwF (.inr (by omega))).widen (Nat.le_refl _) hsFb (Nat.le_refl _)
     have hnF:Below w.heap.size w WF:=hn9.trans (hwF.below (by omega) (by omega))
     clear hwF k29 k09 k19 o9
     refine wpAnyH_ready (rs:=[11]) (by kernel_rfl) (by simp) ?_
     refine AllReadyH.cons rfl (fun K hK=>?_) AllReadyH.nil
     go_simp
     rw [hWF.out]
     refine hK.out _ _ (HSS.out _ hnF k0F) (fun hHeld=>?_)
     clear hK K
     try simp only [zz]
     refine wpAnyH_done (by kernel_rfl) ?_ _
     clear m0 mf0 hWF
     go_wp2_with fail
     go_roundw
     case rel=>exact ⟨k+1,ys,a9,c9,by omega,by go_num,HCM,kF,k0F,k1F,oF,hnF,by omega⟩
     case measure=>simp [intOf];omega
  ·have HE:Hid (ts.map SeatA.v=rs.map SeatA.v):=by
    have e:k=rs.length:=by omega
    rw [e] at hc
    exact hc.out.all
   have e0:=k2.cell 0 _ rfl
   have e1:=k2.cell 1 _ rfl
   have m0:=k1.cell 0 _ rfl
   have m1:=k1.cell 1 _ rfl
   have mf0:=k1.frozen 0
   have mf1:=k1.frozen 1
   obtain ⟨WF,hWF,bF,hwF,hsF⟩:=box2_fill k1 (.slice a' ts.length c') (.int .i64 s)
   have q0:=bF.cell 0 _ rfl
   have q1:=bF.cell 1 _ rfl
   have hoF:=(hown.within hwF (.inr (by omega))).widen (show w.heap.size≤W.heap.size by omega) (show wr.heap.size≤WF.heap.size by omega) (Nat.le_refl _)
   have hbF:Below w.heap.size w WF:=hnx.trans (hwF.below (by omega) (by have:=hnx.size;omega))
   clear hwF hsF bF
   go_wp2
   rw [hWF.out]
   exact bodyPost_ret (v:=.agg #[.slice a' ts.length c',.int .i64 s]) (by simp [results,Tryz.results47,go_sem,q0,q1]) rfl ⟨⟨ts,s,a',c'⟩,rfl,by simp only [Hid,PoolA.v];rw [HE.out],hoF,hbF⟩
end Go.Proofs.YtcoeamamaifoeaaGreatDoor
namespace Go.Proofs.YtcoeamamaifoeaaGreatDoor
open Go.RowKit
attribute [local go_sem ↓] Go.wp_at_zero Go.wp_at_succ
theorem EngA.cells_set {e:EngA} (h:e.shape) (j:Nat) (v:Value):e.cells.set (136+j) v=cellsPs e.disk++e.tail.set j v:=by
 rw [EngA.cells,List.set_append_right _ _ (by rw [EngA.disk_len h];omega),EngA.disk_len h,show 136+j-136=j by omega]
theorem OwnS.splice {w:World} {lo hi l u:Nat} {A X B Y:List SlotA} (h:OwnS w lo hi (A++(X++B))) (hy:OwnS w l u Y) (hl:hi≤l) (hlo:lo≤hi) (htop:max hi u≤w.heap.size):OwnS w lo (max hi u) (A++(Y++B)):=by
 have hap:=h.apart
 have hb:=h.blocks_lt
 have hyb:=hy.blocks_lt
 refine ⟨fun x hx=>?_,?_⟩
 ·simp only [List.mem_append] at hx
  rcases hx with hx | hx | hx
  ·exact (h.each x (by simp [hx])).widen (Nat.le_refl _) (by omega) htop
  ·exact (hy.each x hx).widen (by omega) (by omega) htop
  ·exact (h.each x (by simp [hx])).widen (Nat.le_refl _) (by omega) htop
 ·simp only [List.flatMap_append] at hap hb ⊢
  refine nodup_part (n:=hi) hap hy.apart (fun k hk=>.inr (by have:=(hyb k hk).1;omega)) (fun k hk=>(hb k (by simp only [List.mem_append];exact .inl hk)).2) (fun k hk=>(hb k (by simp only [List.mem_append];exact .inr (.inr hk))).2)
end Go.Proofs.YtcoeamamaifoeaaGreatDoor
namespace Go.Proofs.YtcoeamamaifoeaaGreatDoor
open Go.RowKit
attribute [local go_sem ↓] Go.wp_at_zero Go.wp_at_succ
theorem EngA.cells_pool {e:EngA} (h:e.shape) (ss:List SeatA) (a:Option Addr) (c:Nat) (hand:Int):(e.cells.set 136 (.slice a ss.length c)).set 137 (.int .i64 hand)=(e.withPool ss a c hand).cells:=by
 have h1:e.cells.set 136 (.slice a ss.length c)=cellsPs e.disk++e.tail.set 0 (.slice a ss.length c):=EngA.cells_set h 0 _
 rw [h1,List.set_append_right _ _ (by rw [EngA.disk_len h];omega),EngA.disk_len h]
 rfl
theorem Brought.step {w w':World} {E:Nat} {e:EngA} {ts:List SeatA} {a':Option Addr} {c' hand':Nat} {old:SeatA} (h:EngAt w E e) (b:Brought 0 E 136 e.cells TE e.aS e.cS e.seats w w' ts a' c' hand' old):EngStep E e w (e.withPool ts a' c' hand') w':=by
 refine h.pool ts a' c' hand' ?_ b.pool.own b.touch b.fresh
 have:=b.pool.box
 rw [EngA.cells_pool h.shape] at this
 exact this
theorem EngStepG.put {E X:Nat} {e e':EngA} {w w' w'':World} (s:EngStep E e w e' w') (hw:Within X (X+1) w' w'') (ho:Off E e' X) (hX:w.heap.size≤X):EngStep E e w e' w'':=
 ⟨s.at'.within hw (fun h=>ho.1 (by omega)) (fun k hk h=>ho.2 (by have:k=X:=(by omega);rw [← this];exact hk)),
  ⟨hw.os.trans s.touch.os,hw.tape.trans s.touch.tape,hw.output.trans s.touch.output,Nat.le_trans s.size hw.size,fun k hk hn=>(hw.block k (Nat.lt_of_lt_of_le hk s.size) (by omega)).trans (s.touch.block k hk hn)⟩,s.fresh⟩
end Go.Proofs.YtcoeamamaifoeaaGreatDoor
namespace Go.Proofs.YtcoeamamaifoeaaGreatDoor
open Go.RowKit
end Go.Proofs.YtcoeamamaifoeaaGreatDoor
namespace Go.Proofs.YtcoeamamaifoeaaGreatDoor
open Go.RowKit
attribute [local go_sem ↓] Go.wp_at_zero Go.wp_at_succ
structure EngMore (E:Nat) (e:EngA) (Q:List Nat) (w:World) (e':EngA) (w':World):Prop where
 at':EngAt w' E e'
 touch:Touch (E::(e.blocks++Q)) w w'
 fresh:∀ k∈e'.blocks,k∈e.blocks∨k∈Q∨w.heap.size≤k
theorem EngMore.below {E:Nat} {Q:List Nat} {e e':EngA} {w w' w'':World} (s:EngMore E e Q w e' w') (hb:Below w'.heap.size w' w''):EngMore E e Q w e' w'':=
 ⟨s.at'.below hb,s.touch.trans (Touch.of_below hb),s.fresh⟩
theorem EngMore.then {E:Nat} {Q:List Nat} {e e1 e2:EngA} {w w1 w2:World} (m:EngMore E e Q w e1 w1) (s:EngStep E e1 w1 e2 w2):EngMore E e Q w e2 w2:=by
 refine ⟨s.at',⟨s.touch.os.trans m.touch.os,s.touch.tape.trans m.touch.tape,s.touch.output.trans m.touch.output,Nat.le_trans m.touch.size s.size,fun k hk hn=>?_⟩,fun k hk=>?_⟩
 ·have hn1:k∉E::e1.blocks:=fun h=>by
   rcases List.mem_cons.1 h with h | h
   ·exact hn (by simp [h])
   ·rcases m.fresh k h with h | h | h
    ·exact hn (List.mem_cons_of_mem _ (List.mem_append.2 (.inl h)))
    ·exact hn (List.mem_cons_of_mem _ (List.mem_append.2 (.inr h)))
    ·omega
  exact (s.touch.block k (Nat.lt_of_lt_of_le hk m.touch.size) hn1).trans (m.touch.block k hk hn)
 ·rcases s.fresh k hk with h | h
  ·exact m.fresh k h
  ·exact .inr (.inr (Nat.le_trans m.touch.size h))
theorem EngMore.step {E:Nat} {Q:List Nat} {e0 e e':EngA} {w0 w w':World} (s:EngStep E e0 w0 e w) (m:EngMore E e Q w e' w') (hQ:∀ k∈Q,w0.heap.size≤k):EngStep E e0 w0 e' w':=by
 refine ⟨m.at',⟨m.touch.os.trans s.touch.os,m.touch.tape.trans s.touch.tape,m.touch.output.trans s.touch.output,Nat.le_trans s.size m.touch.size,fun k hk hn=>?_⟩,fun k hk=>?_⟩
 ·have hn1:k∉E::(e.blocks++Q):=fun h=>by
   rcases List.mem_cons.1 h with h | h
   ·exact hn (by simp [h])
   ·rcases List.mem_append.1 h with h | h
    ·rcases s.fresh k h with h | h
     ·exact hn (List.mem_cons_of_mem _ h)
     ·omega
    ·have:=hQ k h;omega
  exact (m.touch.block k (Nat.lt_of_lt_of_le hk s.size) hn1).trans (s.touch.block k hk hn)
 ·rcases m.fresh k hk with h | h | h
  ·exact s.fresh k h
  ·exact .inr (hQ k h)
  ·exact .inr (Nat.le_trans s.size h)
theorem EngMore.off {E B:Nat} {Q:List Nat} {e e':EngA} {w w':World} (m:EngMore E e Q w e' w') (hB:B<w.heap.size) (ho:Off E e B) (hQ:B∉Q):Off E e' B:=
 ⟨ho.1,fun hk=>(m.fresh B hk).elim ho.2 (fun h=>h.elim hQ (fun h=>by omega))⟩
theorem EngMore.boxes {E B:Nat} {Q:List Nat} {e e':EngA} {w w':World} {vs:List Value} {t:TypeId} (m:EngMore E e Q w e' w') (b:Box w B vs t) (ho:Off E e B) (hQ:B∉Q):Box w' B vs t:=
 b.block (m.touch.block B b.lt (fun h=>(List.mem_cons.1 h).elim ho.1 (fun h=>(List.mem_append.1 h).elim ho.2 hQ)))
end Go.Proofs.YtcoeamamaifoeaaGreatDoor
namespace Go.Proofs.YtcoeamamaifoeaaGreatDoor
open Go.RowKit
attribute [local go_sem ↓] Go.wp_at_zero Go.wp_at_succ
end Go.Proofs.YtcoeamamaifoeaaGreatDoor
namespace Go.Proofs.YtcoeamamaifoeaaGreatDoor
open Go.RowKit
attribute [local go_sem ↓] Go.wp_at_zero Go.wp_at_succ
end Go.Proofs.YtcoeamamaifoeaaGreatDoor
namespace Go.Proofs.YtcoeamamaifoeaaGreatDoor
open Go.RowKit
theorem ownL_lit0 (w:World):OwnL (w.alloc (.cells #[] 109)) w.heap.size (w.heap.size+1) (some ⟨w.heap.size,0,none⟩) 0 []:=
 ⟨World.ownsRow_lit w #[] 0 (Nat.le_refl _) (by simp [maxLen]) rfl,by simp,fun k hk=>by cases hk;simp⟩
theorem ownH_lit0 (w:World):OwnH (w.alloc (.cells #[] 113)) w.heap.size (w.heap.size+1) (some ⟨w.heap.size,0,none⟩) 0 []:=
 ⟨World.ownsRow_lit w #[] 0 (Nat.le_refl _) (by simp [maxLen]) rfl,by simp,fun k hk=>by cases hk;simp⟩
end Go.Proofs.YtcoeamamaifoeaaGreatDoor
namespace Go.Proofs.YtcoeamamaifoeaaGreatDoor
open Go.RowKit
def Out (k a b:Nat):Prop:=k<a∨b≤k
theorem Out.zero (k:Nat):Out k 0 0:=.inr (Nat.zero_le _)
structure CopI (e:EngA) (lo:Nat) (w:World) (c2 c5 c6 c9 c10 c13:Bool) (X2 X5 X6 X9 X10 X13:Value) (q:PoolA) (l:LogA) (p0 p1 l0 l1 A6 A10:Nat) (aT:Option Addr) (cT:Nat) (aH:Option Addr) (cH:Nat):Prop where
 val:(c5=true→c2=true)∧(c9=true→c5=true∧c6=true)∧(c13=true→c9=true∧c10=true)
 low:lo≤w.heap.size
 top:p1≤w.heap.size∧l1≤w.heap.size
 no:(c2=false→p0=0∧p1=0)∧(c5=false→l0=0∧l1=0)
 pool:c2=true→X2=.agg q.cells.toArray∧Hid (q.v=e.poolA.v)∧q.own w p0 p1∧lo≤p0∧p0≤p1
 log:c5=true→X5=.agg l.cells.toArray∧Hid (l.v=e.log.v)∧l.own w l0 l1∧p1≤l0∧lo≤l0∧l0≤l1
 six:c6=true→X6=.slice (some ⟨A6,0,none⟩) 0 0∧(c9=false→OwnL w A6 (A6+1) (some ⟨A6,0,none⟩) 0 [])∧lo≤A6∧A6<w.heap.size∧Out A6 p0 p1∧Out A6 l0 l1
 ten:c10=true→X10=.slice (some ⟨A10,0,none⟩) 0 0∧(c13=false→OwnH w A10 (A10+1) (some ⟨A10,0,none⟩) 0 [])∧lo≤A10∧A10<w.heap.size∧Out A10 p0 p1∧Out A10 l0 l1
 both:c6=true→c10=true→A6≠A10
 txs:c9=true→X9=.slice aT e.txs.length cT∧OwnL w lo w.heap.size aT cT e.txs∧∀ k,(Value.slice aT e.txs.length cT).ownBlock=some k→Out k p0 p1∧Out k l0 l1∧(c10=true→k≠A10)
 holds:c13=true→X13=.slice aH e.holds.length cH∧OwnH w lo w.heap.size aH cH e.holds∧∀ k,(Value.slice aH e.holds.length cH).ownBlock=some k→Out k p0 p1∧Out k l0 l1∧∀ j,(Value.slice aT e.txs.length cT).ownBlock=some j→j≠k
theorem CopI.start (e:EngA) (lo:Nat) (w:World) (X2 X5 X6 X9 X10 X13:Value) (h:lo≤w.heap.size):CopI e lo w false false false false false false X2 X5 X6 X9 X10 X13 e.poolA e.log 0 0 0 0 0 0 none 0 none 0:=
 ⟨⟨nofun,nofun,nofun⟩,h,⟨Nat.zero_le _,Nat.zero_le _⟩,⟨fun _=>⟨rfl,rfl⟩,fun _=>⟨rfl,rfl⟩⟩,nofun,nofun,nofun,nofun,nofun,nofun,nofun⟩
section
variable {e:EngA} {lo:Nat} {w w':World} {c2 c5 c6 c9 c10 c13:Bool} {X2 X5 X6 X9 X10 X13:Value} {q:PoolA} {l:LogA} {p0 p1 l0 l1 A6 A10:Nat} {aT:Option Addr} {cT:Nat} {aH:Option Addr} {cH:Nat}
theorem CopI.below (h:CopI e lo w c2 c5 c6 c9 c10 c13 X2 X5 X6 X9 X10 X13 q l p0 p1 l0 l1 A6 A10 aT cT aH cH) (hb:Below w.heap.size w w'):CopI e lo w' c2 c5 c6 c9 c10 c13 X2 X5 X6 X9 X10 X13 q l p0 p1 l0 l1 A6 A10 aT cT aH cH:=by
 have hs:=hb.size
 refine ⟨h.val,by have:=h.low;omega,by have:=h.top;omega,h.no,fun c=>?_,fun c=>?_,fun c=>?_,fun c=>?_,h.both,fun c=>?_,fun c=>?_⟩
 ·obtain ⟨a,b,d,f⟩:=h.pool c;exact ⟨a,b,OwnSts.below d hb,f⟩
 ·obtain ⟨a,b,d,f⟩:=h.log c;exact ⟨a,b,OwnRs.below d hb,f⟩
 ·obtain ⟨a,b,d,f,g⟩:=h.six c;exact ⟨a,fun x=>(b x).below hb,d,by omega,g⟩
 ·obtain ⟨a,b,d,f,g⟩:=h.ten c;exact ⟨a,fun x=>(b x).below hb,d,by omega,g⟩
 ·obtain ⟨a,b,d⟩:=h.txs c;exact ⟨a,(b.below hb).widen (Nat.le_refl _) hs (Nat.le_refl _),d⟩
 ·obtain ⟨a,b,d⟩:=h.holds c;exact ⟨a,(b.below hb).widen (Nat.le_refl _) hs (Nat.le_refl _),d⟩
theorem CopI.step2 {X:Value} {q':PoolA} (h:CopI e lo w false c5 c6 c9 c10 c13 X2 X5 X6 X9 X10 X13 q l p0 p1 l0 l1 A6 A10 aT cT aH cH) (hX:X=.agg q'.cells.toArray) (hv:Hid (q'.v=e.poolA.v)) (ho:q'.own w' w.heap.size w'.heap.size) (hb:Below w.heap.size w w'):
  CopI e lo w' true c5 c6 c9 c10 c13 X X5 X6 X9 X10 X13 q' l w.heap.size w'.heap.size l0 l1 A6 A10 aT cT aH cH:=by
 have hs:=hb.size
 have h5:c5=false:=by cases hc:c5 with | false=>rfl | true=>exact absurd (h.val.1 hc) (by simp)
 have h9:c9=false:=by cases hc:c9 with | false=>rfl | true=>have:=(h.val.2.1 hc).1;rw [h5] at this;cases this
 have h13:c13=false:=by cases hc:c13 with | false=>rfl | true=>have:=(h.val.2.2 hc).1;rw [h9] at this;cases this
 subst h5 h9 h13
 have g:=h.below hb
 refine ⟨⟨nofun,nofun,nofun⟩,g.low,⟨Nat.le_refl _,g.top.2⟩,⟨nofun,g.no.2⟩,fun _=>⟨hX,hv,ho,h.low,hs⟩,nofun,fun c=>?_,fun c=>?_,g.both,nofun,nofun⟩
 ·obtain ⟨a,b,d,f,_,k⟩:=g.six c;have:=(h.six c).2.2.2.1;exact ⟨a,b,d,f,.inl (by omega),k⟩
 ·obtain ⟨a,b,d,f,_,k⟩:=g.ten c;have:=(h.ten c).2.2.2.1;exact ⟨a,b,d,f,.inl (by omega),k⟩
theorem CopI.step5 {X:Value} {l':LogA} (h:CopI e lo w c2 false c6 c9 c10 c13 X2 X5 X6 X9 X10 X13 q l p0 p1 l0 l1 A6 A10 aT cT aH cH) (hc2:c2=true) (hX:X=.agg l'.cells.toArray) (hv:Hid (l'.v=e.log.v)) (ho:l'.own w' w.heap.size w'.heap.size) (hb:Below w.heap.size w w'):
  CopI e lo w' c2 true c6 c9 c10 c13 X2 X X6 X9 X10 X13 q l' p0 p1 w.heap.size w'.heap.size A6 A10 aT cT aH cH:=by
 have hs:=hb.size
 have h9:c9=false:=by cases hc:c9 with | false=>rfl | true=>have:=(h.val.2.1 hc).1;cases this
 have h13:c13=false:=by cases hc:c13 with | false=>rfl | true=>have:=(h.val.2.2 hc).1;rw [h9] at this;cases this
 subst h9 h13
 have g:=h.below hb
 refine ⟨⟨fun _=>hc2,nofun,nofun⟩,g.low,⟨g.top.1,Nat.le_refl _⟩,⟨g.no.1,nofun⟩,g.pool,fun _=>⟨hX,hv,ho,h.top.1,h.low,hs⟩,fun c=>?_,fun c=>?_,g.both,nofun,nofun⟩
 ·obtain ⟨a,b,d,f,k,_⟩:=g.six c;have:=(h.six c).2.2.2.1;exact ⟨a,b,d,f,k,.inl (by omega)⟩
 ·obtain ⟨a,b,d,f,k,_⟩:=g.ten c;have:=(h.ten c).2.2.2.1;exact ⟨a,b,d,f,k,.inl (by omega)⟩
theorem CopI.step6 {X:Value} (h:CopI e lo w c2 c5 false c9 c10 c13 X2 X5 X6 X9 X10 X13 q l p0 p1 l0 l1 A6 A10 aT cT aH cH) (hX:X=.slice (some ⟨w.heap.size,0,none⟩) 0 0) (hw:w.alloc (.cells #[] 109)=w'):
  CopI e lo w' c2 c5 true c9 c10 c13 X2 X5 X X9 X10 X13 q l p0 p1 l0 l1 w.heap.size A10 aT cT aH cH:=by
 subst hw
 have hb:Below w.heap.size w (w.alloc (.cells #[] 109)):=(Below.refl _ _).alloc (Nat.le_refl _) _
 have h9:c9=false:=by cases hc:c9 with | false=>rfl | true=>have:=(h.val.2.1 hc).2;cases this
 have h13:c13=false:=by cases hc:c13 with | false=>rfl | true=>have:=(h.val.2.2 hc).1;rw [h9] at this;cases this
 subst h9 h13
 have g:=h.below hb
 refine ⟨⟨h.val.1,nofun,nofun⟩,g.low,g.top,g.no,g.pool,g.log,fun _=>⟨hX,fun _=>ownL_lit0 w,h.low,by simp,.inr h.top.1,.inr h.top.2⟩,g.ten,fun _ c=>?_,nofun,nofun⟩
 have:=(h.ten c).2.2.2.1
 omega
theorem CopI.step10 {X:Value} (h:CopI e lo w c2 c5 c6 c9 false c13 X2 X5 X6 X9 X10 X13 q l p0 p1 l0 l1 A6 A10 aT cT aH cH) (hX:X=.slice (some ⟨w.heap.size,0,none⟩) 0 0) (hw:w.alloc (.cells #[] 113)=w'):
  CopI e lo w' c2 c5 c6 c9 true c13 X2 X5 X6 X9 X X13 q l p0 p1 l0 l1 A6 w.heap.size aT cT aH cH:=by
 subst hw
 have hb:Below w.heap.size w (w.alloc (.cells #[] 113)):=(Below.refl _ _).alloc (Nat.le_refl _) _
 have h13:c13=false:=by cases hc:c13 with | false=>rfl | true=>have:=(h.val.2.2 hc).2;cases this
 subst h13
 have g:=h.below hb
 refine ⟨⟨h.val.1,h.val.2.1,nofun⟩,g.low,g.top,g.no,g.pool,g.log,g.six,fun _=>⟨hX,fun _=>ownH_lit0 w,h.low,by simp,.inr h.top.1,.inr h.top.2⟩,fun c _=>?_,fun c=>?_,nofun⟩
 ·have:=(h.six c).2.2.2.1
  omega
 ·obtain ⟨a,b,d⟩:=g.txs c
  refine ⟨a,b,fun k hk=>⟨(d k hk).1,(d k hk).2.1,fun _=>?_⟩⟩
  have:=((h.txs c).2.1.lt k hk).2
  omega
theorem CopI.step9 {X:Value} {a':Option Addr} {c':Nat} (h:CopI e lo w c2 c5 c6 false c10 c13 X2 X5 X6 X9 X10 X13 q l p0 p1 l0 l1 A6 A10 aT cT aH cH) (hc5:c5=true) (hc6:c6=true) (hX:X=.slice a' e.txs.length c') (ho:OwnL w' A6 w'.heap.size a' c' e.txs) (hg:w.grownBy w' (some A6))
  (hk:∀ k,(Value.slice a' e.txs.length c').ownBlock=some k→some A6=some k∨k=w.heap.size):
  CopI e lo w' c2 c5 c6 true c10 c13 X2 X5 X6 X X10 X13 q l p0 p1 l0 l1 A6 A10 a' c' aH cH:=by
 have h13:c13=false:=by cases hc:c13 with | false=>rfl | true=>have:=(h.val.2.2 hc).1;cases this
 subst h13
 have t:Touch [A6] w w':=Touch.of_grown hg (fun k hk=>by cases hk;exact List.mem_singleton.2 rfl)
 have hs:=t.size
 obtain ⟨x1,x2,x3,x4,x5,x6⟩:=h.six hc6
 have hlo:=h.low
 have htop:=h.top
 refine ⟨⟨h.val.1,fun _=>⟨hc5,hc6⟩,nofun⟩,by omega,by omega,h.no,fun c=>?_,fun c=>?_,fun c=>⟨x1,nofun,x3,by omega,x5,x6⟩,fun c=>?_,h.both,fun _=>⟨hX,ho.widen x3 (Nat.le_refl _) (Nat.le_refl _),fun k hk'=>?_⟩,nofun⟩
 ·obtain ⟨a,b,d,f⟩:=h.pool c
  exact ⟨a,b,OwnSts.touch d t (fun k hk hm=>by have:=OwnSts.blocks_lt d k hk;rw [List.mem_singleton.1 hm] at this;rcases x5 with y | y<;>omega),f⟩
 ·obtain ⟨a,b,d,f⟩:=h.log c
  exact ⟨a,b,OwnRs.touch d t (fun k hk hm=>by have:=OwnRs.blocks_lt d k hk;rw [List.mem_singleton.1 hm] at this;rcases x6 with y | y<;>omega),f⟩
 ·obtain ⟨a,b,d,f,g⟩:=h.ten c
  have hne:=h.both hc6 c
  exact ⟨a,fun x=>(b x).touch t (fun k hk hm=>by cases hk;exact hne (List.mem_singleton.1 hm).symm),d,by omega,g⟩
 ·rcases hk k hk' with y | y
  ·cases y;exact ⟨x5,x6,fun c=>h.both hc6 c⟩
  ·subst y;exact ⟨.inr htop.1,.inr htop.2,fun c=>by have:=(h.ten c).2.2.2.1;omega⟩
theorem CopI.step13 {X:Value} {a':Option Addr} {c':Nat} (h:CopI e lo w c2 c5 c6 c9 c10 false X2 X5 X6 X9 X10 X13 q l p0 p1 l0 l1 A6 A10 aT cT aH cH) (hc9:c9=true) (hc10:c10=true) (hX:X=.slice a' e.holds.length c') (ho:OwnH w' A10 w'.heap.size a' c' e.holds) (hg:w.grownBy w' (some A10))
  (hk:∀ k,(Value.slice a' e.holds.length c').ownBlock=some k→some A10=some k∨k=w.heap.size):
  CopI e lo w' c2 c5 c6 c9 c10 true X2 X5 X6 X9 X10 X q l p0 p1 l0 l1 A6 A10 aT cT a' c':=by
 have t:Touch [A10] w w':=Touch.of_grown hg (fun k hk=>by cases hk;exact List.mem_singleton.2 rfl)
 have hs:=t.size
 obtain ⟨x1,x2,x3,x4,x5,x6⟩:=h.ten hc10
 have hlo:=h.low
 have htop:=h.top
 refine ⟨⟨h.val.1,h.val.2.1,fun _=>⟨hc9,hc10⟩⟩,by omega,by omega,h.no,fun c=>?_,fun c=>?_,fun c=>?_,fun c=>⟨x1,nofun,x3,by omega,x5,x6⟩,h.both,fun c=>?_,fun _=>⟨hX,ho.widen x3 (Nat.le_refl _) (Nat.le_refl _),fun k hk'=>?_⟩⟩
 ·obtain ⟨a,b,d,f⟩:=h.pool c
  exact ⟨a,b,OwnSts.touch d t (fun k hk hm=>by have:=OwnSts.blocks_lt d k hk;rw [List.mem_singleton.1 hm] at this;rcases x5 with y | y<;>omega),f⟩
 ·obtain ⟨a,b,d,f⟩:=h.log c
  exact ⟨a,b,OwnRs.touch d t (fun k hk hm=>by have:=OwnRs.blocks_lt d k hk;rw [List.mem_singleton.1 hm] at this;rcases x6 with y | y<;>omega),f⟩
 ·obtain ⟨a,b,d,f,g⟩:=h.six c
  exact ⟨a,fun x=>(by rw [hc9] at x;cases x),d,by omega,g⟩
 ·obtain ⟨a,b,d⟩:=h.txs c
  exact ⟨a,(b.touch t (fun k hk hm=>(d k hk).2.2 hc10 (List.mem_singleton.1 hm))).widen (Nat.le_refl _) hs (Nat.le_refl _),d⟩
 ·obtain ⟨_,b,d⟩:=h.txs hc9
  rcases hk k hk' with y | y
  ·cases y;exact ⟨x5,x6,fun j hj=>(d j hj).2.2 hc10⟩
  ·subst y;exact ⟨.inr htop.1,.inr htop.2,fun j hj=>by have:=(b.lt j hj).2;omega⟩
end
end Go.Proofs.YtcoeamamaifoeaaGreatDoor
namespace Go.Proofs.YtcoeamamaifoeaaGreatDoor
open Go.RowKit
structure CopB (Z:EngA) (nT nH:Nat) (lo:Nat) (w:World) (c3 c6 c9 c10 c13:Bool) (X3:Value) (BO p0 p1 l0 l1 A6 A10:Nat) (aT:Option Addr) (cT:Nat) (aH:Option Addr) (cH:Nat):Prop where
 box:c3=true→X3=.pointer (some ⟨BO,0,none⟩)∧Box w BO Z.cells TE∧lo≤BO∧Out BO p0 p1∧Out BO l0 l1
 six:c3=true→c6=true→BO≠A6
 ten:c3=true→c10=true→BO≠A10
 txs:c3=true→c9=true→∀ k,(Value.slice aT nT cT).ownBlock=some k→k≠BO
 holds:c3=true→c13=true→∀ k,(Value.slice aH nH cH).ownBlock=some k→k≠BO
section
variable {Z e:EngA} {nT nH lo:Nat} {w w':World} {c2 c3 c5 c6 c9 c10 c13:Bool} {X2 X3 X5 X6 X9 X10 X13:Value} {q:PoolA} {l:LogA} {BO p0 p1 l0 l1 A6 A10:Nat} {aT:Option Addr} {cT:Nat} {aH:Option Addr} {cH:Nat}
theorem CopB.start (X3:Value) (w:World):CopB Z nT nH lo w false c6 c9 c10 c13 X3 0 p0 p1 l0 l1 A6 A10 aT cT aH cH:=⟨nofun,nofun,nofun,nofun,nofun⟩
theorem CopB.below (h:CopB Z nT nH lo w c3 c6 c9 c10 c13 X3 BO p0 p1 l0 l1 A6 A10 aT cT aH cH) (hb:Below w.heap.size w w'):CopB Z nT nH lo w' c3 c6 c9 c10 c13 X3 BO p0 p1 l0 l1 A6 A10 aT cT aH cH:=
 ⟨fun c=>by obtain ⟨a,b,d⟩:=h.box c;exact ⟨a,b.below hb b.lt,d⟩,h.six,h.ten,h.txs,h.holds⟩
theorem CopB.step2 (h:CopB Z nT nH lo w c3 c6 c9 c10 c13 X3 BO p0 p1 l0 l1 A6 A10 aT cT aH cH) (hb:Below w.heap.size w w'):CopB Z nT nH lo w' c3 c6 c9 c10 c13 X3 BO w.heap.size w'.heap.size l0 l1 A6 A10 aT cT aH cH:=
 ⟨fun c=>by obtain ⟨a,b,d,f,g⟩:=h.box c;exact ⟨a,b.below hb b.lt,d,.inl b.lt,g⟩,h.six,h.ten,h.txs,h.holds⟩
theorem CopB.step5 (h:CopB Z nT nH lo w c3 c6 c9 c10 c13 X3 BO p0 p1 l0 l1 A6 A10 aT cT aH cH) (hb:Below w.heap.size w w'):CopB Z nT nH lo w' c3 c6 c9 c10 c13 X3 BO p0 p1 w.heap.size w'.heap.size A6 A10 aT cT aH cH:=
 ⟨fun c=>by obtain ⟨a,b,d,f,g⟩:=h.box c;exact ⟨a,b.below hb b.lt,d,f,.inl b.lt⟩,h.six,h.ten,h.txs,h.holds⟩
theorem CopB.step6 (h:CopB Z nT nH lo w c3 c6 c9 c10 c13 X3 BO p0 p1 l0 l1 A6 A10 aT cT aH cH) (hb:Below w.heap.size w w'):CopB Z nT nH lo w' c3 true c9 c10 c13 X3 BO p0 p1 l0 l1 w.heap.size A10 aT cT aH cH:=
 ⟨(h.below hb).box,fun c _=>by have:=(h.box c).2.1.lt;omega,h.ten,h.txs,h.holds⟩
theorem CopB.step10 (h:CopB Z nT nH lo w c3 c6 c9 c10 c13 X3 BO p0 p1 l0 l1 A6 A10 aT cT aH cH) (hb:Below w.heap.size w w'):CopB Z nT nH lo w' c3 c6 c9 true c13 X3 BO p0 p1 l0 l1 A6 w.heap.size aT cT aH cH:=
 ⟨(h.below hb).box,h.six,fun c _=>by have:=(h.box c).2.1.lt;omega,h.txs,h.holds⟩
theorem CopB.step9 {a':Option Addr} {c':Nat} (h:CopB Z nT nH lo w c3 c6 c9 c10 c13 X3 BO p0 p1 l0 l1 A6 A10 aT cT aH cH) (hc6:c6=true) (hg:w.grownBy w' (some A6)) (hk:∀ k,(Value.slice a' nT c').ownBlock=some k→some A6=some k∨k=w.heap.size):
  CopB Z nT nH lo w' c3 c6 true c10 c13 X3 BO p0 p1 l0 l1 A6 A10 a' c' aH cH:=
 ⟨fun c=>by obtain ⟨a,b,d⟩:=h.box c;exact ⟨a,b.block (hg.block BO b.lt (fun x=>h.six c hc6 (Option.some.inj x))),d⟩,h.six,h.ten,fun c _ k hk'=>by
  rcases hk k hk' with y | y
  ·cases y;exact Ne.symm (h.six c hc6)
  ·have:=(h.box c).2.1.lt;omega,h.holds⟩
theorem CopB.step13 {a':Option Addr} {c':Nat} (h:CopB Z nT nH lo w c3 c6 c9 c10 c13 X3 BO p0 p1 l0 l1 A6 A10 aT cT aH cH) (hc10:c10=true) (hg:w.grownBy w' (some A10)) (hk:∀ k,(Value.slice a' nH c').ownBlock=some k→some A10=some k∨k=w.heap.size):
  CopB Z nT nH lo w' c3 c6 c9 c10 true X3 BO p0 p1 l0 l1 A6 A10 aT cT a' c':=
 ⟨fun c=>by obtain ⟨a,b,d⟩:=h.box c;exact ⟨a,b.block (hg.block BO b.lt (fun x=>h.ten c hc10 (Option.some.inj x))),d⟩,h.six,h.ten,h.txs,fun c _ k hk'=>by
  rcases hk k hk' with y | y
  ·cases y;exact Ne.symm (h.ten c hc10)
  ·have:=(h.box c).2.1.lt;omega⟩
theorem CopB.laid {X:Value} (i:CopI e lo w c2 c5 c6 c9 c10 c13 X2 X5 X6 X9 X10 X13 q l p0 p1 l0 l1 A6 A10 aT cT aH cH) (hX:X=.pointer (some ⟨w.heap.size,0,none⟩)) (hb:Box w' w.heap.size Z.cells TE):
  CopB Z e.txs.length e.holds.length lo w' true c6 c9 c10 c13 X w.heap.size p0 p1 l0 l1 A6 A10 aT cT aH cH:=
 ⟨fun _=>⟨hX,hb,i.low,.inr i.top.1,.inr i.top.2⟩,fun _ c=>by have:=(i.six c).2.2.2.1;omega,fun _ c=>by have:=(i.ten c).2.2.2.1;omega,
  fun _ c k hk=>by have:=((i.txs c).2.1.lt k hk).2;omega,fun _ c k hk=>by have:=((i.holds c).2.1.lt k hk).2;omega⟩
end
theorem CopI.whole {e:EngA} {lo:Nat} {w:World} {X2 X5 X6 X9 X10 X13:Value} {q:PoolA} {l:LogA} {p0 p1 l0 l1 A6 A10:Nat} {aT:Option Addr} {cT:Nat} {aH:Option Addr} {cH:Nat}
  (i:CopI e lo w true true true true true true X2 X5 X6 X9 X10 X13 q l p0 p1 l0 l1 A6 A10 aT cT aH cH):
  X2=.agg q.cells.toArray∧X5=.agg l.cells.toArray∧X9=.slice aT e.txs.length cT∧X13=.slice aH e.holds.length cH∧Hid (q.v=e.poolA.v)∧Hid (l.v=e.log.v)∧
  OwnSts w lo w.heap.size q.a q.c q.seats∧OwnRs w lo w.heap.size l.a l.c l.recs∧OwnL w lo w.heap.size aT cT e.txs∧OwnH w lo w.heap.size aH cH e.holds∧
  (blocksSts q.a q.c q.seats++(blocksRs l.a l.c l.recs++(rowOf aT e.txs.length cT++rowOf aH e.holds.length cH))).Nodup:=by
 obtain ⟨a1,a2,a3,a4,a5⟩:=i.pool rfl
 obtain ⟨b1,b2,b3,b4,b5,b6⟩:=i.log rfl
 obtain ⟨t1,t2,t3⟩:=i.txs rfl
 obtain ⟨h1,h2,h3⟩:=i.holds rfl
 have tp:=i.top
 refine ⟨a1,b1,t1,h1,a2,b2,OwnSts.widen a3 a4 tp.1 (Nat.le_refl _),OwnRs.widen b3 b5 tp.2 (Nat.le_refl _),t2,h2,?_⟩
 have B2:=OwnSts.blocks_lt a3
 have B3:=OwnRs.blocks_lt b3
 have nr:∀ o:Option Nat,o.toList.Nodup:=fun o=>by cases o<;>simp
 simp only [List.nodup_append,List.mem_append]
 refine ⟨OwnSts.apart a3,⟨OwnRs.apart b3,⟨nr _,nr _,fun x hx y hy=>(h3 y (Option.mem_toList.1 hy)).2.2 x (Option.mem_toList.1 hx)⟩,fun x hx y hy=>?_⟩,fun x hx y hy=>?_⟩
 ·have:=B3 x hx
  rcases hy with hy | hy
  ·rcases (t3 y (Option.mem_toList.1 hy)).2.1 with o | o<;>omega
  ·rcases (h3 y (Option.mem_toList.1 hy)).2.1 with o | o<;>omega
 ·have:=B2 x hx
  rcases hy with hy | hy | hy
  ·have:=B3 y hy;omega
  ·rcases (t3 y (Option.mem_toList.1 hy)).1 with o | o<;>omega
  ·rcases (h3 y (Option.mem_toList.1 hy)).1 with o | o<;>omega
def copE (e:EngA) (q:PoolA) (l:LogA) (aT:Option Addr) (cT:Nat) (aH:Option Addr) (cH:Nat):EngA:=⟨zeroE.disk,q.seats,q.a,q.c,q.hand,l,e.txs,aT,cT,e.holds,aH,cH,e.next,e.down⟩
theorem copE_shape (e:EngA) (q:PoolA) (l:LogA) (aT:Option Addr) (cT:Nat) (aH:Option Addr) (cH:Nat):(copE e q l aT cT aH cH).shape:=⟨zeroE_shape.eight,zeroE_shape.four⟩
theorem run_buildEC (w:World) (e:EngA) (q:PoolA) (l:LogA) (aT:Option Addr) (cT:Nat) (aH:Option Addr) (cH:Nat):
  (Instr.build 58 #[(1,.agg q.cells.toArray),(2,.agg l.cells.toArray),(3,.slice aT e.txs.length cT),(4,.slice aH e.holds.length cH),(5,.int .i64 e.next),(6,.bool e.down)]).run Tryz.prog w=.ok (.agg (copE e q l aT cT aH cH).cells.toArray) w:=run_build w _ _ _ (by kernel_rfl)
theorem zdisk_own (w:World) (lo hi:Nat) (h:hi≤w.heap.size):OwnS w lo hi (zeroE.disk.flatMap (·.ss)):=by
 refine ⟨fun s hs=>?_,List.nodup_nil⟩
 obtain ⟨p,hp,hs⟩:=List.mem_flatMap.1 hs
 have h1:p=zeroP:=by
  simp only [zeroE,List.mem_cons,List.not_mem_nil,or_false] at hp
  rcases hp with h | h | h | h | h | h | h | h<;>exact h
 rw [h1] at hs
 have h2:s=zeroS:=by simpa [zeroP] using hs
 rw [h2]
 exact zero_own _ _ _ h
theorem CopI.eng {Z e:EngA} {lo:Nat} {w:World} {X2 X5 X6 X9 X10 X13 X3:Value} {q:PoolA} {l:LogA} {BO p0 p1 l0 l1 A6 A10:Nat} {aT:Option Addr} {cT:Nat} {aH:Option Addr} {cH:Nat}
  (i:CopI e lo w true true true true true true X2 X5 X6 X9 X10 X13 q l p0 p1 l0 l1 A6 A10 aT cT aH cH) (b:CopB Z e.txs.length e.holds.length lo w true true true true true X3 BO p0 p1 l0 l1 A6 A10 aT cT aH cH):
  (copE e q l aT cT aH cH).own w lo w.heap.size∧BO∉(copE e q l aT cT aH cH).blocks:=by
 obtain ⟨_,_,_,_,_,_,o1,o2,o3,o4,nd⟩:=i.whole
 obtain ⟨_,_,_,f1,f2⟩:=b.box rfl
 refine ⟨⟨zdisk_own w _ _ (Nat.le_refl _),o1,o2,o3,o4,nd⟩,fun hm=>?_⟩
 have hm':BO∈blocksSts q.a q.c q.seats++(blocksRs l.a l.c l.recs++(rowOf aT e.txs.length cT++rowOf aH e.holds.length cH)):=hm
 simp only [List.mem_append] at hm'
 rcases hm' with h | h | h | h
 ·have:=OwnSts.blocks_lt (i.pool rfl).2.2.1 BO h;rcases f1 with y | y<;>omega
 ·have:=OwnRs.blocks_lt (i.log rfl).2.2.1 BO h;rcases f2 with y | y<;>omega
 ·exact b.txs rfl rfl BO (Option.mem_toList.1 h) rfl
 ·exact b.holds rfl rfl BO (Option.mem_toList.1 h) rfl
end Go.Proofs.YtcoeamamaifoeaaGreatDoor
namespace Go.Proofs.YtcoeamamaifoeaaGreatDoor
open Go.RowKit
theorem fold_seg (off:Nat):∀ (vs A old R:List Value) (j:Nat),old.length=vs.length→A.length=off+j→
  (vs.zipIdx j).foldl (fun (cs:Array Value) (p:Value × Nat)=>cs.setIfInBounds (off+p.2) p.1) (A++(old++R)).toArray=(A++(vs++R)).toArray
 | [],A,old,R,j,h,hA=>by
  have:old=[]:=List.length_eq_zero_iff.1 h
  rw [this];rfl
 | v::vs,A,[],R,j,h,hA=>by cases h
 | v::vs,A,o::old,R,j,h,hA=>by
  rw [List.zipIdx_cons,List.foldl_cons]
  have e1:(A++(o::old++R)).toArray.setIfInBounds (off+j) v=((A++[v])++(old++R)).toArray:=by
   rw [List.setIfInBounds_toArray,← hA,List.set_append_right _ _ (Nat.le_refl _),Nat.sub_self]
   simp
  have e2:=fold_seg off vs (A++[v]) old R (j+1) (by simpa using h) (by rw [List.length_append,hA];rfl)
  show List.foldl _ ((A++(o::old++R)).toArray.setIfInBounds (off+j) v) _=_
  rw [e1,e2]
  simp
theorem fold_seg0 (vs A old R:List Value) (h:old.length=vs.length):vs.toArray.zipIdx.foldl (fun (cs:Array Value) (p:Value × Nat)=>cs.setIfInBounds (A.length+p.2) p.1) (A++(old++R)).toArray=(A++(vs++R)).toArray:=by
 rw [← Array.foldl_toList,Array.toList_zipIdx]
 exact fold_seg A.length vs A old R 0 h rfl
theorem fill_step (place:Nat→Option (Nat × Nat)) (A vs old R:List Value) (i:Nat) (v:Value) (rest:List (Nat × Value)) (hp:place i=some (A.length,vs.length)) (hv:v.cells=vs.toArray) (h:old.length=vs.length):
  Instr.fill place (A++(old++R)).toArray ((i,v)::rest)=Instr.fill place (A++(vs++R)).toArray rest:=by
 have e1:v.cells.size=vs.length:=by rw [hv];simp
 have e2:(A++(old++R)).toArray.size=A.length+(vs.length+R.length):=by simp [h]
 have e3:=fold_seg0 vs A old R h
 rw [Instr.fill]
 simp only [hp,e1,e2]
 rw [if_neg (by simp),hv]
 exact congrArg (fun c=>Instr.fill place c rest) e3
end Go.Proofs.YtcoeamamaifoeaaGreatDoor