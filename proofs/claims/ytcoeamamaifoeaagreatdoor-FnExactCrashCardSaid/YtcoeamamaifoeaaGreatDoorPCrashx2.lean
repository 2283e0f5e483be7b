/- Several texts in one, in their order. -/
import Derived.Test.YtcoeamamaifoeaaGreatDoorPCrashx1
import Derived.Deep.MidRow
import Derived.WalkKit
import Derived.Test.YtcoeamamaifoeaaGreatDoorProg
import Derived.Deep.RegionHeld3
import Derived.Deep.QuietTactic
import Derived.BigQuiet
set_option maxHeartbeats 8000000
set_option maxRecDepth 100000
namespace Go.Proofs.YtcoeamamaifoeaaGreatDoor
open Go.RowKit
structure Touch (bl:List Nat) (w w':World):Prop where
 os:w'.os=w.os
 tape:w'.tape=w.tape
 output:w'.output=w.output
 size:w.heap.size≤w'.heap.size
 block:∀ k,k<w.heap.size→k∉bl→w'.heap[k]? =w.heap[k]?
theorem Touch.refl (bl:List Nat) (w:World):Touch bl w w:=⟨rfl,rfl,rfl,Nat.le_refl _,fun _ _ _=>rfl⟩
theorem Touch.trans {bl:List Nat} {a b c:World} (h:Touch bl a b) (k:Touch bl b c):Touch bl a c:=
 ⟨k.os.trans h.os,k.tape.trans h.tape,k.output.trans h.output,Nat.le_trans h.size k.size,fun i hi hn=>(k.block i (Nat.lt_of_lt_of_le hi h.size) hn).trans (h.block i hi hn)⟩
theorem Touch.mono {bl bl':List Nat} {w w':World} (h:Touch bl w w') (hs:∀ k∈bl,k∈bl'):Touch bl' w w':=
 ⟨h.os,h.tape,h.output,h.size,fun k hk hn=>h.block k hk (fun hh=>hn (hs k hh))⟩
theorem Touch.of_below {bl:List Nat} {w w':World} (h:Below w.heap.size w w'):Touch bl w w':=⟨h.os,h.tape,h.output,h.size,fun k hk _=>h.block k hk⟩
theorem Touch.of_grown {bl:List Nat} {w w':World} {row:Option Nat} (h:w.grownBy w' row) (hr:∀ k,row=some k→k∈bl):Touch bl w w':=
 ⟨h.os,h.tape,h.output,h.size,fun k hk hn=>h.block k hk (fun e=>hn (hr k e.symm))⟩
theorem Touch.within {bl:List Nat} {lo hi:Nat} {w w':World} (h:Touch bl w w') (hb:∀ k∈bl,lo≤k∧k<hi):Within lo hi w w':=
 ⟨h.os,h.tape,h.output,h.size,fun k hk hn=>h.block k hk (fun hh=>hn (hb k hh))⟩
theorem Box.touch {w w':World} {B:Nat} {vs:List Value} {t:TypeId} {bl:List Nat} (h:Box w B vs t) (ht:Touch bl w w') (hn:B∉bl):Box w' B vs t:=h.block (ht.block B h.lt hn)
theorem OwnI.touch {w w':World} {lo hi:Nat} {a:Option Addr} {c:Nat} {ns:List Int} {bl:List Nat} (h:OwnI w lo hi a c ns) (ht:Touch bl w w') (hd:∀ k,(Value.slice a ns.length c).ownBlock=some k→k∉bl):OwnI w' lo hi a c ns:=
 ⟨ownsRow_block h.1 (fun k hk=>ht.block k (h.1.lt k hk).2 (hd k hk)),Nat.le_trans h.2.1 ht.size,h.2.2⟩
theorem SlotA.touch {w w':World} {lo hi:Nat} {s:SlotA} {bl:List Nat} (h:s.own w lo hi) (ht:Touch bl w w') (hd:∀ k∈s.blocks,k∉bl):s.own w' lo hi:=
 ⟨h.ints.touch ht (fun k hk=>hd k (List.mem_append.2 (.inl (Option.mem_toList.2 hk)))),h.refs.touch ht (fun k hk=>hd k (List.mem_append.2 (.inr (Option.mem_toList.2 hk)))),h.apart⟩
theorem OwnS.replace {w w':World} {lo hi:Nat} {A B:List SlotA} {s t:SlotA} (h:OwnS w lo hi (A++s::B)) (ht:Touch s.blocks w w') (ho:t.own w' lo hi) (hb:t.blocks=s.blocks):OwnS w' lo hi (A++t::B):=by
 have hap:=h.apart
 rw [List.flatMap_append,List.flatMap_cons,List.nodup_append] at hap
 obtain ⟨_,h2,h3⟩:=hap
 rw [List.nodup_append] at h2
 obtain ⟨_,_,h5⟩:=h2
 refine ⟨fun x hx=>?_,?_⟩
 ·rcases List.mem_append.1 hx with hA | hB
  ·refine SlotA.touch (h.each x (by simp [hA])) ht (fun k hk hk'=>?_)
   exact h3 k (List.mem_flatMap.2 ⟨x,hA,hk⟩) k (List.mem_append.2 (.inl hk')) rfl
  ·rcases List.mem_cons.1 hB with rfl | hB
   ·exact ho
   ·refine SlotA.touch (h.each x (by simp [hB])) ht (fun k hk hk'=>?_)
    exact h5 k hk' k (List.mem_flatMap.2 ⟨x,hB,hk⟩) rfl
 ·have:=h.apart
  rw [List.flatMap_append,List.flatMap_cons] at this ⊢
  rw [hb];exact this
def SlotA.mark (s:SlotA) (k:Int):SlotA:={ s with v:=⟨s.v.has,markO s.v.o k⟩ }
def SlotA.count (s:SlotA):Nat:=s.v.o.ints.length+s.v.o.refs.length
def markSs:List SlotA→Int→List SlotA
 | [],_=>[]
 | s::r,k=>s.mark k::markSs r (k+s.count)
def countS:List SlotA→Nat
 | []=>0
 | s::r=>s.count+countS r
theorem mark_blocks (s:SlotA) (k:Int):(s.mark k).blocks=s.blocks:=by simp [SlotA.mark,SlotA.blocks,markO,marksI_len]
theorem countS_snoc (ss:List SlotA) (s:SlotA):countS (ss++[s])=countS ss+s.count:=by
 induction ss with
 | nil=>simp [countS]
 | cons x r ih=>simp only [List.cons_append,countS,ih];omega
theorem markSs_snoc (ss:List SlotA) (s:SlotA):∀ k,markSs (ss++[s]) k=markSs ss k++[s.mark (k+countS ss)]:=by
 induction ss with
 | nil=>intro k;simp [markSs,countS]
 | cons x r ih=>
  intro k
  simp only [List.cons_append,markSs,ih,countS]
  congr 3
  congr 1
  omega
theorem markSs_app (A B:List SlotA):∀ k,markSs (A++B) k=markSs A k++markSs B (k+countS A):=by
 induction A with
 | nil=>intro k;simp [markSs,countS]
 | cons x r ih=>
  intro k
  simp only [List.cons_append,markSs,ih,countS]
  congr 3
  omega
theorem markSs_at (ss:List SlotA) (k:Int) (j:Nat) (h:j<ss.length):(ss.getD j zeroS).mark (k+countS (ss.take j))∈markSs ss k:=by
 have e:markSs ss k=markSs (ss.take j) k++markSs (ss.drop j) (k+countS (ss.take j)):=by rw [← markSs_app,List.take_append_drop]
 have e2:ss.getD j zeroS=ss[j]:=by simp [List.getD,h]
 rw [e,List.drop_eq_getElem_cons h,markSs,e2]
 exact List.mem_append.2 (.inr (List.mem_cons.2 (.inl rfl)))
theorem take_split (ss:List SlotA) (j:Nat) (h:j<ss.length):ss.drop j=ss.getD j zeroS::ss.drop (j+1)∧ss.take (j+1)=ss.take j++[ss.getD j zeroS]:=by
 refine ⟨by rw [List.drop_eq_getElem_cons h];simp [List.getD,h],?_⟩
 rw [List.take_add_one]
 simp [List.getD,h]
theorem countS_le (ss:List SlotA) (M:Nat) (h:∀ s∈ss,s.v.o.ints.length≤M∧s.v.o.refs.length≤M):countS ss≤ss.length*(2*M):=by
 induction ss with
 | nil=>simp [countS]
 | cons x r ih=>
  have h1:=h x (by simp)
  have h2:=ih (fun s hs=>h s (by simp [hs]))
  simp only [countS,SlotA.count,List.length_cons,Nat.add_mul]
  omega
theorem markObj_touch (o:ObjV) (lo hi:Nat) (aI:Option Addr) (cI:Nat) (aR:Option Addr) (cR:Nat) (k0:Int) (w:World) (ho:OwnO w lo hi aI cI aR cR o) (h0:0≤k0) (hlI:o.ints.length≤1099511627776) (hlR:o.refs.length≤1099511627776) (hk:k0≤109951162777600):
  Calls Tryz.prog 153 #[.agg #[.int .i64 o.kind,.slice aI o.ints.length cI,.slice aR o.refs.length cR],.int .i64 k0] w fun e w'=>e=.returned (.int .i64 (k0+o.ints.length+o.refs.length))∧OwnO w' lo hi aI cI aR cR (markO o k0)∧
   Touch ((Value.slice aI o.ints.length cI).ownBlock.toList++(Value.slice aR o.refs.length cR).ownBlock.toList) w w':=by
 obtain ⟨k,ints,refs⟩:=o
 obtain ⟨hI,hR,hap⟩:=ho
 simp only at*
 obtain ⟨W,hW,b0,hbW,hsW⟩:=boxes1 w [.int .i64 k,.slice aI ints.length cI,.slice aR refs.length cR] 42
 have hI':=hI.below hbW
 have hR':=hR.below hbW
 go_enter Tryz.func153,Tryz.ntmps153
 go_wp2_with fail
 rw [hW.out]
 refine (markIntS_any lo aI cI k0 ints W hI'.1 h0 (by omega)).mono ?_
 rintro e w1 ⟨rfl,h1,h2⟩
 have hR1:=hR'.kept h2 (fun k hk e=>hap k e hk)
 have b1:=b0.block (h2.block _ (by omega) (fun e=>by have h3:=(hI.lt _ e.symm).2;have:=hI.2.1;omega))
 have c2:=b1.cell 2 _ rfl
 have hI1:OwnI w1 lo hi aI cI (marksI k0 ints.length):=⟨by rw [marksI_len];exact h1,Nat.le_trans hI'.2.1 h2.size,by rw [marksI_len];exact hI.2.2⟩
 go_wp2_with fail
 refine (markIntS_any lo aR cR (k0+ints.length) refs w1 hR1.1 (by omega) (by omega)).mono ?_
 rintro e w2 ⟨rfl,h3,h4⟩
 have hI2:=hI1.kept h4 (fun k hk e=>by rw [marksI_len] at hk;exact hap k hk e)
 have hR2:OwnI w2 lo hi aR cR (marksI (k0+ints.length) refs.length):=⟨by rw [marksI_len];exact h3,Nat.le_trans hR1.2.1 h4.size,by rw [marksI_len];exact hR.2.2⟩
 go_wp2
 go_ret
 refine ⟨rfl,⟨hI2,hR2,?_⟩,((Touch.of_below hbW).trans (Touch.of_grown h2 (fun j hj=>List.mem_append.2 (.inl (Option.mem_toList.2 hj))))).trans (Touch.of_grown h4 (fun j hj=>List.mem_append.2 (.inr (Option.mem_toList.2 hj))))⟩
 simp only [markO,marksI_len]
 exact hap
theorem heldObj_any (o:ObjV) (lo hi:Nat) (aI:Option Addr) (cI:Nat) (aR:Option Addr) (cR:Nat) (k0:Int) (w:World) (ho:OwnO w lo hi aI cI aR cR (markO o k0)) (h0:0≤k0) (hlI:o.ints.length≤1099511627776) (hlR:o.refs.length≤1099511627776) (hk:k0≤109951162777600):
  Calls Tryz.prog 154 #[.agg #[.int .i64 o.kind,.slice aI o.ints.length cI,.slice aR o.refs.length cR],.int .i64 k0] w fun e w'=>e=.returned (.int .i64 (k0+o.ints.length+o.refs.length))∧Below w.heap.size w w':=by
 obtain ⟨k,ints,refs⟩:=o
 obtain ⟨hI,hR,hap⟩:=ho
 simp only [markO] at*
 obtain ⟨W,hW,b0,hbW,hsW⟩:=boxes1 w [.int .i64 k,.slice aI ints.length cI,.slice aR refs.length cR] 42
 have hI':=hI.below hbW
 have hR':=hR.below hbW
 have c2:=b0.cell 2 _ rfl
 go_enter Tryz.func154,Tryz.ntmps154
 go_wp2_with fail
 rw [hW.out]
 refine (heldIntS_own lo hi aI cI k0 ints.length W hI' h0 (by omega)).mono ?_
 rintro e w1 ⟨rfl,rfl⟩
 go_wp2_with fail
 refine (heldIntS_own lo hi aR cR (k0+ints.length) refs.length w1 hR' (by omega) (by omega)).mono ?_
 rintro e w2 ⟨rfl,rfl⟩
 go_wp2
 go_ret
 exact ⟨rfl,hbW⟩
theorem markSlot_touch (s:SlotA) (lo hi:Nat) (k0:Int) (w:World) (ho:s.own w lo hi) (h0:0≤k0) (hlI:s.v.o.ints.length≤1099511627776) (hlR:s.v.o.refs.length≤1099511627776) (hk:k0≤109951162777600):
  Calls Tryz.prog 132 #[.agg s.cells.toArray,.int .i64 k0] w fun e w'=>e=.returned (.int .i64 (k0+s.count))∧(s.mark k0).own w' lo hi∧Touch s.blocks w w':=by
 obtain ⟨W,hW,b0,hbW,hsW⟩:=boxes1 w s.cells 44
 have C:=markObj_touch s.v.o lo hi s.aI s.cI s.aR s.cR k0 W (OwnO.below ho hbW) h0 hlI hlR hk
 have HC:Hid ((s.count:Int)=s.v.o.ints.length+s.v.o.refs.length):=by simp [Hid,SlotA.count]
 simp only [SlotA.cells] at*
 go_enter Tryz.func132,Tryz.ntmps132
 go_wp2_with fail
 rw [hW.out]
 refine C.mono ?_
 clear C
 rintro e w1 ⟨rfl,ho1,ht1⟩
 go_wp2
 go_ret
 exact ⟨ret_int (by rw [HC.out];omega),ho1,(Touch.of_below hbW).trans ht1⟩
theorem heldSlot_any (s:SlotA) (lo hi:Nat) (k0:Int) (w:World) (ho:(s.mark k0).own w lo hi) (h0:0≤k0) (hlI:s.v.o.ints.length≤1099511627776) (hlR:s.v.o.refs.length≤1099511627776) (hk:k0≤109951162777600):
  Calls Tryz.prog 133 #[.agg s.cells.toArray,.int .i64 k0] w fun e w'=>e=.returned (.int .i64 (k0+s.count))∧Below w.heap.size w w':=by
 obtain ⟨W,hW,b0,hbW,hsW⟩:=boxes1 w s.cells 44
 have C:=heldObj_any s.v.o lo hi s.aI s.cI s.aR s.cR k0 W (OwnO.below ho hbW) h0 hlI hlR hk
 have HC:Hid ((s.count:Int)=s.v.o.ints.length+s.v.o.refs.length):=by simp [Hid,SlotA.count]
 simp only [SlotA.cells] at*
 go_enter Tryz.func133,Tryz.ntmps133
 go_wp2_with fail
 rw [hW.out]
 refine C.mono ?_
 clear C
 rintro e w1 ⟨rfl,hb1⟩
 go_wp2
 go_ret
 exact ⟨ret_int (by rw [HC.out];omega),hbW.trans (hb1.mono hbW.size)⟩
def zero4:List SlotA:=[zeroS,zeroS,zeroS,zeroS]
theorem within_setCells (B o:Nat) (vs:List Value) (w:World):Within B (B+1) w (w.setCells B o vs):=by
 induction vs generalizing o w with
 | nil=>exact Within.refl _ _ _
 | cons v r ih=>exact (within_set w B o v (by omega)).trans (ih (o+1) _)
theorem set_snoc (ts:List SlotA) (n:Nat) (t:SlotA):(ts++List.replicate (n+1) zeroS).set ts.length t=(ts++[t])++List.replicate n zeroS:=by
 rw [List.set_append_right _ _ (Nat.le_refl _)]
 simp [List.replicate_succ]
theorem getD_mem {ss:List SlotA} {k:Nat} (h:k<ss.length):ss.getD k zeroS∈ss:=by simp [List.getD,h]
theorem toSlotA4_own (ss:List SlotA) (h4:ss.length=4) (w:World) (hr:ReadsS w ss) (hl:∀ s∈ss,s.v.o.ints.length≤1099511627776∧s.v.o.refs.length≤1099511627776):
  Calls Tryz.prog 90 #[.agg (cellsS ss).toArray] w fun e w'=>∃ ts:List SlotA,e=.returned (.agg (cellsS ts).toArray)∧Hid (ts.map (·.v)=ss.map (·.v))∧OwnS w' w.heap.size w'.heap.size ts∧Below w.heap.size w w':=by
 obtain ⟨W,hW,b0,b1,b2,hbW,hsW⟩:=boxes3 w (cellsS ss) [.bool false,.int .i64 0,.slice none 0 0,.slice none 0 0,.bool false,.int .i64 0,.slice none 0 0,.slice none 0 0,.bool false,.int .i64 0,.slice none 0 0,.slice none 0 0,.bool false,.int .i64 0,.slice none 0 0,.slice none 0 0] [.bool false,.int .i64 0,.slice none 0 0,.slice none 0 0,.bool false,.int .i64 0,.slice none 0 0,.slice none 0 0,.bool false,.int .i64 0,.slice none 0 0,.slice none 0 0,.bool false,.int .i64 0,.slice none 0 0,.slice none 0 0] 27 45 45
 have b1':Box W (w.heap.size+1) (cellsS zero4) 45:=b1
 have b2':Box W (w.heap.size+1+1) (cellsS zero4) 45:=b2
 have hsW':w.heap.size+1+1<W.heap.size:=by omega
 clear b1 b2 hsW
 go_enter Tryz.func90,Tryz.ntmps90
 go_wp2_with fail
 rw [hW.out]
 clear hW
 have H4:Hid (ss.length=4):=h4
 clear h4
 go_loopw [4] (fun i wr=>∃ (k:Nat) (ts:List SlotA),i=.int .i64 k∧k≤4∧Hid (ts.length=k∧ts.map (·.v)=(ss.take k).map (·.v))∧OwnS wr W.heap.size wr.heap.size ts∧Box wr (w.heap.size+1+1) (cellsS (ts++List.replicate (4-k) zeroS)) 45∧Below (w.heap.size+1+1) W wr)
  (fun i _=>4-(RowKit.intOf i).toNat)
 case atStart=>exact ⟨0,[],rfl,by omega,⟨rfl,rfl⟩,OwnS.nil _ _ _,b2',Below.refl _ _⟩
 case round=>
  obtain ⟨k,ts,rfl,hk,hts,hown,hbox,hbl⟩:=hrel
  clear b2'
  have b0r:=b0.below hbl (by omega)
  have b1r:=b1'.below hbl (by omega)
  have hsr:=hbl.size
  by_cases hlt:k<4
  ·have hkl:k<ss.length:=by rw [H4.out];exact hlt
   obtain ⟨c0,c1,c2,c3,_⟩:=b0r.slot k hkl
   have hrk:=(hr _ (getD_mem hkl)).below (hbW.trans (hbl.mono (by omega)))
   have hlk:=hl _ (getD_mem hkl)
   have HV:Hid ((ss.take (k+1)).map (·.v)=(ss.take k).map (·.v)++[(ss.getD k zeroS).v]):=by
    rw [Hid,List.take_add_one,List.map_append]
    simp [List.getD,hkl]
   generalize ss.getD k zeroS=s at*
   go_wp2_with fail
   refine (toSlot_own s wr hrk hlk.1 hlk.2).mono ?_
   clear hrk hlk c0 c1 c2 c3
   rintro e w1 ⟨t,rfl,hv,ho,hb1⟩
   have hs1:=hb1.size
   have hbx:=hbox.below hb1 hbox.lt
   have hkt:k<(ts++List.replicate (4-k) zeroS).length:=by have:=hts.out.1;simp;omega
   obtain ⟨W2,hW2,b2,hw2,hs2⟩:=slot_fill hbx k hkt t
   obtain ⟨x0,x1,x2,x3,hfz⟩:=hbx.slot k hkt
   have f0:=hfz (k*4)
   have f1:=hfz (k*4+1)
   have f2:=hfz (k*4+2)
   have f3:=hfz (k*4+3)
   generalize (ts++List.replicate (4-k) zeroS).getD k zeroS=old at*
   have b2':Box W2 (w.heap.size+1+1) (cellsS ((ts++[t])++List.replicate (4-(k+1)) zeroS)) 45:=by
    rw [show 4-k=(4-(k+1))+1 by omega] at b2
    have e:=set_snoc ts (4-(k+1)) t
    rw [hts.out.1] at e
    rw [e] at b2
    exact b2
   have hO1:OwnS w1 W.heap.size w1.heap.size (ts++[t]):=(hown.below hb1).snoc ho hsr hs1 (Nat.le_refl _)
   have hO2:OwnS W2 W.heap.size W2.heap.size (ts++[t]):=(hO1.within hw2 (.inr (by omega))).widen (Nat.le_refl _) (by omega) (Nat.le_refl _)
   have hB2:Below (w.heap.size+1+1) W W2:=(hbl.trans (hb1.mono (by omega))).trans (hw2.below (Nat.le_refl _) (by omega))
   have HT:Hid ((ts++[t]).length=k+1∧(ts++[t]).map (·.v)=(ss.take (k+1)).map (·.v)):=by
    refine ⟨by have:=hts.out.1;simp;omega,?_⟩
    rw [HV.out,List.map_append,hts.out.2,← hv.out]
    rfl
   clear hfz hs2 hw2 b2 hO1 hown hbox hbx hts HV hkt hb1 ho
   simp only [SlotA.cells]
   go_wp2_with fail
   rw [hW2.out]
   go_roundw
   case rel=>exact ⟨k+1,ts++[t],by go_num,by omega,HT,hO2,b2',hB2⟩
   case measure=>simp [RowKit.intOf];omega
  ·obtain rfl:k=4:=by omega
   have hrp:ts++List.replicate (4-4) zeroS=ts:=by simp
   rw [hrp] at hbox
   have htl:ts.length=4:=hts.out.1
   have hmv:ts.map (·.v)=ss.map (·.v):=by rw [hts.out.2,List.take_of_length_le (by rw [H4.out];omega)]
   have hrg:wr.rangeAt (w.heap.size+1+1) 0 (cellsS ts):=fun j v hv=>by rw [Nat.zero_add];exact hbox.cell j v hv
   have hth:wr.there (w.heap.size+1) 0 (cellsS ts).toArray.size:=by
    intro j hj
    rw [Nat.zero_add]
    have hj16:j<(cellsS zero4).length:=by simp only [List.size_toArray,cellsS_len] at hj ⊢;rw [htl] at hj;exact hj
    exact ⟨by rw [b1r.cell j _ (List.getElem?_eq_getElem hj16)];rfl,b1r.frozen j⟩
   have hone:(cellsS ts).toArray.all (·.oneCell')=true:=by
    apply all_oneCell_toArray
    intro v hv
    obtain ⟨s,_,hs⟩:=List.mem_flatMap.1 hv
    simp only [SlotA.cells,List.mem_cons,List.not_mem_nil,or_false] at hs
    rcases hs with rfl | rfl | rfl | rfl<;>rfl
   have hsz:(cellsS ts).toArray.size=16:=by simp [cellsS_len,htl]
   have hi:(Tryz.prog.info? 45).map (·.size)=some (cellsS ts).toArray.size:=by rw [hsz];kernel_rfl
   have hi':(Tryz.prog.info? 45).map (·.size)=some (cellsS ts).length:=by rw [hi];simp
   clear hsz htl hrp
   go_wp2_with (first | (guard_target=wpList _ _ _ (Oper.mk (some 15) _ _ _ _ _::_) _ _;refine wpList_load_mid rfl 45 (.tmp 3) rfl (w.heap.size+1+1) 0 rfl (cellsS ts) _ hrg Tryz.underlying45 rfl hi' ?_) | (guard_target=wpList _ _ _ (Oper.mk none (Op.store _ (Operand.tmp 2) _) _ _ _ _::_) _ _;refine wpList_store_mid rfl 45 (.tmp 2) (.tmp 15) rfl (w.heap.size+1) 0 (cellsS ts).toArray rfl rfl hth hi hone ?_) | fail)
   have hgs:Within (w.heap.size+1) (w.heap.size+1+1) wr (wr.setCells (w.heap.size+1) 0 (cellsS ts)):=within_setCells _ _ _ _
   have hrF:(wr.setCells (w.heap.size+1) 0 (cellsS ts)).rangeAt (w.heap.size+1) 0 (cellsS ts):=World.rangeAt_setCells_same _ _ _ _ (by simpa using hth)
   have hlF:=run_loadVar_mid (P:=Tryz.prog) _ (w.heap.size+1) 0 45 (cellsS ts) _ hrF Tryz.underlying45 rfl hi'
   have hsF:=hgs.size
   exact bodyPost_ret (v:=.agg (cellsS ts).toArray) (results_one Tryz.results90 rfl hlF) rfl ⟨ts,rfl,hmv,(hown.within hgs (.inr (by omega))).widen (by omega) (by omega) (Nat.le_refl _),(hbW.trans (hbl.mono (by omega))).trans (hgs.below (by omega) (by omega))⟩
theorem Box.range {w:World} {B:Nat} {t:TypeId} (pre cs post:List Value) (b:Box w B (pre++(cs++post)) t):w.rangeAt B pre.length cs:=by
 intro j v hv
 have hj:j<cs.length:=(List.getElem?_eq_some_iff.1 hv).1
 refine b.cell _ v ?_
 rw [List.getElem?_append_right (by omega),List.getElem?_append_left (by omega)]
 rw [show pre.length+j-pre.length=j by omega]
 exact hv
theorem Box.there {w:World} {B:Nat} {vs:List Value} {t:TypeId} (b:Box w B vs t) (o n:Nat) (h:o+n≤vs.length):w.there B o n:=fun j hj=>
 ⟨by rw [b.cell (o+j) _ (List.getElem?_eq_getElem (by omega))];rfl,b.frozen _⟩
theorem set_range (pre post:List Value):∀ (old cs:List Value),old.length=cs.length→∀ (w:World) (B:Nat) (t:TypeId),Box w B (pre++(old++post)) t→Box (w.setCells B pre.length cs) B (pre++(cs++post)) t:=by
 intro old
 induction old generalizing pre with
 | nil=>intro cs h w B t b;obtain rfl:=List.length_eq_zero_iff.1 h.symm;exact b
 | cons x r ih=>
  intro cs h w B t b
  obtain ⟨c,cr,rfl⟩:∃ c cr,cs=c::cr:=by
   cases cs with
   | nil=>simp at h
   | cons c cr=>exact ⟨c,cr,rfl⟩
  have hb:=b.set pre.length c
  rw [List.set_append_right _ _ (Nat.le_refl _),Nat.sub_self] at hb
  simp only [List.cons_append,List.set_cons_zero] at hb
  have hb':Box (w.setCell ⟨B,pre.length,none⟩ c) B ((pre++[c])++(r++post)) t:=by simpa using hb
  have:=ih (pre++[c]) cr (by simpa using h) _ B t hb'
  simp only [List.length_append,List.length_singleton] at this
  rw [World.setCells]
  simpa using this
theorem range_fill {w:World} {B:Nat} {t:TypeId} (pre old cs post:List Value) (b:Box w B (pre++(old++post)) t) (h:old.length=cs.length):
  ∃ W,Hid (w.setCells B pre.length cs=W)∧Box W B (pre++(cs++post)) t∧Within B (B+1) w W∧W.heap.size=w.heap.size:=by
 refine ⟨_,rfl,set_range pre post old cs h w B t b,within_setCells _ _ _ _,?_⟩
 have h1:=(within_setCells B pre.length cs w).size
 have:∀ (vs:List Value) (o:Nat) (w:World),(w.setCells B o vs).heap.size=w.heap.size:=by
  intro vs
  induction vs with
  | nil=>intro o w;rfl
  | cons v r ih=>intro o w;rw [World.setCells,ih];simp
 exact this _ _ _
theorem oneS (ss:List SlotA):∀ v∈cellsS ss,v.oneCell'=true:=by
 intro v hv
 obtain ⟨s,_,hs⟩:=List.mem_flatMap.1 hv
 simp only [SlotA.cells,List.mem_cons,List.not_mem_nil,or_false] at hs
 rcases hs with rfl | rfl | rfl | rfl<;>rfl
structure PageA where
 lsn:Int
 ss:List SlotA
def PageA.cells (p:PageA):List Value:=.int .i64 p.lsn::cellsS p.ss
theorem oneP (p:PageA):∀ v∈p.cells,v.oneCell'=true:=by
 intro v hv
 rcases List.mem_cons.1 hv with rfl | h
 ·rfl
 ·exact oneS _ v h
theorem page_len (p:PageA) (h:p.ss.length=4):p.cells.length=17:=by simp [PageA.cells,cellsS_len,h]
end Go.Proofs.YtcoeamamaifoeaaGreatDoor
namespace Go.Proofs.YtcoeamamaifoeaaGreatDoor
def inB (x l m:Int):Bool:=decide (l≤x∧x≤m)
end Go.Proofs.YtcoeamamaifoeaaGreatDoor
namespace Go.Proofs.YtcoeamamaifoeaaGreatDoor
open Go.RowKit
theorem l1In_any (x l m:Int) (w:World):Calls Tryz.prog 52 #[.int .i64 x,.int .i64 l,.int .i64 m] w fun e w'=>e=.returned (.bool (inB x l m))∧w'=w:=by
 by_cases h1:l≤x
 ·by_cases h2:x≤m
  ·have HB:Hid (inB x l m=true):=by simp [Hid,inB,h1,h2]
   go_enter Tryz.func52,Tryz.ntmps52
   go_wp2
   go_ret
   exact ⟨ret_bool HB.out.symm,rfl⟩
  ·have HB:Hid (inB x l m=false):=by simp [Hid,inB,h2]
   go_enter Tryz.func52,Tryz.ntmps52
   go_wp2
   go_ret
   exact ⟨ret_bool HB.out.symm,rfl⟩
 ·have HB:Hid (inB x l m=false):=by simp [Hid,inB,h1]
  go_enter Tryz.func52,Tryz.ntmps52
  go_wp2
  go_ret
  exact ⟨ret_bool HB.out.symm,rfl⟩
def okB (o:ObjV):Bool:=inB o.kind 1 99 && (decide (o.ints.length≤5) && (decide (o.refs.length≤5) && (o.ints.all (fun z=>inB z (-1000000) 1000000) && o.refs.all (fun z=>inB z 0 31))))
theorem okB_kind {o:ObjV} (h:inB o.kind 1 99=false):okB o=false:=by simp [okB,h]
theorem okB_ints {o:ObjV} (h:¬ o.ints.length≤5):okB o=false:=by simp [okB,h]
theorem okB_refs {o:ObjV} (h:¬ o.refs.length≤5):okB o=false:=by simp [okB,h]
theorem okB_int {o:ObjV} (j:Nat) (hj:j<o.ints.length) (h:inB (o.ints.getD j 0) (-1000000) 1000000=false):okB o=false:=by
 have:(o.ints.all (fun z=>inB z (-1000000) 1000000))=false:=by
  rw [List.all_eq_false]
  exact ⟨o.ints.getD j 0,by simp [List.getD,hj],by rw [h];decide⟩
 simp [okB,this]
theorem okB_ref {o:ObjV} (j:Nat) (hj:j<o.refs.length) (h:inB (o.refs.getD j 0) 0 31=false):okB o=false:=by
 have:(o.refs.all (fun z=>inB z 0 31))=false:=by
  rw [List.all_eq_false]
  exact ⟨o.refs.getD j 0,by simp [List.getD,hj],by rw [h];decide⟩
 simp [okB,this]
theorem okB_true {o:ObjV} (h1:inB o.kind 1 99=true) (h2:o.ints.length≤5) (h3:o.refs.length≤5) (h4:∀ j,j<o.ints.length→inB (o.ints.getD j 0) (-1000000) 1000000=true) (h5:∀ j,j<o.refs.length→inB (o.refs.getD j 0) 0 31=true):okB o=true:=by
 have a4:(o.ints.all (fun z=>inB z (-1000000) 1000000))=true:=by
  rw [List.all_eq_true]
  intro z hz
  obtain ⟨j,hj,rfl⟩:=List.getElem_of_mem hz
  have:=h4 j hj
  simpa [List.getD,hj] using this
 have a5:(o.refs.all (fun z=>inB z 0 31))=true:=by
  rw [List.all_eq_true]
  intro z hz
  obtain ⟨j,hj,rfl⟩:=List.getElem_of_mem hz
  have:=h5 j hj
  simpa [List.getD,hj] using this
 simp [okB,h1,h2,h3,a4,a5]
theorem specObjOk_any (o:ObjV) (aI:Option Addr) (cI:Nat) (aR:Option Addr) (cR:Nat) (w:World) (hr:ReadsO w aI cI aR cR o) (hnI:o.ints.length≤140737488355328) (hnR:o.refs.length≤140737488355328):
  Calls Tryz.prog 115 #[.agg #[.int .i64 o.kind,.slice aI o.ints.length cI,.slice aR o.refs.length cR]] w fun e w'=>e=.returned (.bool (okB o))∧Below w.heap.size w w':=by
 obtain ⟨k,ints,refs⟩:=o
 obtain ⟨hI,hR,_,_⟩:=hr
 simp only at*
 obtain ⟨W,hW,b0,hbW,hsW⟩:=boxes1 w [.int .i64 k,.slice aI ints.length cI,.slice aR refs.length cR] 42
 have hI':=hI.below hbW
 have hR':=hR.below hbW
 have x1:=b0.cell 1 _ rfl
 have x2:=b0.cell 2 _ rfl
 cases hk:inB k 1 99 with
 | false=>
  have HK:Hid (_=_):=hk
  have HE:Hid (okB ⟨k,ints,refs⟩=false):=okB_kind hk
  clear hk
  go_enter Tryz.func115,Tryz.ntmps115
  go_wp2_with fail
  rw [hW.out]
  refine (l1In_any _ _ _ _).mono ?_
  rintro e w' ⟨rfl,rfl⟩
  rw [HK.out]
  go_wp2
  go_ret
  exact ⟨ret_bool HE.out.symm,hbW⟩
 | true=>
 have HK:Hid (_=_):=hk
 clear hk
 by_cases h5:ints.length≤5
 case neg=>
  have HE:Hid (okB ⟨k,ints,refs⟩=false):=okB_ints h5
  go_enter Tryz.func115,Tryz.ntmps115
  go_wp2_with fail
  rw [hW.out]
  refine (l1In_any _ _ _ _).mono ?_
  rintro e w' ⟨rfl,rfl⟩
  rw [HK.out]
  go_wp2
  go_ret
  exact ⟨ret_bool HE.out.symm,hbW⟩
 case pos=>
 by_cases h6:refs.length≤5
 case neg=>
  have HE:Hid (okB ⟨k,ints,refs⟩=false):=okB_refs h6
  go_enter Tryz.func115,Tryz.ntmps115
  go_wp2_with fail
  rw [hW.out]
  refine (l1In_any _ _ _ _).mono ?_
  rintro e w' ⟨rfl,rfl⟩
  rw [HK.out]
  go_wp2
  go_ret
  exact ⟨ret_bool HE.out.symm,hbW⟩
 case pos=>
 go_enter Tryz.func115,Tryz.ntmps115
 go_wp2_with fail
 rw [hW.out]
 refine (l1In_any _ _ _ _).mono ?_
 rintro e w' ⟨rfl,rfl⟩
 rw [HK.out]
 go_wp2
 go_loop [3] (fun i=>∃ j:Nat,j≤ints.length∧i=.int .i64 j∧Hid (∀ t,t<j→inB (ints.getD t 0) (-1000000) 1000000=true)) (fun i=>ints.length-(RowKit.intOf i).toNat)
 case atStart=>exact ⟨0,by omega,rfl,fun t ht=>by omega⟩
 case round=>
  obtain ⟨j,hj,rfl,hall⟩:=hrel
  by_cases hlt:j<ints.length
  ·rcases hI'.cases with rfl | ⟨b,off,rfl,hpos,hcell⟩
   ·simp at hlt
   have hc:=hcell j hlt
   clear hcell
   cases hz:inB (ints.getD j 0) (-1000000) 1000000 with
   | false=>
    have HE:Hid (okB ⟨k,ints,refs⟩=false):=okB_int j hlt hz
    have HZ:Hid (_=_):=hz
    clear hz
    generalize ints.getD j 0=z at*
    go_wp2_with fail
    refine (l1In_any _ _ _ _).mono ?_
    rintro e w' ⟨rfl,rfl⟩
    rw [HZ.out]
    go_wp2
    go_ret
    exact ⟨ret_bool HE.out.symm,hbW⟩
   | true=>
    have HN:Hid (∀ t,t<j+1→inB (ints.getD t 0) (-1000000) 1000000=true):=by
     intro t ht
     by_cases e:t=j
     ·rw [e];exact hz
     ·exact hall.out t (by omega)
    have HZ:Hid (_=_):=hz
    clear hz
    generalize ints.getD j 0=z at*
    go_wp2_with fail
    refine (l1In_any _ _ _ _).mono ?_
    rintro e w' ⟨rfl,rfl⟩
    rw [HZ.out]
    go_wp2
    go_round
    case rel=>exact ⟨j+1,by omega,by go_num,HN⟩
    case measure=>simp [RowKit.intOf];omega
  ·have HALL:Hid (∀ t,t<ints.length→inB (ints.getD t 0) (-1000000) 1000000=true):=fun t ht=>hall.out t (by omega)
   go_wp2
   go_loop [4] (fun i=>∃ j:Nat,j≤refs.length∧i=.int .i64 j∧Hid (∀ t,t<j→inB (refs.getD t 0) 0 31=true)) (fun i=>refs.length-(RowKit.intOf i).toNat)
   case atStart=>exact ⟨0,by omega,rfl,fun t ht=>by omega⟩
   case round=>
    obtain ⟨i,hi,rfl,hall2⟩:=hrel
    by_cases hlt2:i<refs.length
    ·rcases hR'.cases with rfl | ⟨b,off,rfl,hpos,hcell⟩
     ·simp at hlt2
     have hc:=hcell i hlt2
     clear hcell
     cases hz:inB (refs.getD i 0) 0 31 with
     | false=>
      have HE:Hid (okB ⟨k,ints,refs⟩=false):=okB_ref i hlt2 hz
      have HZ:Hid (_=_):=hz
      clear hz
      generalize refs.getD i 0=z at*
      go_wp2_with fail
      refine (l1In_any _ _ _ _).mono ?_
      rintro e w' ⟨rfl,rfl⟩
      rw [HZ.out]
      go_wp2
      go_ret
      exact ⟨ret_bool HE.out.symm,hbW⟩
     | true=>
      have HN:Hid (∀ t,t<i+1→inB (refs.getD t 0) 0 31=true):=by
       intro t ht
       by_cases e:t=i
       ·rw [e];exact hz
       ·exact hall2.out t (by omega)
      have HZ:Hid (_=_):=hz
      clear hz
      generalize refs.getD i 0=z at*
      go_wp2_with fail
      refine (l1In_any _ _ _ _).mono ?_
      rintro e w' ⟨rfl,rfl⟩
      rw [HZ.out]
      go_wp2
      go_round
      case rel=>exact ⟨i+1,by omega,by go_num,HN⟩
      case measure=>simp [RowKit.intOf];omega
    ·have HE:Hid (okB ⟨k,ints,refs⟩=true):=okB_true HK.out h5 h6 HALL.out (fun t ht=>hall2.out t (by simp only at ht;omega))
     go_wp2
     go_ret
     exact ⟨ret_bool HE.out.symm,hbW⟩
end Go.Proofs.YtcoeamamaifoeaaGreatDoor
namespace Go.Proofs.YtcoeamamaifoeaaGreatDoor
def groupsN:Nat→Nat→List Int
 | 0,m=>[(m:Int)]
 | f+1,m=>if m<128 then [(m:Int)] else ((m % 128+128:Nat):Int)::groupsN f (m / 128)
def groups (m:Nat):List Int:=groupsN 64 m
def clampI (n:Int):Int:=if n > 1000000000000 then 1000000000000 else if n < -1000000000000 then -1000000000000 else n
def zig (n:Int):Nat:=if 0≤clampI n then (2*clampI n).toNat else (-2*clampI n-1).toNat
def putOf (n:Int):List Int:=groups (zig n)
end Go.Proofs.YtcoeamamaifoeaaGreatDoor
namespace Go.Proofs.YtcoeamamaifoeaaGreatDoor
open Go.RowKit
end Go.Proofs.YtcoeamamaifoeaaGreatDoor
namespace Go.Proofs.YtcoeamamaifoeaaGreatDoor
end Go.Proofs.YtcoeamamaifoeaaGreatDoor
namespace Go.Proofs.YtcoeamamaifoeaaGreatDoor
def crcBit (x:Nat):Nat:=if x % 2=1 then (x / 2) ^^^ 3988292384 else x / 2
def crcBits:Nat→Nat→Nat
 | 0,x=>x
 | k+1,x=>crcBit (crcBits k x)
def crcByte (x:Nat) (c:Nat):Nat:=crcBits 8 (x ^^^ c)
def crcTo (zs:List Int) (k:Nat):Nat:=(zs.take k).foldl (fun x c=>crcByte x c.toNat) 4294967295
def crcOf (zs:List Int):Nat:=4294967295 ^^^ crcTo zs zs.length
end Go.Proofs.YtcoeamamaifoeaaGreatDoor
namespace Go.Proofs.YtcoeamamaifoeaaGreatDoor
open Go.RowKit
end Go.Proofs.YtcoeamamaifoeaaGreatDoor
namespace Go.Proofs.YtcoeamamaifoeaaGreatDoor
end Go.Proofs.YtcoeamamaifoeaaGreatDoor
namespace Go.Proofs.YtcoeamamaifoeaaGreatDoor
open Go.RowKit
def noO:ObjV:=⟨0,[],[]⟩
def Bytes (zs:List Int):Prop:=∀ z∈zs,0≤z∧z<256
theorem Bytes.drop {zs:List Int} (h:Bytes zs) (p:Nat):Bytes (zs.drop p):=fun z hz=>h z (List.mem_of_mem_drop hz)
def sumByte (x k:Nat):Int:=((x / 256 ^ k % 256:Nat):Int)
def fourTo (x k:Nat):List Int:=(List.range k).map (sumByte x)
def four (x:Nat):List Int:=fourTo x 4
def frameOf (zs:List Int):List Int:=(putOf zs.length++zs)++four (crcOf zs)
end Go.Proofs.YtcoeamamaifoeaaGreatDoor
namespace Go.Proofs.YtcoeamamaifoeaaGreatDoor
open Go.RowKit
end Go.Proofs.YtcoeamamaifoeaaGreatDoor