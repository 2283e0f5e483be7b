/- Several texts in one, in their order. -/
import Derived.Test.YtcoeamamaifoeaaGreatDoorPCrashx2
import Derived.Test.YtcoeamamaifoeaaGreatDoorPCrashx1
import Derived.Deep.RegionHeld3
set_option maxHeartbeats 8000000
set_option maxRecDepth 100000
namespace Go.Proofs.YtcoeamamaifoeaaGreatDoor
open Go.RowKit
def Fit (ss:List SlotA):Prop:=∀ s∈ss,s.v.o.ints.length≤1099511627776∧s.v.o.refs.length≤1099511627776
def noS:SlotV:=⟨false,noO⟩
def slotB (s:SlotV):Bool:=if s.has then okB s.o else (decide (s.o.kind=0) && (decide (s.o.ints.length=0) && decide (s.o.refs.length=0)))
def okP (n:Int) (vs:List SlotV):Bool:=vs.all slotB && inB n 0 1000000
theorem slotB_has {s:SlotV} (h:s.has=true):slotB s=okB s.o:=by unfold slotB;rw [if_pos h]
theorem fit_at {ss:List SlotA} (h:Fit ss) {k:Nat} (hk:k<ss.length):(ss.getD k zeroS).v.o.ints.length≤1099511627776∧(ss.getD k zeroS).v.o.refs.length≤1099511627776:=h _ (getD_mem hk)
theorem markSlotA4_touch (ss:List SlotA) (h4:ss.length=4) (lo hi:Nat) (k0:Int) (w:World) (ho:OwnS w lo hi ss) (hl:Fit ss) (h0:0≤k0) (hk:k0≤10995116277760) (hhi:hi≤w.heap.size):
  Calls Tryz.prog 107 #[.agg (cellsS ss).toArray,.int .i64 k0] w fun e w'=>e=.returned (.int .i64 (k0+countS ss))∧OwnS w' lo hi (markSs ss k0)∧Touch (ss.flatMap SlotA.blocks) w w':=by
 obtain ⟨W,hW,b0,hbW,hsW⟩:=boxes1 w (cellsS ss) 45
 have H4:Hid (ss.length=4):=h4
 have HB:Hid (w.heap.size∉ss.flatMap SlotA.blocks):=fun hh=>by have:=(ho.blocks_lt _ hh).2;omega
 clear hsW h4
 go_enter Tryz.func107,Tryz.ntmps107
 go_wp2_with fail
 rw [hW.out]
 clear hW
 go_loopw [1,5] (fun kk i wr=>∃ (j:Nat) (c:Nat),i=.int .i64 j∧kk=.int .i64 (k0+c)∧j≤4∧Hid (c=countS (ss.take j))∧OwnS wr lo hi (markSs (ss.take j) k0++ss.drop j)∧Touch (ss.flatMap SlotA.blocks) W wr)
  (fun _ i _=>4-(intOf i).toNat)
 case atStart=>exact ⟨0,0,rfl,by simp,by omega,rfl,by simpa [markSs] using ho.below hbW,Touch.refl _ _⟩
 case round=>
  obtain ⟨j,c,rfl,rfl,hj,hcj,hown,htr⟩:=hrel
  have b0r:=b0.touch htr HB.out
  have hc0:c≤8796093022208:=by
   have h1:=countS_le (ss.take j) 1099511627776 (fun s hs=>hl s (List.mem_of_mem_take hs))
   rw [List.length_take] at h1
   have h2:min j ss.length*(2*1099511627776)≤4*(2*1099511627776):=Nat.mul_le_mul_right _ (by omega)
   rw [hcj.out];omega
  by_cases hlt:j<4
  ·have hkl:j<ss.length:=by rw [H4.out];exact hlt
   obtain ⟨c0,c1,c2,c3,_⟩:=b0r.slot j hkl
   obtain ⟨hd,htk⟩:=take_split ss j hkl
   have hlk:=fit_at hl hkl
   rw [hd] at hown
   have HC:Hid (countS (ss.take (j+1))=countS (ss.take j)+(ss.getD j zeroS).count):=by rw [Hid,htk,countS_snoc]
   have HM:Hid (markSs (ss.take (j+1)) k0++ss.drop (j+1)=markSs (ss.take j) k0++(ss.getD j zeroS).mark (k0+countS (ss.take j))::ss.drop (j+1)):=by rw [Hid,htk,markSs_snoc];simp
   have HS:Hid (∀ k∈(ss.getD j zeroS).blocks,k∈ss.flatMap SlotA.blocks):=fun k hk=>List.mem_flatMap.2 ⟨_,getD_mem hkl,hk⟩
   have hos:(ss.getD j zeroS).own wr lo hi:=hown.each _ (by simp)
   clear hd htk
   generalize ss.getD j zeroS=s at*
   have C:=markSlot_touch s lo hi (k0+c) wr hos (by omega) hlk.1 hlk.2 (by omega)
   simp only [SlotA.cells] at C
   have hi0:(0:Int)≤(j:Int):=by omega
   have hi4:(j:Int)<4:=by omega
   go_wp2_with fail
   refine C.mono ?_
   clear C c0 c1 c2 c3
   rintro e w1 ⟨rfl,ho1,ht1⟩
   have HO:OwnS w1 lo hi (markSs (ss.take (j+1)) k0++ss.drop (j+1)):=by
    rw [HM.out,← hcj.out]
    exact hown.replace ht1 ho1 (mark_blocks _ _)
   have HT:Touch (ss.flatMap SlotA.blocks) W w1:=htr.trans (ht1.mono HS.out)
   have HCC:Hid (c+s.count=countS (ss.take (j+1))):=by rw [Hid,HC.out,hcj.out]
   clear hown ho1 ht1 hos
   go_wp2_with fail
   go_roundw
   case rel=>exact ⟨j+1,c+s.count,by go_num,by congr 1;omega,by omega,HCC,HO,HT⟩
   case measure=>simp [intOf];omega
  ·obtain rfl:j=4:=by omega
   have hkk:¬ ((4:Nat):Int)<4:=by omega
   have HE:Hid (ss.take 4=ss∧ss.drop 4=[]):=⟨List.take_of_length_le (by rw [H4.out];omega),List.drop_eq_nil_of_le (by rw [H4.out];omega)⟩
   go_wp2
   go_ret
   refine ⟨ret_int (by rw [hcj.out,HE.out.1]),?_,(Touch.of_below hbW).trans htr⟩
   rw [HE.out.1,HE.out.2,List.append_nil] at hown
   exact hown
theorem heldSlotA4_any (ss:List SlotA) (h4:ss.length=4) (lo hi:Nat) (k0:Int) (w:World) (ho:OwnS w lo hi (markSs ss k0)) (hl:Fit ss) (h0:0≤k0) (hk:k0≤10995116277760):
  Calls Tryz.prog 109 #[.agg (cellsS ss).toArray,.int .i64 k0] w fun e w'=>e=.returned (.int .i64 (k0+countS ss))∧Below w.heap.size w w':=by
 obtain ⟨W,hW,b0,hbW,hsW⟩:=boxes1 w (cellsS ss) 45
 have H4:Hid (ss.length=4):=h4
 clear hsW h4
 go_enter Tryz.func109,Tryz.ntmps109
 go_wp2_with fail
 rw [hW.out]
 clear hW
 go_loopw [1,5] (fun kk i wr=>∃ (j:Nat) (c:Nat),i=.int .i64 j∧kk=.int .i64 (k0+c)∧j≤4∧Hid (c=countS (ss.take j))∧Below W.heap.size W wr)
  (fun _ i _=>4-(intOf i).toNat)
 case atStart=>exact ⟨0,0,rfl,by simp,by omega,rfl,Below.refl _ _⟩
 case round=>
  obtain ⟨j,c,rfl,rfl,hj,hcj,hbl⟩:=hrel
  have b0r:=b0.below hbl b0.lt
  have hbT:Below w.heap.size w wr:=hbW.trans (hbl.mono hbW.size)
  have hc0:c≤8796093022208:=by
   have h1:=countS_le (ss.take j) 1099511627776 (fun s hs=>hl s (List.mem_of_mem_take hs))
   rw [List.length_take] at h1
   have h2:min j ss.length*(2*1099511627776)≤4*(2*1099511627776):=Nat.mul_le_mul_right _ (by omega)
   rw [hcj.out];omega
  by_cases hlt:j<4
  ·have hkl:j<ss.length:=by rw [H4.out];exact hlt
   obtain ⟨c0,c1,c2,c3,_⟩:=b0r.slot j hkl
   obtain ⟨hd,htk⟩:=take_split ss j hkl
   have hlk:=fit_at hl hkl
   have HC:Hid (countS (ss.take (j+1))=countS (ss.take j)+(ss.getD j zeroS).count):=by rw [Hid,htk,countS_snoc]
   have hos:((ss.getD j zeroS).mark (k0+c)).own wr lo hi:=by
    have:=ho.each _ (markSs_at ss k0 j hkl)
    rw [← hcj.out] at this
    exact OwnO.below this hbT
   clear hd htk
   generalize ss.getD j zeroS=s at*
   have C:=heldSlot_any s lo hi (k0+c) wr hos (by omega) hlk.1 hlk.2 (by omega)
   simp only [SlotA.cells] at C
   have hi0:(0:Int)≤(j:Int):=by omega
   have hi4:(j:Int)<4:=by omega
   go_wp2_with fail
   refine C.mono ?_
   clear C c0 c1 c2 c3
   rintro e w1 ⟨rfl,hb1⟩
   have hnn:¬ (k0+(c:Int)+(s.count:Int))<0:=by omega
   have HCC:Hid (c+s.count=countS (ss.take (j+1))):=by rw [Hid,HC.out,hcj.out]
   clear hos
   go_wp2_with fail
   go_roundw
   case rel=>exact ⟨j+1,c+s.count,by go_num,by congr 1;omega,by omega,HCC,hbl.trans (hb1.mono hbl.size)⟩
   case measure=>simp [intOf];omega
  ·obtain rfl:j=4:=by omega
   have hkk:¬ ((4:Nat):Int)<4:=by omega
   have HE:Hid (ss.take 4=ss):=List.take_of_length_le (by rw [H4.out];omega)
   go_wp2
   go_ret
   exact ⟨ret_int (by rw [hcj.out,HE.out]),hbT⟩
theorem markPage_touch (p:PageA) (h4:p.ss.length=4) (lo hi:Nat) (k0:Int) (w:World) (ho:OwnS w lo hi p.ss) (hl:Fit p.ss) (h0:0≤k0) (hk:k0≤10995116277760) (hhi:hi≤w.heap.size):
  Calls Tryz.prog 73 #[.agg p.cells.toArray,.int .i64 k0] w fun e w'=>e=.returned (.int .i64 (k0+countS p.ss))∧OwnS w' lo hi (markSs p.ss k0)∧Touch (p.ss.flatMap SlotA.blocks) w w':=by
 obtain ⟨n,ss⟩:=p
 simp only [PageA.cells] at*
 obtain ⟨W,hW,b0,hbW,hsW⟩:=boxes1 w (.int .i64 n::cellsS ss) 47
 have hrg0:W.rangeAt w.heap.size 1 (cellsS ss):=Box.range [.int .i64 n] (cellsS ss) [] (by simpa using b0)
 have hi0:(Tryz.prog.info? 45).map (·.size)=some (cellsS ss).length:=by rw [cellsS_len,h4];kernel_rfl
 have hs0:=hbW.size
 go_enter Tryz.func73,Tryz.ntmps73
 go_wp2_with (first | (guard_target=wpList _ _ _ (Oper.mk (some 6) _ _ _ _ _::_) _ _;refine wpList_load_mid rfl 45 (.tmp 5) rfl w.heap.size 1 rfl (cellsS ss) _ (by rw [hW.out];exact hrg0) Tryz.underlying45 rfl hi0 ?_) | fail)
 rw [hW.out]
 clear hW hrg0 hi0 hsW
 refine (markSlotA4_touch ss h4 lo hi k0 W (ho.below hbW) hl h0 hk (by omega)).mono ?_
 rintro e w1 ⟨rfl,ho1,ht1⟩
 go_wp2
 go_ret
 exact ⟨rfl,ho1,(Touch.of_below hbW).trans ht1⟩
theorem heldPage_any (p:PageA) (h4:p.ss.length=4) (lo hi:Nat) (k0:Int) (w:World) (ho:OwnS w lo hi (markSs p.ss k0)) (hl:Fit p.ss) (h0:0≤k0) (hk:k0≤10995116277760):
  Calls Tryz.prog 76 #[.agg p.cells.toArray,.int .i64 k0] w fun e w'=>e=.returned (.int .i64 (k0+countS p.ss))∧Below w.heap.size w w':=by
 obtain ⟨n,ss⟩:=p
 simp only [PageA.cells] at*
 obtain ⟨W,hW,b0,hbW,hsW⟩:=boxes1 w (.int .i64 n::cellsS ss) 47
 have hrg0:W.rangeAt w.heap.size 1 (cellsS ss):=Box.range [.int .i64 n] (cellsS ss) [] (by simpa using b0)
 have hi0:(Tryz.prog.info? 45).map (·.size)=some (cellsS ss).length:=by rw [cellsS_len,h4];kernel_rfl
 go_enter Tryz.func76,Tryz.ntmps76
 go_wp2_with (first | (guard_target=wpList _ _ _ (Oper.mk (some 6) _ _ _ _ _::_) _ _;refine wpList_load_mid rfl 45 (.tmp 5) rfl w.heap.size 1 rfl (cellsS ss) _ (by rw [hW.out];exact hrg0) Tryz.underlying45 rfl hi0 ?_) | fail)
 rw [hW.out]
 clear hW hrg0 hi0 hsW
 refine (heldSlotA4_any ss h4 lo hi k0 W (ho.below hbW) hl h0 hk).mono ?_
 rintro e w1 ⟨rfl,hb1⟩
 have hnn:¬ (k0+(countS ss:Int))<0:=by omega
 go_wp2
 go_ret
 exact ⟨rfl,hbW.trans (hb1.mono hbW.size)⟩
theorem eqSlot_same (s t:SlotA) (he:t.v=s.v) (w:World) (hs:s.reads w) (ht:t.reads w) (hlI:s.v.o.ints.length≤1099511627776) (hlR:s.v.o.refs.length≤1099511627776):
  Calls Tryz.prog 131 #[.agg s.cells.toArray,.agg t.cells.toArray] w fun e w'=>e=.returned (.bool true)∧Below w.heap.size w w':=by
 obtain ⟨v,aI,cI,aR,cR⟩:=s
 obtain ⟨v',bI,dI,bR,dR⟩:=t
 simp only at he
 subst he
 obtain ⟨h,⟨k,ints,refs⟩⟩:=v'
 simp only [SlotA.cells,SlotA.reads] at*
 obtain ⟨W,hW,b0,b1,hbW,hsW⟩:=boxes2 w [.bool h,.int .i64 k,.slice aI ints.length cI,.slice aR refs.length cR] [.bool h,.int .i64 k,.slice bI ints.length dI,.slice bR refs.length dR] 44 44
 go_enter Tryz.func131,Tryz.ntmps131
 go_wp2_with fail
 rw [hW.out]
 clear hW
 refine (eqObj_same ⟨k,ints,refs⟩ aI cI aR cR bI dI bR dR W (hs.below hbW) (ht.below hbW) hlI hlR).mono ?_
 rintro e w1 ⟨rfl,hb1⟩
 go_wp2
 go_ret
 exact ⟨rfl,hbW.trans (hb1.mono hbW.size)⟩
theorem same_at {ss ts:List SlotA} (h:ts.map (·.v)=ss.map (·.v)) (k:Nat):(ts.getD k zeroS).v=(ss.getD k zeroS).v:=by
 have:=congrArg (fun l=>l[k]?) h
 simp only [List.getElem?_map] at this
 simp only [List.getD]
 cases h1:ts[k]? <;>cases h2:ss[k]? <;>simp_all
theorem eqSlotA4_same (ss ts:List SlotA) (h4:ss.length=4) (he:ts.map (·.v)=ss.map (·.v)) (w:World) (hs:ReadsS w ss) (ht:ReadsS w ts) (hl:∀ s∈ss,s.v.o.ints.length≤1099511627776∧s.v.o.refs.length≤1099511627776):
  Calls Tryz.prog 104 #[.agg (cellsS ss).toArray,.agg (cellsS ts).toArray] w fun e w'=>e=.returned (.bool true)∧Below w.heap.size w w':=by
 have htl:ts.length=4:=by have:=congrArg List.length he;simp only [List.length_map] at this;omega
 obtain ⟨W,hW,b0,b1,hbW,hsW⟩:=boxes2 w (cellsS ss) (cellsS ts) 45 45
 have H4:Hid (ss.length=4∧ts.length=4):=⟨h4,htl⟩
 have HE:Hid _:=he
 clear hsW h4 htl he
 go_enter Tryz.func104,Tryz.ntmps104
 go_wp2_with fail
 rw [hW.out]
 clear hW
 go_loopw [5] (fun i wr=>∃ (k:Nat),i=.int .i64 k∧k≤4∧Below W.heap.size W wr)
  (fun i _=>4-(RowKit.intOf i).toNat)
 case atStart=>exact ⟨0,rfl,by omega,Below.refl _ _⟩
 case round=>
  obtain ⟨k,rfl,hk,hbl⟩:=hrel
  by_cases hlt:k<4
  ·have hkl:k<ss.length:=by rw [H4.out.1];exact hlt
   have hkt:k<ts.length:=by rw [H4.out.2];exact hlt
   have hi0:(0:Int)≤(k:Int):=by omega
   have hi4:(k:Int)<4:=by omega
   have HC:Hid (∀ w'',Below W.heap.size W w''→_∧_):=fun w'' hh=>⟨(b0.below hh b0.lt).slot k hkl,(b1.below hh b1.lt).slot k hkt⟩
   have hsk:=fun w'' (hh:Below W.heap.size W w'')=>(hs _ (getD_mem hkl)).below (hbW.trans (hh.mono hbW.size))
   have htk:=fun w'' (hh:Below W.heap.size W w'')=>(ht _ (getD_mem hkt)).below (hbW.trans (hh.mono hbW.size))
   have hlk:=hl _ (getD_mem hkl)
   have hv:=same_at HE.out k
   generalize ss.getD k zeroS=s at*
   generalize ts.getD k zeroS=t at*
   have HS:Hid (∀ w1,Below W.heap.size W w1→(w1.cell? ⟨w.heap.size,k*4,none⟩=some (.bool s.v.has)∧w1.cell? ⟨w.heap.size,k*4+1,none⟩=some (.int .i64 s.v.o.kind)∧w1.cell? ⟨w.heap.size,k*4+2,none⟩=some (.slice s.aI s.v.o.ints.length s.cI)∧w1.cell? ⟨w.heap.size,k*4+3,none⟩=some (.slice s.aR s.v.o.refs.length s.cR))∧(w1.cell? ⟨(w.heap.size+1),k*4,none⟩=some (.bool t.v.has)∧w1.cell? ⟨(w.heap.size+1),k*4+1,none⟩=some (.int .i64 t.v.o.kind)∧w1.cell? ⟨(w.heap.size+1),k*4+2,none⟩=some (.slice t.aI t.v.o.ints.length t.cI)∧w1.cell? ⟨(w.heap.size+1),k*4+3,none⟩=some (.slice t.aR t.v.o.refs.length t.cR))):=fun w1 hh=>by
    obtain ⟨⟨c0,c1,c2,c3,_⟩,⟨d0,d1,d2,d3,_⟩⟩:=HC.out w1 hh
    exact ⟨⟨c0,c1,c2,c3⟩,d0,d1,d2,d3⟩
   have HR:Hid (_∧_∧_):=⟨hsk,htk,hlk⟩
   have hh:=HS.out wr hbl
   have HV:Hid (t.v=s.v):=hv
   clear HC hsk htk hlk hv
   go_wp2_with fail
   go_region_held3 (fun w1=>(w1.cell? ⟨w.heap.size,k*4,none⟩=some (.bool s.v.has)∧w1.cell? ⟨w.heap.size,k*4+1,none⟩=some (.int .i64 s.v.o.kind)∧w1.cell? ⟨w.heap.size,k*4+2,none⟩=some (.slice s.aI s.v.o.ints.length s.cI)∧w1.cell? ⟨w.heap.size,k*4+3,none⟩=some (.slice s.aR s.v.o.refs.length s.cR))∧(w1.cell? ⟨(w.heap.size+1),k*4,none⟩=some (.bool t.v.has)∧w1.cell? ⟨(w.heap.size+1),k*4+1,none⟩=some (.int .i64 t.v.o.kind)∧w1.cell? ⟨(w.heap.size+1),k*4+2,none⟩=some (.slice t.aI t.v.o.ints.length t.cI)∧w1.cell? ⟨(w.heap.size+1),k*4+3,none⟩=some (.slice t.aR t.v.o.refs.length t.cR)))
    (first | exact HS.out _ hw2 | go_keep | fail)
    ((first | (go_at_call 131;refine (eqSlot_same s t HV.out _ (HR.out.1 _ hbl.drew) (HR.out.2.1 _ hbl.drew) HR.out.2.2.1 HR.out.2.2.2).mono ?_;rintro e w2 ⟨rfl,hb2⟩;have hw2:Below W.heap.size W w2:=(hbl.drew).trans (hb2.mono hbl.size)) | fail))
   all_goals
    go_wp2_with fail
    go_roundw
    case rel=>exact ⟨k+1,by go_num,by omega,hw2⟩
    case measure=>simp [RowKit.intOf];omega
  ·have hkk:¬ (k:Int)<4:=by omega
   go_wp2
   go_ret
   exact ⟨rfl,hbW.trans (hbl.mono hbW.size)⟩
theorem eqPage_same (n:Int) (ss ts:List SlotA) (h4:ss.length=4) (he:ts.map (·.v)=ss.map (·.v)) (w:World) (hs:ReadsS w ss) (ht:ReadsS w ts) (hl:∀ s∈ss,s.v.o.ints.length≤1099511627776∧s.v.o.refs.length≤1099511627776):
  Calls Tryz.prog 68 #[.agg (PageA.cells ⟨n,ss⟩).toArray,.agg (PageA.cells ⟨n,ts⟩).toArray] w fun e w'=>e=.returned (.bool true)∧Below w.heap.size w w':=by
 have htl:ts.length=4:=by have:=congrArg List.length he;simp only [List.length_map] at this;omega
 simp only [PageA.cells]
 obtain ⟨W,hW,b0,b1,hbW,hsW⟩:=boxes2 w (.int .i64 n::cellsS ss) (.int .i64 n::cellsS ts) 47 47
 have hrg0:W.rangeAt w.heap.size 1 (cellsS ss):=Box.range [.int .i64 n] (cellsS ss) [] (by simpa using b0)
 have hrg1:W.rangeAt (w.heap.size+1) 1 (cellsS ts):=Box.range [.int .i64 n] (cellsS ts) [] (by simpa using b1)
 have hi0:(Tryz.prog.info? 45).map (·.size)=some (cellsS ss).length:=by rw [cellsS_len,h4];kernel_rfl
 have hi1:(Tryz.prog.info? 45).map (·.size)=some (cellsS ts).length:=by rw [cellsS_len,htl];kernel_rfl
 have HI:Hid (_∧_):=⟨hi0,hi1⟩
 have HR:Hid (_∧_):=⟨hrg0,hrg1⟩
 clear hi0 hi1 hrg0 hrg1 hsW htl
 go_enter Tryz.func68,Tryz.ntmps68
 go_wp2_with (first | (guard_target=wpList _ _ _ (Oper.mk (some 11) _ _ _ _ _::_) _ _;refine wpList_load_mid rfl 45 (.tmp 10) rfl w.heap.size 1 rfl (cellsS ss) _ (by rw [hW.out];exact HR.out.1) Tryz.underlying45 rfl HI.out.1 ?_) | (guard_target=wpList _ _ _ (Oper.mk (some 13) _ _ _ _ _::_) _ _;refine wpList_load_mid rfl 45 (.tmp 12) rfl (w.heap.size+1) 1 rfl (cellsS ts) _ (by rw [hW.out];exact HR.out.2) Tryz.underlying45 rfl HI.out.2 ?_) | fail)
 rw [hW.out]
 clear hW
 refine (eqSlotA4_same ss ts h4 he W (hs.below hbW) (ht.below hbW) hl).mono ?_
 rintro e w1 ⟨rfl,hb1⟩
 go_wp2
 go_ret
 exact ⟨rfl,hbW.trans (hb1.mono hbW.size)⟩
structure LiveV where
 tx:Int
 last:Int
 aborts:Bool
def LiveV.cells (l:LiveV):List Value:=[.int .i64 l.tx,.int .i64 l.last,.bool l.aborts]
def zeroL:LiveV:=⟨0,0,false⟩
def cellsL (ls:List LiveV):List Value:=ls.flatMap LiveV.cells
theorem cellsL_len (ls:List LiveV):(cellsL ls).length=ls.length*3:=by
 induction ls with
 | nil=>rfl
 | cons s r ih=>simp only [cellsL,List.flatMap_cons,List.length_append,LiveV.cells,List.length_cons,List.length_nil] at *;omega
theorem cellsL_app (a b:List LiveV):cellsL (a++b)=cellsL a++cellsL b:=by simp [cellsL]
theorem cellsL_at (ls:List LiveV) (k j:Nat) (hk:k<ls.length) (hj:j<3):(cellsL ls)[k*3+j]? =(ls.getD k zeroL).cells[j]? :=by
 induction ls generalizing k with
 | nil=>simp at hk
 | cons s r ih=>
  have e:cellsL (s::r)=s.cells++cellsL r:=by simp [cellsL]
  have l3:s.cells.length=3:=rfl
  rw [e]
  cases k with
  | zero=>rw [List.getElem?_append_left (by rw [l3];omega)];simp
  | succ k=>
   rw [List.getElem?_append_right (by rw [l3];omega),l3]
   have:=ih k (by simpa using hk)
   rw [show (k+1)*3+j-3=k*3+j by omega,this]
   simp
theorem cellsL_set (ls:List LiveV) (k:Nat) (hk:k<ls.length) (t:LiveV):
  (((cellsL ls).set (k*3) (.int .i64 t.tx)).set (k*3+1) (.int .i64 t.last)).set (k*3+2) (.bool t.aborts)=cellsL (ls.set k t):=by
 induction ls generalizing k with
 | nil=>simp at hk
 | cons s r ih=>
  cases k with
  | zero=>simp [cellsL,LiveV.cells]
  | succ k=>
   have:=ih k (by simpa using hk)
   have e2:∀ x,cellsL (s::x)=s.cells++cellsL x:=fun x=>by simp [cellsL]
   have l3:s.cells.length=3:=rfl
   rw [e2,List.set_append_right _ _ (by rw [l3];omega),List.set_append_right _ _ (by rw [l3];omega),List.set_append_right _ _ (by rw [l3];omega),l3,show (k+1)*3-3=k*3 by omega,show (k+1)*3+1-3=k*3+1 by omega,show (k+1)*3+2-3=k*3+2 by omega,this,List.set_cons_succ,e2]
def ReadsL (w:World) (a:Option Addr) (ls:List LiveV):Prop:=ls≠[]→∃ b off,a=some ⟨b,off,none⟩∧∀ k,k<ls.length→w.cell? ⟨b,off+k*3,none⟩=some (.int .i64 (ls.getD k zeroL).tx)∧w.cell? ⟨b,off+k*3+1,none⟩=some (.int .i64 (ls.getD k zeroL).last)∧w.cell? ⟨b,off+k*3+2,none⟩=some (.bool (ls.getD k zeroL).aborts)
theorem ReadsL.nil (w:World) (a:Option Addr):ReadsL w a []:=fun h=>absurd rfl h
theorem ReadsL.below {w w':World} {a:Option Addr} {ls:List LiveV} (h:ReadsL w a ls) (hb:Below w.heap.size w w'):ReadsL w' a ls:=by
 intro hne
 obtain ⟨b,off,ha,hc⟩:=h hne
 refine ⟨b,off,ha,fun k hk=>?_⟩
 obtain ⟨h0,h1,h2⟩:=hc k hk
 have hlt:=block_lt h0
 exact ⟨by rw [hb.cell (p:=⟨b,off+k*3,none⟩) hlt];exact h0,by rw [hb.cell (p:=⟨b,off+k*3+1,none⟩) hlt];exact h1,by rw [hb.cell (p:=⟨b,off+k*3+2,none⟩) hlt];exact h2⟩
theorem ReadsL.cases {w:World} {a:Option Addr} {ls:List LiveV} (h:ReadsL w a ls):ls=[]∨∃ b off,a=some ⟨b,off,none⟩∧0<ls.length∧∀ k,k<ls.length→w.cell? ⟨b,off+k*3,none⟩=some (.int .i64 (ls.getD k zeroL).tx)∧w.cell? ⟨b,off+k*3+1,none⟩=some (.int .i64 (ls.getD k zeroL).last)∧w.cell? ⟨b,off+k*3+2,none⟩=some (.bool (ls.getD k zeroL).aborts):=by
 by_cases e:ls=[]
 ·exact .inl e
 ·obtain ⟨b,off,ha,hc⟩:=h e
  exact .inr ⟨b,off,ha,List.length_pos_iff.2 e,hc⟩
def OwnL (w:World) (lo hi:Nat) (a:Option Addr) (c:Nat) (ls:List LiveV):Prop:=
 w.ownsRow lo 109 3 (.slice a ls.length c) ls.length (cellsL ls)∧hi≤w.heap.size∧∀ k,(Value.slice a ls.length c).ownBlock=some k→k<hi
theorem OwnL.lt {w:World} {lo hi:Nat} {a:Option Addr} {c:Nat} {ls:List LiveV} (h:OwnL w lo hi a c ls):∀ k,(Value.slice a ls.length c).ownBlock=some k→lo≤k∧k<hi:=fun k hk=>⟨(h.1.lt k hk).1,h.2.2 k hk⟩
theorem OwnL.touch {w w':World} {lo hi:Nat} {a:Option Addr} {c:Nat} {ls:List LiveV} {bl:List Nat} (h:OwnL w lo hi a c ls) (ht:Touch bl w w') (hd:∀ k,(Value.slice a ls.length c).ownBlock=some k→k∉bl):OwnL w' lo hi a c ls:=
 ⟨ownsRow_block h.1 (fun k hk=>ht.block k (h.1.lt k hk).2 (hd k hk)),Nat.le_trans h.2.1 ht.size,h.2.2⟩
theorem OwnL.within {w w':World} {lo hi l r:Nat} {a:Option Addr} {c:Nat} {ls:List LiveV} (h:OwnL w lo hi a c ls) (hw:Within l r w w') (hd:hi≤l∨r≤lo):OwnL w' lo hi a c ls:=
 ⟨ownsRow_block h.1 (fun k hk=>hw.block k (by have:=h.2.2 k hk;have:=h.2.1;omega) (by have:=h.lt k hk;omega)),Nat.le_trans h.2.1 hw.size,h.2.2⟩
theorem OwnL.below {w w':World} {lo hi:Nat} {a:Option Addr} {c:Nat} {ls:List LiveV} (h:OwnL w lo hi a c ls) (hb:Below w.heap.size w w'):OwnL w' lo hi a c ls:=
 h.within (Within.of_below (lo:=w.heap.size) (hi:=w.heap.size) hb) (.inl h.2.1)
theorem OwnL.widen {w:World} {lo hi lo' hi':Nat} {a:Option Addr} {c:Nat} {ls:List LiveV} (h:OwnL w lo hi a c ls) (h1:lo'≤lo) (h2:hi≤hi') (h3:hi'≤w.heap.size):OwnL w lo' hi' a c ls:=
 ⟨ownsRow_base h.1 (fun k hk=>by have:=h.lt k hk;omega),h3,fun k hk=>by have:=h.lt k hk;omega⟩
theorem ownL_nil (w:World) (lo hi:Nat) (h:hi≤w.heap.size):OwnL w lo hi none 0 []:=⟨⟨by simp [cellsL],.inl ⟨rfl,rfl⟩⟩,h,fun k hk=>by cases hk⟩
theorem OwnL.nocap {w:World} {lo hi:Nat} {a:Option Addr} {c:Nat} {ls:List LiveV} (h:OwnL w lo hi a c ls):a=none→c=0:=by
 intro ha
 rcases h.1.2 with ⟨hv,_⟩ | ⟨g,cap,cur,hv,_⟩
 ·simp only [Value.slice.injEq] at hv;exact hv.2.2
 ·simp [ha] at hv
theorem row_live {w:World} {base g n cap:Nat} {ls:List LiveV} (h:w.ownsRow base 109 3 (.slice (some ⟨g,0,none⟩) n cap) n (cellsL ls)) (hn:ls.length=n) (k:Nat) (hk:k<n):
  w.cell? ⟨g,k*3,none⟩=some (.int .i64 (ls.getD k zeroL).tx)∧w.cell? ⟨g,k*3+1,none⟩=some (.int .i64 (ls.getD k zeroL).last)∧w.cell? ⟨g,k*3+2,none⟩=some (.bool (ls.getD k zeroL).aborts)∧(∀ i,w.frozen? ⟨g,i,none⟩=false):=by
 have a0:=cellsL_at ls k 0 (by omega) (by omega)
 have a1:=cellsL_at ls k 1 (by omega) (by omega)
 have a2:=cellsL_at ls k 2 (by omega) (by omega)
 simp only [LiveV.cells,Nat.add_zero,List.getElem?_cons_zero,List.getElem?_cons_succ] at a0 a1 a2
 exact ⟨by rw [h.cellAt (k*3) (by omega)];exact a0,by rw [h.cellAt (k*3+1) (by omega)];exact a1,by rw [h.cellAt (k*3+2) (by omega)];exact a2,fun i=>h.frozenAt i⟩
theorem row_store {w:World} {base g n cap:Nat} {ls:List LiveV} (h:w.ownsRow base 109 3 (.slice (some ⟨g,0,none⟩) n cap) n (cellsL ls)) (hn:ls.length=n) (k:Nat) (hk:k<n) (t:LiveV):
  ∃ W,Hid (((w.setCell ⟨g,k*3,none⟩ (.int .i64 t.tx)).setCell ⟨g,k*3+1,none⟩ (.int .i64 t.last)).setCell ⟨g,k*3+2,none⟩ (.bool t.aborts)=W)∧W.ownsRow base 109 3 (.slice (some ⟨g,0,none⟩) n cap) n (cellsL (ls.set k t))∧w.grownBy W (some g):=by
 have s1:=h.stored (k*3) (.int .i64 t.tx)
 have s2:=s1.1.stored (k*3+1) (.int .i64 t.last)
 have s3:=s2.1.stored (k*3+2) (.bool t.aborts)
 refine ⟨_,rfl,?_,grownBy_trans (grownBy_trans s1.2 s2.2) s3.2⟩
 have:=s3.1
 rw [cellsL_set ls k (by omega) t] at this
 exact this
theorem OwnL.reads {w:World} {lo hi:Nat} {a:Option Addr} {c:Nat} {ls:List LiveV} (h:OwnL w lo hi a c ls):ReadsL w a ls:=by
 intro hne
 rcases h.1.2 with ⟨_,h0⟩ | ⟨g,cap',cur,hv,hb,hg,hr⟩
 ·exact absurd (List.length_eq_zero_iff.1 h0) hne
 ·simp only [Value.slice.injEq] at hv
  obtain ⟨rfl,_,rfl⟩:=hv
  refine ⟨g,0,rfl,fun k hk=>?_⟩
  obtain ⟨a0,a1,a2,_⟩:=row_live h.1 rfl k hk
  rw [Nat.zero_add]
  exact ⟨a0,a1,a2⟩
theorem toLive_any (l:LiveV) (w:World):
  Calls Tryz.prog 59 #[.agg l.cells.toArray] w fun e w'=>e=.returned (.agg l.cells.toArray)∧Below w.heap.size w w':=by
 obtain ⟨x,y,z⟩:=l
 simp only [LiveV.cells]
 obtain ⟨W,hW,b0,b1,b2,hbW,hsW⟩:=boxes3 w [.int .i64 x,.int .i64 y,.bool z] [.int .i64 x,.int .i64 y,.bool z] [.int .i64 x,.int .i64 y,.bool z] 111 109 109
 obtain ⟨q0,q1,q2,_⟩:=b1.three
 clear b0 b2 hsW
 go_enter Tryz.func59,Tryz.ntmps59
 go_wp2
 rw [hW.out]
 exact bodyPost_ret (v:=.agg #[.int .i64 x,.int .i64 y,.bool z]) (by simp [results,Tryz.results59,go_sem,q0,q1,q2]) rfl ⟨rfl,hbW⟩
theorem zero_cellsL (n:Nat):(madeCells #[.int .i64 0,.int .i64 0,.bool false] (n*3)).toList=cellsL (List.replicate n zeroL):=by
 apply List.ext_getElem?
 intro i
 by_cases h:i<n*3
 ·have e:=cellsL_at (List.replicate n zeroL) (i / 3) (i % 3) (by simp;omega) (Nat.mod_lt _ (by omega))
  rw [show i / 3*3+i % 3=i by omega] at e
  rw [e]
  have hg:(List.replicate n zeroL).getD (i / 3) zeroL=zeroL:=by simp [List.getD,show i / 3<n by omega]
  rw [hg]
  simp only [madeCells,Array.toList_map,List.getElem?_map,Array.toList_range,List.getElem?_range h,Option.map_some,LiveV.cells,zeroL]
  have:i % 3<3:=Nat.mod_lt _ (by omega)
  show some (#[Value.int .i64 0,.int .i64 0,.bool false][i % 3]!)=_
  rcases (by omega:i % 3=0∨i % 3=1∨i % 3=2) with h' | h' | h'<;>rw [h']<;>rfl
 ·rw [List.getElem?_eq_none (by simp [size_madeCells];omega),List.getElem?_eq_none (by rw [cellsL_len];simp;omega)]
theorem made_live (n:Nat):(madeCells (Value.agg #[.int .i64 0,.int .i64 0,.bool false]).cells (n*3)).toList=cellsL (List.replicate n zeroL):=zero_cellsL n
def partL (ls:List LiveV) (k:Nat):List LiveV:=ls.take k++List.replicate (ls.length-k) zeroL
theorem partL_len (ls:List LiveV) (k:Nat) (h:k≤ls.length):(partL ls k).length=ls.length:=by simp [partL];omega
theorem partL_all (ls:List LiveV):partL ls ls.length=ls:=by simp [partL]
theorem partL_none (ls:List LiveV):partL ls 0=List.replicate ls.length zeroL:=by simp [partL]
theorem partL_set (ls:List LiveV) (k:Nat) (h:k<ls.length):(partL ls k).set k (ls.getD k zeroL)=partL ls (k+1):=by
 unfold partL
 rw [List.set_append,if_neg (by simp;omega),List.take_succ_eq_append_getElem h]
 have e:ls.length-k=(ls.length-(k+1))+1:=by omega
 have e2:k-(List.take k ls).length=0:=by simp;omega
 rw [e2,e,List.replicate_succ,List.set_cons_zero]
 simp only [List.getD,h,List.getElem?_eq_getElem,Option.getD_some,List.append_assoc,List.singleton_append]
theorem Tryz.infoLive:(Tryz.prog.info? 109).map (fun i=>(i.zero,i.size,i.bytes))=some (some (.agg #[.int .i64 0,.int .i64 0,.bool false]),3,24):=by kernel_rfl
theorem toLiveS_any (a:Option Addr) (cap:Nat) (ls:List LiveV) (w:World) (hr:ReadsL w a ls) (hl:ls.length≤1099511627776):
  Calls Tryz.prog 23 #[.slice a ls.length cap] w fun e w'=>∃ a' c',e=.returned (.slice a' ls.length c')∧OwnL w' w.heap.size w'.heap.size a' c' ls∧Below w.heap.size w w':=by
 obtain ⟨i0,hi,hz0,hz1,hz2⟩:=info_parts Tryz.infoLive
 rcases hr.cases with rfl | ⟨b,off,rfl,hpos,hcell⟩
 ·go_enter Tryz.func23,Tryz.ntmps23
  go_wp2_with (at_make;refine wpList_make_full _ rfl _ _ 55 rfl w.heap.size 109 i0 (.agg #[.int .i64 0,.int .i64 0,.bool false]) 3 Tryz.underlying55 hi hz0 hz1 _ _ _ _ 0 rfl rfl (by simp) (by simp) (by omega) (by simp [maxLen]) (Nat.le_refl _) ?_)
  intro w0 hown0 hgrow0
  go_wp2
  refine wp_loop_rounds 1 ?_
  rw [rounds_succ]
  go_wp2
  go_ret
  have ho:w0.ownsRow w.heap.size 109 3 (.slice (some ⟨w.heap.size,0,none⟩) 0 0) 0 (cellsL []):=by
   have e:=made_live 0
   simp only [List.replicate_zero] at e
   rw [← e]
   exact hown0
  exact ⟨_,_,rfl,⟨ho,Nat.le_refl _,fun k hk=>(ho.lt k hk).2⟩,(Below.refl _ _).grown hgrow0 (Nat.le_refl _) (fun k h=>by cases h)⟩
 ·have hbB:b<w.heap.size:=block_lt (hcell 0 hpos).1
  go_enter Tryz.func23,Tryz.ntmps23
  go_wp2_with (at_make;refine wpList_make_full _ rfl _ _ 55 rfl w.heap.size 109 i0 (.agg #[.int .i64 0,.int .i64 0,.bool false]) 3 Tryz.underlying55 hi hz0 hz1 _ _ _ _ ls.length rfl rfl rfl rfl (by rw [hz2];omega) (by simp [maxLen];omega) (Nat.le_refl _) ?_)
  intro w0 hown0 hgrow0
  have hown1:w0.ownsRow w.heap.size 109 3 (.slice (some ⟨w.heap.size,0,none⟩) ls.length ls.length) ls.length (cellsL (partL ls 0)):=by
   rw [partL_none,← made_live]
   exact hown0
  have hb0:Below w.heap.size w w0:=(Below.refl _ _).grown hgrow0 (Nat.le_refl _) (fun k h=>by cases h)
  clear hown0 hgrow0
  go_wp2
  go_loopw [4] (fun i wr=>∃ k:Nat,k≤ls.length∧i=.int .i64 k∧wr.ownsRow w.heap.size 109 3 (.slice (some ⟨w.heap.size,0,none⟩) ls.length ls.length) ls.length (cellsL (partL ls k))∧Below w.heap.size w wr)
   (fun i _=>ls.length-(intOf i).toNat)
  case atStart=>exact ⟨0,Nat.zero_le _,rfl,hown1,hb0⟩
  case round=>
   obtain ⟨k,hk,rfl,hown,hnx⟩:=hrel
   by_cases hlt:k<ls.length
   ·obtain ⟨c0,c1,c2⟩:=hcell k hlt
    have d0:wr.cell? ⟨b,off+k*3,none⟩=_:=(hnx.cell (by exact hbB)).trans c0
    have d1:wr.cell? ⟨b,off+k*3+1,none⟩=_:=(hnx.cell (by exact hbB)).trans c1
    have d2:wr.cell? ⟨b,off+k*3+2,none⟩=_:=(hnx.cell (by exact hbB)).trans c2
    have hp:=partL_len ls k hk
    have HSET:Hid ((partL ls k).set k (ls.getD k zeroL)=partL ls (k+1)):=partL_set ls k hlt
    clear c0 c1 c2 hcell hown1 hb0
    generalize ls.getD k zeroL=z at*
    have C:=toLive_any z wr
    simp only [LiveV.cells] at C
    go_wp2_with fail
    refine C.mono ?_
    clear C d0 d1 d2
    rintro e w1 ⟨rfl,hb1⟩
    have hownA:=ownsRow_block hown (fun j hj=>hb1.block j (hown.lt j hj).2)
    obtain ⟨x0,x1,x2,hfz⟩:=row_live hownA hp k hlt
    have f0:=hfz (k*3)
    have f1:=hfz (k*3+1)
    have f2:=hfz (k*3+2)
    obtain ⟨W2,hW2,ho2,hg2⟩:=row_store hownA hp k hlt z
    rw [HSET.out] at ho2
    have hB2:Below w.heap.size w W2:=(hnx.trans (hb1.mono hnx.size)).grown hg2 (by have:=hnx.size;have:=hb1.size;omega) (fun j hj=>by cases hj;omega)
    have HH:Hid (_∧_):=⟨ho2,hB2⟩
    clear ho2 hB2 hg2 hfz hownA hown hb1 hnx HSET
    generalize (partL ls k).getD k zeroL=old at*
    go_wp2_with fail
    rw [hW2.out]
    go_roundw
    case rel=>exact ⟨k+1,by omega,by go_num,HH.out.1,HH.out.2⟩
    case measure=>simp [intOf];omega
   ·have HE:Hid (wr.ownsRow w.heap.size 109 3 (.slice (some ⟨w.heap.size,0,none⟩) ls.length ls.length) ls.length (cellsL ls)):=by
     have e:k=ls.length:=by omega
     rw [e,partL_all] at hown
     exact hown
    go_wp2
    go_ret
    exact ⟨_,_,rfl,⟨HE.out,Nat.le_refl _,fun k hk=>(HE.out.lt k hk).2⟩,hnx⟩
theorem eqLive_same (l:LiveV) (w:World):
  Calls Tryz.prog 71 #[.agg l.cells.toArray,.agg l.cells.toArray] w fun e w'=>e=.returned (.bool true)∧Below w.heap.size w w':=by
 obtain ⟨x,y,z⟩:=l
 simp only [LiveV.cells]
 obtain ⟨W,hW,b0,b1,hbW,hsW⟩:=boxes2 w [.int .i64 x,.int .i64 y,.bool z] [.int .i64 x,.int .i64 y,.bool z] 109 109
 clear b0 b1 hsW
 go_enter Tryz.func71,Tryz.ntmps71
 go_wp2
 rw [hW.out]
 go_ret
 exact ⟨rfl,hbW⟩
theorem eqLiveS_same (a b:Option Addr) (ca cb:Nat) (ls:List LiveV) (w:World) (ha:ReadsL w a ls) (hb:ReadsL w b ls) (hl:ls.length≤1099511627776):
  Calls Tryz.prog 32 #[.slice a ls.length ca,.slice b ls.length cb] w fun e w'=>e=.returned (.bool true)∧Below w.heap.size w w':=by
 rcases ha.cases with rfl | ⟨b1,o1,rfl,hpos,hc1⟩
 ·go_enter Tryz.func32,Tryz.ntmps32
  go_wp2
  refine wp_loop_rounds 1 ?_
  rw [rounds_succ]
  go_wp2
  go_ret
  exact ⟨rfl,Below.refl _ _⟩
 ·rcases hb.cases with rfl | ⟨b2,o2,rfl,_,hc2⟩
  ·simp at hpos
  ·go_enter Tryz.func32,Tryz.ntmps32
   go_wp2
   go_loopw [5] (fun i wr=>∃ k:Nat,k≤ls.length∧i=.int .i64 k∧Below w.heap.size w wr) (fun i _=>ls.length-(intOf i).toNat)
   case atStart=>exact ⟨0,Nat.zero_le _,rfl,Below.refl _ _⟩
   case round=>
    obtain ⟨k,hk,rfl,hbl⟩:=hrel
    by_cases hlt:k<ls.length
    ·have h1:=hc1 k hlt
     have h2:=hc2 k hlt
     clear hc1 hc2
     generalize ls.getD k zeroL=z at*
     have HS:Hid (∀ w1,Below w.heap.size w w1→(w1.cell? ⟨b1,o1+k*3,none⟩=some (.int .i64 z.tx)∧w1.cell? ⟨b1,o1+k*3+1,none⟩=some (.int .i64 z.last)∧w1.cell? ⟨b1,o1+k*3+2,none⟩=some (.bool z.aborts))∧(w1.cell? ⟨b2,o2+k*3,none⟩=some (.int .i64 z.tx)∧w1.cell? ⟨b2,o2+k*3+1,none⟩=some (.int .i64 z.last)∧w1.cell? ⟨b2,o2+k*3+2,none⟩=some (.bool z.aborts))):=fun w1 hh=>
      ⟨⟨(hh.cell (block_lt h1.1)).trans h1.1,(hh.cell (block_lt h1.2.1)).trans h1.2.1,(hh.cell (block_lt h1.2.2)).trans h1.2.2⟩,(hh.cell (block_lt h2.1)).trans h2.1,(hh.cell (block_lt h2.2.1)).trans h2.2.1,(hh.cell (block_lt h2.2.2)).trans h2.2.2⟩
     have hh:=HS.out wr hbl
     clear h1 h2
     go_wp2_with fail
     go_region_held3 (fun w1=>(w1.cell? ⟨b1,o1+k*3,none⟩=some (.int .i64 z.tx)∧w1.cell? ⟨b1,o1+k*3+1,none⟩=some (.int .i64 z.last)∧w1.cell? ⟨b1,o1+k*3+2,none⟩=some (.bool z.aborts))∧(w1.cell? ⟨b2,o2+k*3,none⟩=some (.int .i64 z.tx)∧w1.cell? ⟨b2,o2+k*3+1,none⟩=some (.int .i64 z.last)∧w1.cell? ⟨b2,o2+k*3+2,none⟩=some (.bool z.aborts)))
      (first | exact HS.out _ hw2 | go_keep | fail)
      ((first | (go_at_call 71;refine (eqLive_same z _).mono ?_;rintro e w2 ⟨rfl,hb2⟩;have hw2:Below w.heap.size w w2:=(hbl.drew).trans (hb2.mono hbl.size)) | fail))
     all_goals
      go_wp2_with fail
      go_roundw
      case rel=>exact ⟨k+1,by omega,by go_num,hw2⟩
      case measure=>simp [intOf];omega
    ·go_wp2
     go_ret
     exact ⟨rfl,hbl⟩
structure RecV where
 lsn:Int
 tx:Int
 prev:Int
 kind:Int
 oid:Int
 bf:SlotV
 af:SlotV
 next:Int
 txs:List LiveV
structure RecA where
 lsn:Int
 tx:Int
 prev:Int
 kind:Int
 oid:Int
 bf:SlotA
 af:SlotA
 next:Int
 txs:List LiveV
 aL:Option Addr
 cL:Nat
def RecA.v (r:RecA):RecV:=⟨r.lsn,r.tx,r.prev,r.kind,r.oid,r.bf.v,r.af.v,r.next,r.txs⟩
def RecA.cells (r:RecA):List Value:=[.int .i64 r.lsn,.int .i64 r.tx,.int .i64 r.prev,.int .i64 r.kind,.int .i64 r.oid,.bool r.bf.v.has,.int .i64 r.bf.v.o.kind,.slice r.bf.aI r.bf.v.o.ints.length r.bf.cI,.slice r.bf.aR r.bf.v.o.refs.length r.bf.cR,.bool r.af.v.has,.int .i64 r.af.v.o.kind,.slice r.af.aI r.af.v.o.ints.length r.af.cI,.slice r.af.aR r.af.v.o.refs.length r.af.cR,.int .i64 r.next,.slice r.aL r.txs.length r.cL]
structure RecA.reads (w:World) (r:RecA):Prop where
 bf:r.bf.reads w
 af:r.af.reads w
 txs:ReadsL w r.aL r.txs
theorem RecA.reads.below {w w':World} {r:RecA} (h:r.reads w) (hb:Below w.heap.size w w'):r.reads w':=⟨ReadsO.below h.bf hb,ReadsO.below h.af hb,h.txs.below hb⟩
def RecA.blocks (r:RecA):List Nat:=r.bf.blocks++(r.af.blocks++(Value.slice r.aL r.txs.length r.cL).ownBlock.toList)
structure RecA.own (w:World) (lo hi:Nat) (r:RecA):Prop where
 bf:r.bf.own w lo hi
 af:r.af.own w lo hi
 txs:OwnL w lo hi r.aL r.cL r.txs
 apart:r.blocks.Nodup
theorem RecA.own.reads {w:World} {lo hi:Nat} {r:RecA} (h:r.own w lo hi):r.reads w:=⟨OwnO.reads h.bf,OwnO.reads h.af,h.txs.reads⟩
theorem RecA.own.below {w w':World} {lo hi:Nat} {r:RecA} (h:r.own w lo hi) (hb:Below w.heap.size w w'):r.own w' lo hi:=⟨OwnO.below h.bf hb,OwnO.below h.af hb,h.txs.below hb,h.apart⟩
theorem RecA.own.within {w w':World} {lo hi l u:Nat} {r:RecA} (h:r.own w lo hi) (hw:Within l u w w') (hd:hi≤l∨u≤lo):r.own w' lo hi:=⟨OwnO.within h.bf hw hd,OwnO.within h.af hw hd,h.txs.within hw hd,h.apart⟩
theorem RecA.own.widen {w:World} {lo hi lo' hi':Nat} {r:RecA} (h:r.own w lo hi) (h1:lo'≤lo) (h2:hi≤hi') (h3:hi'≤w.heap.size):r.own w lo' hi':=⟨OwnO.widen h.bf h1 h2 h3,OwnO.widen h.af h1 h2 h3,h.txs.widen h1 h2 h3,h.apart⟩
theorem rec_apart {w:World} {a b c d:Nat} {s t:SlotA} {aL:Option Addr} {cL:Nat} {ls:List LiveV} (hs:s.own w a b) (ht:t.own w b c) (hl:OwnL w c d aL cL ls) (hbc:b≤c):
  (s.blocks++(t.blocks++(Value.slice aL ls.length cL).ownBlock.toList)).Nodup:=by
 rw [List.nodup_append,List.nodup_append]
 refine ⟨SlotA.blocks_nodup hs,⟨SlotA.blocks_nodup ht,by cases (Value.slice aL ls.length cL).ownBlock<;>simp,?_⟩,?_⟩
 ·intro x hx y hy e
  have h1:=(SlotA.blocks_lt ht x hx)
  have h2:=(hl.lt y (Option.mem_toList.1 hy))
  omega
 ·intro x hx y hy e
  have h1:=(SlotA.blocks_lt hs x hx)
  rcases List.mem_append.1 hy with h | h
  ·have h2:=(SlotA.blocks_lt ht y h);omega
  ·have h2:=(hl.lt y (Option.mem_toList.1 h))
   omega
theorem oneR (r:RecA):∀ v∈r.cells,v.oneCell'=true:=by
 intro v hv
 simp only [RecA.cells,List.mem_cons,List.not_mem_nil,or_false] at hv
 rcases hv with rfl | rfl | rfl | rfl | rfl | rfl | rfl | rfl | rfl | rfl | rfl | rfl | rfl | rfl | rfl<;>rfl
theorem box_quad {w:World} {B:Nat} {l:List Value} {t:TypeId} (b:Box w B l t) (i0 i1 i2 i3:Nat) (v0 v1 v2 v3:Value):
  ∃ W,Hid ((((w.setCell ⟨B,i0,none⟩ v0).setCell ⟨B,i1,none⟩ v1).setCell ⟨B,i2,none⟩ v2).setCell ⟨B,i3,none⟩ v3=W)∧Box W B ((((l.set i0 v0).set i1 v1).set i2 v2).set i3 v3) t∧Within B (B+1) w W∧W.heap.size=w.heap.size:=by
 refine ⟨_,rfl,(((b.set i0 v0).set i1 v1).set i2 v2).set i3 v3,?_,?_⟩
 ·exact (((within_set w B i0 v0 (by omega)).trans (within_set _ B i1 v1 (by omega))).trans (within_set _ B i2 v2 (by omega))).trans (within_set _ B i3 v3 (by omega))
 ·simp
theorem toRec_own (r:RecA) (w:World) (hr:r.reads w) (hlb:r.bf.v.o.ints.length≤1099511627776∧r.bf.v.o.refs.length≤1099511627776) (hla:r.af.v.o.ints.length≤1099511627776∧r.af.v.o.refs.length≤1099511627776) (hlt:r.txs.length≤1099511627776):
  Calls Tryz.prog 92 #[.agg r.cells.toArray] w fun e w'=>∃ t:RecA,e=.returned (.agg t.cells.toArray)∧Hid (t.v=r.v)∧t.own w' w.heap.size w'.heap.size∧Below w.heap.size w w':=by
 obtain ⟨W,hW,b0,b1,b2,hbW,hsW⟩:=boxes3 w [.int .i64 r.lsn,.int .i64 r.tx,.int .i64 r.prev,.int .i64 r.kind,.int .i64 r.oid,.bool r.bf.v.has,.int .i64 r.bf.v.o.kind,.slice r.bf.aI r.bf.v.o.ints.length r.bf.cI,.slice r.bf.aR r.bf.v.o.refs.length r.bf.cR,.bool r.af.v.has,.int .i64 r.af.v.o.kind,.slice r.af.aI r.af.v.o.ints.length r.af.cI,.slice r.af.aR r.af.v.o.refs.length r.af.cR,.int .i64 r.next,.slice r.aL r.txs.length r.cL] [.int .i64 0,.int .i64 0,.int .i64 0,.int .i64 0,.int .i64 0,.bool false,.int .i64 0,.slice none 0 0,.slice none 0 0,.bool false,.int .i64 0,.slice none 0 0,.slice none 0 0,.int .i64 0,.slice none 0 0] [.int .i64 r.lsn,.int .i64 r.tx,.int .i64 r.prev,.int .i64 r.kind,.int .i64 r.oid,.bool false,.int .i64 0,.slice none 0 0,.slice none 0 0,.bool false,.int .i64 0,.slice none 0 0,.slice none 0 0,.int .i64 0,.slice none 0 0] 131 100 100
 have hs0:w.heap.size+1+1<W.heap.size:=by omega
 clear hsW
 have C1:=toSlot_own r.bf W (ReadsO.below hr.bf hbW) hlb.1 hlb.2
 simp only [RecA.cells]
 simp only [SlotA.cells] at C1
 go_enter Tryz.func92,Tryz.ntmps92
 go_wp2_with fail
 rw [hW.out]
 clear hW
 refine C1.mono ?_
 clear C1
 rintro e w1 ⟨t1,rfl,hv1,ho1,hb1⟩
 have b01:=b0.below hb1 b0.lt
 have b11:=b1.below hb1 b1.lt
 have b21:=b2.below hb1 b2.lt
 have hs1:=hb1.size
 clear b0 b1 b2
 have x5:=b21.cell 5 _ rfl
 have xf5:=b21.frozen 5
 have x6:=b21.cell 6 _ rfl
 have xf6:=b21.frozen 6
 have x7:=b21.cell 7 _ rfl
 have xf7:=b21.frozen 7
 have x8:=b21.cell 8 _ rfl
 have xf8:=b21.frozen 8
 obtain ⟨W2,hW2,b22,hw2,hs2⟩:=box_quad b21 5 6 7 8 (.bool t1.v.has) (.int .i64 t1.v.o.kind) (.slice t1.aI t1.v.o.ints.length t1.cI) (.slice t1.aR t1.v.o.refs.length t1.cR)
 simp only [List.set] at b22
 have b02:=b01.within hw2 (by omega)
 have b12:=b11.within hw2 (by omega)
 have y9:=b01.cell 9 _ rfl
 have y10:=b01.cell 10 _ rfl
 have y11:=b01.cell 11 _ rfl
 have y12:=b01.cell 12 _ rfl
 have hB2:Below w.heap.size w W2:=(hbW.trans (hb1.mono (by omega))).trans (hw2.below (by omega) (by omega))
 have ho2:=OwnO.within ho1 hw2 (.inr (by omega))
 have C2:=toSlot_own r.af W2 (ReadsO.below hr.af hB2) hla.1 hla.2
 simp only [SlotA.cells] at C2
 clear b21 b01 b11 hw2 ho1
 go_wp2_with fail
 rw [hW2.out]
 refine C2.mono ?_
 clear C2 x5 x6 x7 x8 xf5 xf6 xf7 xf8 y9 y10 y11 y12 hW2
 rintro e w3 ⟨t2,rfl,hv2,ho3,hb3⟩
 have b03:=b02.below hb3 b02.lt
 have b13:=b12.below hb3 b12.lt
 have b23:=b22.below hb3 b22.lt
 have hs3:=hb3.size
 have ho23:=OwnO.below ho2 hb3
 clear b02 b12 b22 ho2
 have x9:=b23.cell 9 _ rfl
 have xf9:=b23.frozen 9
 have x10:=b23.cell 10 _ rfl
 have xf10:=b23.frozen 10
 have x11:=b23.cell 11 _ rfl
 have xf11:=b23.frozen 11
 have x12:=b23.cell 12 _ rfl
 have xf12:=b23.frozen 12
 have x13:=b23.cell 13 _ rfl
 have xf13:=b23.frozen 13
 have y13:=b03.cell 13 _ rfl
 have y14:=b03.cell 14 _ rfl
 obtain ⟨W4,hW4,b24,hw4,hs4⟩:=box_quad b23 9 10 11 12 (.bool t2.v.has) (.int .i64 t2.v.o.kind) (.slice t2.aI t2.v.o.ints.length t2.cI) (.slice t2.aR t2.v.o.refs.length t2.cR)
 simp only [List.set] at b24
 obtain ⟨W5,hW5,b25,hw5,hs5⟩:=box_set b24 13 (.int .i64 r.next)
 simp only [List.set] at b25
 have b15:=(b13.within hw4 (by omega)).within hw5 (by omega)
 have hB5:Below w.heap.size w W5:=((hB2.trans (hb3.mono (by omega))).trans (hw4.below (by omega) (by omega))).trans (hw5.below (by omega) (by omega))
 have hoA5:=OwnO.within (OwnO.within ho23 hw4 (.inr (by omega))) hw5 (.inr (by omega))
 have hoB5:=OwnO.within (OwnO.within ho3 hw4 (.inr (by omega))) hw5 (.inr (by omega))
 have C3:=toLiveS_any r.aL r.cL r.txs W5 (hr.txs.below hB5) hlt
 clear b23 b03 b13 hw4 hw5 b24 ho3 ho23 hb3
 go_wp2_with fail
 rw [hW4.out,hW5.out]
 refine C3.mono ?_
 clear C3 x9 x10 x11 x12 x13 xf9 xf10 xf11 xf12 xf13 y13 y14 hW4 hW5
 rintro e w6 ⟨aL,cL,rfl,ho6,hb6⟩
 have b16:=b15.below hb6 b15.lt
 have b26:=b25.below hb6 b25.lt
 have hs6:=hb6.size
 have hoA6:=OwnO.below hoA5 hb6
 have hoB6:=OwnO.below hoB5 hb6
 have HAP:Hid ((t1.blocks++(t2.blocks++(Value.slice aL r.txs.length cL).ownBlock.toList)).Nodup):=rec_apart (c:=W5.heap.size) (OwnO.widen hoA6 (Nat.le_refl _) (show _≤W2.heap.size by omega) (by omega)) (OwnO.widen hoB6 (Nat.le_refl _) (show _≤W5.heap.size by omega) (by omega)) ho6 (by omega)
 clear b15 b25 hoA5 hoB5
 obtain ⟨W7,hW7,b27,hw7,hs7⟩:=box_set b26 14 (.slice aL r.txs.length cL)
 simp only [List.set] at b27
 have b17:=b16.within hw7 (by omega)
 let t:RecA:=⟨r.lsn,r.tx,r.prev,r.kind,r.oid,t1,t2,r.next,r.txs,aL,cL⟩
 have b27':Box W7 (w.heap.size+1+1) ([]++(t.cells++[])) 100:=by simpa [t,RecA.cells] using b27
 have htl:t.cells.length=15:=rfl
 obtain ⟨WF,hWF,bF,hwF,hsF⟩:=range_fill [] [.int .i64 0,.int .i64 0,.int .i64 0,.int .i64 0,.int .i64 0,.bool false,.int .i64 0,.slice none 0 0,.slice none 0 0,.bool false,.int .i64 0,.slice none 0 0,.slice none 0 0,.int .i64 0,.slice none 0 0] t.cells [] (by simpa using b17) (by rw [htl];rfl)
 have hr7:W7.rangeAt (w.heap.size+1+1) 0 t.cells:=Box.range [] t.cells [] b27'
 have htF:W7.there (w.heap.size+1) 0 t.cells.toArray.size:=b17.there 0 _ (by simp [htl])
 have hrF:WF.rangeAt (w.heap.size+1) 0 t.cells:=Box.range [] t.cells [] bF
 have hi7:(Tryz.prog.info? 100).map (·.size)=some t.cells.length:=by rw [htl];kernel_rfl
 have hlF:=run_loadVar_mid (P:=Tryz.prog) WF (w.heap.size+1) 0 100 t.cells _ hrF Tryz.underlying100 rfl hi7
 have h1P:=all_oneCell_toArray (oneR t)
 have hbF:Below w.heap.size w WF:=((hB5.trans (hb6.mono (by omega))).trans (hw7.below (by omega) (by omega))).trans (hwF.below (by omega) (by omega))
 have hoF:t.own WF w.heap.size WF.heap.size:=⟨OwnO.widen (OwnO.within (OwnO.within hoA6 hw7 (.inr (by omega))) hwF (.inr (by omega))) (by omega) (by omega) (Nat.le_refl _),OwnO.widen (OwnO.within (OwnO.within hoB6 hw7 (.inr (by omega))) hwF (.inr (by omega))) (by omega) (by omega) (Nat.le_refl _),((ho6.within hw7 (.inr (by omega))).within hwF (.inr (by omega))).widen (by omega) (by omega) (Nat.le_refl _),HAP.out⟩
 have hvF:t.v=r.v:=by simp only [t,RecA.v,hv1.out,hv2.out]
 have HF:Hid (_∧_∧_∧_):=⟨hlF,hbF,hoF,hvF⟩
 have HA:Hid (_∧_):=⟨hr7,htF⟩
 have HI:Hid (_∧_):=⟨hi7,h1P⟩
 have HWF:Hid (W7.setCells (w.heap.size+1) 0 t.cells=WF):=hWF
 have x14:=b26.cell 14 _ rfl
 have f14:=b26.frozen 14
 clear hlF hbF hoF hvF hr7 htF hrF hi7 h1P hWF bF hwF hsF b27 b27' b17 hw7 hs7 b16 b26 hoA6 hoB6 ho6 hb6 hB5 htl HAP
 clear_value t
 go_wp2_with (first | (guard_target=wpList _ _ _ (Oper.mk (some 34) _ _ _ _ _::_) _ _;refine wpList_load_mid rfl 100 (.tmp 3) rfl (w.heap.size+1+1) 0 rfl t.cells _ (by rw [hW7.out];exact HA.out.1) Tryz.underlying100 rfl HI.out.1 ?_) | (guard_target=wpList _ _ _ (Oper.mk none (Op.store _ (Operand.tmp 2) _) _ _ _ _::_) _ _;refine wpList_store_mid rfl 100 (.tmp 2) (.tmp 34) rfl (w.heap.size+1) 0 t.cells.toArray rfl rfl (by rw [hW7.out];exact HA.out.2) (by rw [List.size_toArray];exact HI.out.1) HI.out.2 ?_) | fail)
 rw [hW7.out,HWF.out]
 exact bodyPost_ret (v:=.agg t.cells.toArray) (results_one Tryz.results92 rfl HF.out.1) rfl ⟨t,rfl,HF.out.2.2.2,HF.out.2.2.1,HF.out.2.1⟩
end Go.Proofs.YtcoeamamaifoeaaGreatDoor
namespace Go.Proofs.YtcoeamamaifoeaaGreatDoor
open Go.RowKit
def szOf (n:Nat) (left:Int):Int:=if left-n<0 then -1 else left-n
theorem szIntS_any (a:Option Addr) (c n:Nat) (left:Int) (w:World) (hn:n≤9223372036854775807) (h0:0≤left∧left≤1048576):
  Calls Tryz.prog 155 #[.slice a n c,.int .i64 left] w fun e w'=>e=.returned (.int .i64 (szOf n left))∧w'=w:=by
 by_cases h:left-n<0
 ·have HS:Hid (szOf n left= -1):=by unfold szOf;rw [Hid,if_pos h]
  go_enter Tryz.func155,Tryz.ntmps155
  go_wp2
  go_ret
  exact ⟨ret_int HS.out.symm,rfl⟩
 ·have HS:Hid (szOf n left=left-n):=by unfold szOf;rw [Hid,if_neg h]
  go_enter Tryz.func155,Tryz.ntmps155
  go_wp2
  go_ret
  exact ⟨ret_int HS.out.symm,rfl⟩
def szObjOf (o:ObjV) (left:Int):Int:=if left-o.ints.length<0 then -1 else if left-o.ints.length-o.refs.length<0 then -1 else left-o.ints.length-o.refs.length
theorem szObj_any (o:ObjV) (aI:Option Addr) (cI:Nat) (aR:Option Addr) (cR:Nat) (left:Int) (w:World) (hnI:o.ints.length≤9223372036854775807) (hnR:o.refs.length≤9223372036854775807) (h0:0≤left∧left≤1048576):
  Calls Tryz.prog 134 #[.agg #[.int .i64 o.kind,.slice aI o.ints.length cI,.slice aR o.refs.length cR],.int .i64 left] w fun e w'=>e=.returned (.int .i64 (szObjOf o left))∧Below w.heap.size w w':=by
 obtain ⟨k,ints,refs⟩:=o
 simp only at*
 obtain ⟨W,hW,b0,hbW,hsW⟩:=boxes1 w [.int .i64 k,.slice aI ints.length cI,.slice aR refs.length cR] 24
 have c2:=b0.cell 2 _ rfl
 by_cases h:left-ints.length<0
 ·have HS:Hid (szObjOf ⟨k,ints,refs⟩ left= -1):=by unfold szObjOf;rw [Hid,if_pos h]
  have HZ:Hid (szOf ints.length left= -1):=by unfold szOf;rw [Hid,if_pos h]
  go_enter Tryz.func134,Tryz.ntmps134
  go_wp2_with fail
  rw [hW.out]
  refine (szIntS_any aI cI ints.length left W hnI h0).mono ?_
  rintro e w' ⟨rfl,rfl⟩
  rw [HZ.out]
  go_wp2
  go_ret
  exact ⟨ret_int HS.out.symm,hbW⟩
 ·have HZ:Hid (szOf ints.length left=left-ints.length):=by unfold szOf;rw [Hid,if_neg h]
  have hn1:¬ left<ints.length:=by omega
  by_cases h2:left-ints.length-refs.length<0
  ·have HS:Hid (szObjOf ⟨k,ints,refs⟩ left= -1):=by unfold szObjOf;rw [Hid,if_neg h,if_pos h2]
   have HZ2:Hid (szOf refs.length (left-ints.length)= -1):=by unfold szOf;rw [Hid,if_pos h2]
   go_enter Tryz.func134,Tryz.ntmps134
   go_wp2_with fail
   rw [hW.out]
   refine (szIntS_any aI cI ints.length left W hnI h0).mono ?_
   rintro e w' ⟨rfl,rfl⟩
   rw [HZ.out]
   go_wp2_with fail
   refine (szIntS_any aR cR refs.length (left-ints.length) _ hnR (by omega)).mono ?_
   rintro e w' ⟨rfl,rfl⟩
   rw [HZ2.out]
   go_wp2
   go_ret
   exact ⟨ret_int HS.out.symm,hbW⟩
  ·have HS:Hid (szObjOf ⟨k,ints,refs⟩ left=left-ints.length-refs.length):=by unfold szObjOf;rw [Hid,if_neg h,if_neg h2]
   have HZ2:Hid (szOf refs.length (left-ints.length)=left-ints.length-refs.length):=by unfold szOf;rw [Hid,if_neg h2]
   go_enter Tryz.func134,Tryz.ntmps134
   go_wp2_with fail
   rw [hW.out]
   refine (szIntS_any aI cI ints.length left W hnI h0).mono ?_
   rintro e w' ⟨rfl,rfl⟩
   rw [HZ.out]
   go_wp2_with fail
   refine (szIntS_any aR cR refs.length (left-ints.length) _ hnR (by omega)).mono ?_
   rintro e w' ⟨rfl,rfl⟩
   rw [HZ2.out]
   go_wp2
   go_ret
   exact ⟨ret_int HS.out.symm,hbW⟩
end Go.Proofs.YtcoeamamaifoeaaGreatDoor