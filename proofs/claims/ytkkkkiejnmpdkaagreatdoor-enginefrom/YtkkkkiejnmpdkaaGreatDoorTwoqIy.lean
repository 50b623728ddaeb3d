/- Twoq Iy: Ib Id Ie -/
import Derived.Test.YtkkkkiejnmpdkaaGreatDoorTwoqIx
import Derived.BigRegion
import Derived.Deep.RegionWith
namespace Go.Proofs.YtkkkkiejnmpdkaaGreatDoor.Twoq.Ix
open Go.Proofs.YtkkkkiejnmpdkaaGreatDoor.Ix
open Go.RowKit
section
variable {D:Nat→Prop} {w:World} {p g seed:Nat} {sl:List (Sl Sp)} {used count b:Nat} {ad:Option Addr} {m:ByteArray→Option Sp}
theorem lay_end0 {j:Nat} (H:IndexIn 267 158 D w p seed sl used count (some ⟨g,0,none⟩)) (hn:0<sl.length) (hg:D g) (k:ByteArray) (v:Sp) :
 IndexIn 267 158 D ((((((w.setCell ⟨p,2,none⟩ (.int .i64 ((used:Int)+1))).setCell ⟨g,j*4,none⟩ (.int .u8 2)).setCell ⟨g,j*4+1,none⟩ (.string k)).setCell ⟨g,j*4+2,none⟩ (.int .i64 (v.1:Nat))).setCell ⟨g,j*4+3,none⟩ (.int .i64 (v.2:Nat))).setCell ⟨p,3,none⟩ (.int .i64 ((count:Int)+1))) p seed (sl.set j ⟨2,k,v⟩) (used+1) (count+1) (some ⟨g,0,none⟩) ∧
 Keeps D w ((((((w.setCell ⟨p,2,none⟩ (.int .i64 ((used:Int)+1))).setCell ⟨g,j*4,none⟩ (.int .u8 2)).setCell ⟨g,j*4+1,none⟩ (.string k)).setCell ⟨g,j*4+2,none⟩ (.int .i64 (v.1:Nat))).setCell ⟨g,j*4+3,none⟩ (.int .i64 (v.2:Nat))).setCell ⟨p,3,none⟩ (.int .i64 ((count:Int)+1))) :=
 ⟨((H.setUsed (used+1)).setSlot hn j ⟨2,k,v⟩).setCount (count+1),(((((((Keeps.refl D w).setCell H.1 _).setCell hg _).setCell hg _).setCell hg _).setCell hg _).setCell H.1 _)⟩
theorem lay_end1 {j:Nat} (H:IndexIn 267 158 D w p seed sl used count (some ⟨g,0,none⟩)) (hn:0<sl.length) (hg:D g) (k:ByteArray) (v:Sp) :
 IndexIn 267 158 D (((((w.setCell ⟨g,j*4,none⟩ (.int .u8 2)).setCell ⟨g,j*4+1,none⟩ (.string k)).setCell ⟨g,j*4+2,none⟩ (.int .i64 (v.1:Nat))).setCell ⟨g,j*4+3,none⟩ (.int .i64 (v.2:Nat))).setCell ⟨p,3,none⟩ (.int .i64 ((count:Int)+1))) p seed (sl.set j ⟨2,k,v⟩) used (count+1) (some ⟨g,0,none⟩) ∧
 Keeps D w (((((w.setCell ⟨g,j*4,none⟩ (.int .u8 2)).setCell ⟨g,j*4+1,none⟩ (.string k)).setCell ⟨g,j*4+2,none⟩ (.int .i64 (v.1:Nat))).setCell ⟨g,j*4+3,none⟩ (.int .i64 (v.2:Nat))).setCell ⟨p,3,none⟩ (.int .i64 ((count:Int)+1))) :=
 ⟨((H.setSlot hn j ⟨2,k,v⟩).setCount (count+1)),((((((Keeps.refl D w).setCell hg _).setCell hg _).setCell hg _).setCell hg _).setCell H.1 _)⟩
set_option maxHeartbeats 1000000 in
theorem lay_at (H:IndexIn 267 158 D w p seed sl used count ad) {j:Nat} {s:Sl Sp} (hj:sl[j]? = some s) (hst:s.st<2) (hu:used≤10000000) (hc:count≤10000000) (hl:sl.length≤10000000) (k:ByteArray) (v:Sp) :
 Calls Tryz.prog 301 #[.pointer (some ⟨p,0,none⟩),.int .i64 (j:Nat),.string k,V v] w fun e w'=>e=.returned (.tuple #[])∧IndexIn 267 158 D w' p seed (sl.set j ⟨2,k,v⟩) (if s.st=0 then used+1 else used) (count+1) ad∧Keeps D w w':=by
 have hn:=lt_of_at hj
 have hk0:Hid (Keeps D w (w.alloc (.cells #[.int .i64 (v.1:Nat),.int .i64 (v.2:Nat)] 96))):=(Keeps.refl D w).alloc _
 have H1:=H.below ((Below.refl _ w).alloc (Nat.le_refl _) (.cells #[.int .i64 (v.1:Nat),.int .i64 (v.2:Nat)] 96))
 obtain ⟨g,rfl,hgp,hDg,hg⟩:=H1.block (by omega)
 obtain ⟨c0,c1,c2,c3,f0,f1,f2,f3⟩:=H1.top
 obtain ⟨d0,d1,d2,d3,e0,e1,e2,e3⟩:=slot_cells hg hj
 have y:=heap_alloc_new w (.cells #[.int .i64 (v.1:Nat),.int .i64 (v.2:Nat)] 96)
 have y0:=cell_of_block (j:=0) y
 have y1:=cell_of_block (j:=1) y
 simp at y0 y1
 have HH:Hid (IndexIn 267 158 D (w.alloc (.cells #[.int .i64 (v.1:Nat),.int .i64 (v.2:Nat)] 96)) p seed sl used count (some ⟨g,0,none⟩)):=H1
 clear H H1 hg hj y
 by_cases h0:s.st=0
 ·rw [if_pos h0]
  rw [h0] at d0
  go_enter Tryz.func301,Tryz.ntmps301
  go_wp2
  go_region
  all_goals go_wp2
  go_end0
  exact ⟨rfl,(lay_end0 HH.out (by omega) hDg k v).1.drew,(hk0.out.trans (lay_end0 HH.out (by omega) hDg k v).2).drew⟩
 ·have h1:s.st=1:=by omega
  rw [if_neg h0]
  rw [h1] at d0
  go_enter Tryz.func301,Tryz.ntmps301
  go_wp2
  go_region
  all_goals go_wp2
  go_end0
  exact ⟨rfl,(lay_end1 HH.out (by omega) hDg k v).1.drew,(hk0.out.trans (lay_end1 HH.out (by omega) hDg k v).2).drew⟩
theorem infoE:(Tryz.prog.info? 267).map (fun i=>(i.zero,i.size,i.bytes))=some (some (.agg #[.int .u8 0,.string ⟨#[]⟩,.int .i64 0,.int .i64 0]),4,40):=by kernel_rfl
theorem make_slots (n:Nat) (hn:n≤100000000) (W:World):(Instr.makeSlice 156 (.int .i64 (n:Nat)) (.int .i64 (n:Nat))).run Tryz.prog W=.ok (.slice (some ⟨W.heap.size,0,none⟩) n n) (W.alloc (.cells (rowOf (List.replicate n (Sl.none (0,0)))).toArray 267)):=by
 obtain ⟨i0,hi,hz0,hz1,hz2⟩:=info_parts infoE
 have h:=run_make (P:=Tryz.prog) W 156 267 i0 _ Tryz.underlying156 hi hz0 .i64 .i64 (n:Int) (n:Int) (by omega) (by omega) (by rw [hz2];omega) (by omega)
 rw [hz1] at h
 rw [← rowOf_made]
 simpa [Value.cells] using h
def Reb (D:Nat→Prop) (w wr:World) (p seed:Nat) (sl:List (Sl Sp)) (count b k:Nat):Prop :=
 ∃ (sl':List (Sl Sp)) (used':Nat) (m':ByteArray→Option Sp),IndexIn 267 158 D wr p seed sl' used' (takenIn sl k) (some ⟨w.heap.size,0,none⟩)∧Ok (hs seed) sl' used' (takenIn sl k) b m'∧used'≤takenIn sl k∧sl'.length=4*(count+1)∧Part sl k m'∧Keeps D w wr
theorem reb_start (HH:IndexIn 267 158 D w p seed sl used count ad) (D':Nat→Prop) (hp:D' p) (hq:D' w.heap.size) (hb:count≤b) (W:World)
 (hW:W=((((w.alloc (.cells (rowOf (List.replicate (4*(count+1)) (Sl.none (0,0)))).toArray 267)).setCell ⟨p,1,none⟩ (.slice (some ⟨w.heap.size,0,none⟩) (4*(count+1)) (4*(count+1)))).setCell ⟨p,2,none⟩ (.int .i64 0)).setCell ⟨p,3,none⟩ (.int .i64 0))) :
 Reb D' w W p seed sl count b 0:=by
 subst hW
 have hlt:=lt_of_block HH.2.1
 have h1:=HH.newSlots (D':=D') (w':=w.alloc (.cells (rowOf (List.replicate (4*(count+1)) (Sl.none (0,0)))).toArray 267)) (Below.heap_alloc _ _ _ hlt) (q:=w.heap.size) (by omega) hp hq (heap_alloc_new w _)
 rw [List.length_replicate] at h1
 exact ⟨_,0,fun _=>none,(h1.setUsed 0).setCount 0,Ok.made _ (0,0) _ b (by omega) (by omega),Nat.zero_le _,by simp,Part.zero _,(((((Keeps.refl D' w).alloc _).setCell hp _).setCell hp _).setCell hp _)⟩
theorem reb_next {w2:World} {k j d used':Nat} {s t:Sl Sp} {sl':List (Sl Sp)} {m':ByteArray→Option Sp} (o:Ok (hs seed) sl used count b m) (hks:sl[k]? = some s) (h2:s.st=2) (o':Ok (hs seed) sl' used' (takenIn sl k) b m') (ht:sl'[j]? = some t) (ht2:t.st<2) (hjd:j=(hs seed s.key+d) % sl'.length)
 (hjw:∀ e,e<d→∃ t:Sl Sp,sl'[(hs seed s.key+e) % sl'.length]? = some t∧t.st≠0) (hn:m' s.key=none) (hl:sl'.length=4*(count+1)) (hu:used'≤takenIn sl k∧takenIn sl k≤count∧count≤b) (hP:Part sl k m')
 (hI:IndexIn 267 158 D w2 p seed (sl'.set j ⟨2,s.key,s.val⟩) (if t.st=0 then used'+1 else used') (takenIn sl k+1) (some ⟨w.heap.size,0,none⟩)) (hK:Keeps D w w2):Reb D w w2 p seed sl count b (k+1):=by
 have hc:=takenIn_take hks h2
 have hle:=takenIn_le o (k+1)
 refine ⟨_,_,_,by rw [hc];exact hI,by rw [hc];exact o'.lay s.val ht ht2 hjd hjw hn (by omega) (by omega) (o.size k s hks),?_,by simpa using hl,hP.take o hks h2,hK⟩
 split <;> omega
set_option maxHeartbeats 2000000 in
theorem rebuild_at (H:IndexIn 267 158 D w p seed sl used count ad) (o:Ok (hs seed) sl used count b m) (hs0:seed<18446744073709551616) (hD:∀ k,w.heap.size≤k→D k) (hb:b≤1000000) :
 Calls Tryz.prog 300 #[.pointer (some ⟨p,0,none⟩)] w fun e w'=>e=.returned (.tuple #[])∧(∃ sl' used' g',IndexIn 267 158 D w' p seed sl' used' count (some ⟨g',0,none⟩)∧Ok (hs seed) sl' used' count b m∧used'≤count∧sl'.length=4*(count+1))∧Keeps D w w':=by
 have hfew:=o.few
 have hbig:=o.big
 have hmk:∀ W:World,(Instr.makeSlice 156 (.int .i64 (4*((count:Int)+1))) (.int .i64 (4*((count:Int)+1)))).run Tryz.prog W=.ok (.slice (some ⟨W.heap.size,0,none⟩) (4*(count+1)) (4*(count+1))) (W.alloc (.cells (rowOf (List.replicate (4*(count+1)) (Sl.none (0,0)))).toArray 267)):=fun W=>by
  have:=make_slots (4*(count+1)) (by omega) W
  simpa using this
 obtain ⟨c0,c1,c2,c3,f0,f1,f2,f3⟩:=H.top
 have HH:Hid (IndexIn 267 158 D w p seed sl used count ad):=H
 have HO:Hid (Ok (hs seed) sl used count b m):=o
 obtain ⟨a0,a1,a2,a3,b0,b1,b2,b3⟩:=(H.below ((Below.refl _ w).alloc (Nat.le_refl _) (.cells (rowOf (List.replicate (4*(count+1)) (Sl.none (0,0)))).toArray 267))).top
 obtain ⟨D',hD'⟩:∃ D':Nat→Prop,D'=fun k=>k=p∨w.heap.size≤k:=⟨_,rfl⟩
 have hp':D' p:=by rw [hD'];exact .inl rfl
 have hq':D' w.heap.size:=by rw [hD'];exact .inr (Nat.le_refl _)
 have hsub:∀ k,D' k→D k:=by
  rw [hD']
  rintro k (e | e)
  ·rw [e];exact HH.out.1
  ·exact hD k e
 have hold:∀ go,go≠p→go<w.heap.size→¬ D' go:=by
  rw [hD']
  rintro go h1 h2 (e | e)
  ·exact h1 e
  ·omega
 have HD1:Hid (∀ k,D' k→D k):=hsub
 have HD2:Hid (∀ go,go≠p→go<w.heap.size→¬ D' go):=hold
 have hlt0:Hid (p<w.heap.size):=lt_of_block HH.out.2.1
 clear H o hD' hsub hold hD
 go_enter Tryz.func300,Tryz.ntmps300
 go_wp2
 go_loopw [28] (fun i wr=>∃ k:Nat,k≤sl.length∧i=.int .i64 k∧Reb D' w wr p seed sl count b k) (fun i _=>sl.length - (intOf i).toNat)
 case atStart=>exact ⟨0,Nat.zero_le _,rfl,reb_start HH.out D' hp' hq' hfew _ rfl⟩
 case round =>
  clear a0 a1 a2 a3 b0 b1 b2 b3 c0 c1 c2 c3 f0 f1 f2 f3 hmk
  obtain ⟨k,hk,rfl,sl',used',m',hI,hO,hu,hl',hP,hK⟩:=hrel
  rcases Nat.lt_or_ge k sl.length with hlt | hge
  ·obtain ⟨s,hks⟩:∃ s,sl[k]? = some s:=⟨_,List.getElem?_eq_getElem hlt⟩
   obtain ⟨go,rfl,hgo,hDgo,hgb⟩:=HH.out.block (by omega)
   have hgw:wr.heap[go]? = some (.cells (rowOf sl).toArray 267 (0,0)):=(hK.block go (lt_of_block hgb) (HD2.out go hgo (lt_of_block hgb))).trans hgb
   obtain ⟨e0,e1,e2,e3,-⟩:=slot_cells hgw hks
   by_cases h2:s.st=2
   ·rw [h2] at e0
    have hfr:=Part.fresh HO.out hP hks h2
    have hne:sl'≠[]:=by rintro rfl;simp at hl'
    have hsz:=HO.out.size k s hks
    have htk:=takenIn_le HO.out k
    have HS:Hid (sl[k]? = some s):=hks
    have HP:Hid (Part sl k m'):=hP
    have HL:Hid (sl'.length=4*(count+1)):=hl'
    have HU:Hid (used'≤takenIn sl k∧takenIn sl k≤count∧count≤b):=⟨hu,htk,hfew⟩
    have HI:Hid (IndexIn 267 158 D' wr p seed sl' used' (takenIn sl k) (some ⟨w.heap.size,0,none⟩)):=hI
    have HOk:Hid (Ok (hs seed) sl' used' (takenIn sl k) b m'):=hO
    have HN:Hid (m' s.key=none):=hfr
    have H2:Hid (s.st=2):=h2
    clear hks hP hl' hI hO hfr hgw hgb hu htk h2
    go_wp2_with (go_at_call 293;refine (find_miss HI.out HOk.out hs0 hne hb s.key (by unfold maxLen;omega) HN.out).mono ?_;rintro e w1 ⟨j,rfl,hF,q,rfl⟩;obtain ⟨t,d,ht,ht2,hjd,hjw⟩:=hF;have HT:Hid (sl'[j]? = some t∧t.st<2∧j=(hs seed s.key+d) % sl'.length∧∀ e,e<d→∃ t:Sl Sp,sl'[(hs seed s.key+e) % sl'.length]? = some t∧t.st≠0):=⟨ht,ht2,hjd,hjw⟩;clear ht ht2 hjd hjw)
    go_region_with (first | (go_at_call 301;refine (lay_at (w:=(wr.drewN q).drew) HI.out HT.out.1 HT.out.2.1 (by have:=HU.out;omega) (by have:=HU.out;omega) (by have:=HU.out;have:=HL.out;omega) s.key s.val).mono ?_;rintro e w2 ⟨rfl,hI2,hK2⟩))
    all_goals
     go_wp2
     go_roundw
     case rel=>exact ⟨k+1,hlt,by go_num,reb_next HO.out HS.out H2.out HOk.out HT.out.1 HT.out.2.1 HT.out.2.2.1 HT.out.2.2.2 HN.out HL.out HU.out HP.out hI2 (((hK.drewN q).drew).trans hK2)⟩
     case measure=>simp [intOf];omega
   ·have hst:=HO.out.st k s hks
    have HR:Hid (Reb D' w wr p seed sl count b (k+1)):=⟨sl',used',m',by rw [takenIn_skip hks h2];exact hI,by rw [takenIn_skip hks h2];exact hO,by rw [takenIn_skip hks h2];exact hu,hl',hP.skip hks h2,hK⟩
    clear hks hP hl' hI hO hgw hgb hu
    go_wp2
    go_roundw
    case rel=>exact ⟨k+1,hlt,by go_num,HR.out⟩
    case measure=>simp [intOf];omega
  ·have hk':k=sl.length:=by omega
   subst hk'
   have HR:Hid ((∃ sl' used' g',IndexIn 267 158 D wr p seed sl' used' count (some ⟨g',0,none⟩)∧Ok (hs seed) sl' used' count b m∧used'≤count∧sl'.length=4*(count+1))∧Keeps D w wr):=by
    rw [takenIn_all HO.out] at hI hO hu
    rw [Part.all HO.out hP] at hO
    exact ⟨⟨sl',used',_,hI.wide HD1.out,hO,hu,hl'⟩,hK.mono (fun k _=>HD1.out k)⟩
   clear hP hl' hI hO hu hK
   go_wp2
   go_end0
   exact ⟨rfl,HR.out⟩
end
end Go.Proofs.YtkkkkiejnmpdkaaGreatDoor.Twoq.Ix
namespace Go.Proofs.YtkkkkiejnmpdkaaGreatDoor.Twoq.Ix
open Go.Proofs.YtkkkkiejnmpdkaaGreatDoor.Ix
open Go.RowKit
section
variable {D:Nat→Prop} {w:World} {p g seed:Nat} {sl:List (Sl Sp)} {used count b:Nat} {ad:Option Addr} {m:ByteArray→Option Sp}
theorem new_any (w:World) (D:Nat→Prop) (hD:D w.heap.size) (s:Nat) (hs0:s<18446744073709551616) :
 Calls Tryz.prog 59 #[.int .u64 (s:Nat)] w fun e w'=>∃ p,e=.returned (.pointer (some ⟨p,0,none⟩))∧IX 267 158 D w' p (fun _=>none) 0∧Keeps D w w'∧p=w.heap.size:=by
 go_enter Tryz.func59,Tryz.ntmps59
 go_wp2
 go_ret
 exact ⟨_,rfl,IX.made 267 158 hD s hs0,(Keeps.refl D w).alloc _,rfl⟩
theorem zero_new (w:World):(w.alloc (.cells #[.int .i64 0,.int .i64 0] 96)).heap[w.heap.size]? = some (.cells #[.int .i64 0,.int .i64 0] 96 (0,0)):=heap_alloc_new w _
theorem gone_more {q j:Nat} {s:Sl Sp} {k:ByteArray} (hs0:seed<18446744073709551616) (H:IndexIn 267 158 D (w.alloc (.cells #[.int .i64 0,.int .i64 0] 96)) p seed sl used count (some ⟨g,0,none⟩)) (o:Ok (hs seed) sl used count b m) (hg:D g) (hj:sl[j]? = some s) (h2:s.st=2) (hk:s.key=k) (hp:p<w.heap.size) (hgo:g<w.heap.size) (v:Sp) :
 IX 267 158 D (((((((((w.alloc (.cells #[.int .i64 0,.int .i64 0] 96)).drewN q).setCell ⟨g,j*4,none⟩ (.int .u8 1)).setCell ⟨g,j*4+1,none⟩ (.string ⟨#[]⟩)).setCell ⟨g,j*4+2,none⟩ (.int .i64 0)).setCell ⟨g,j*4+3,none⟩ (.int .i64 0)).setCell ⟨p,3,none⟩ (.int .i64 ((count:Int) - 1))).setCell ⟨w.heap.size,0,none⟩ (.int .i64 (v.1:Nat))).setCell ⟨w.heap.size,1,none⟩ (.int .i64 (v.2:Nat)) |>.alloc (.cells #[.int .i64 (v.1:Nat),.int .i64 (v.2:Nat)] 96)) p (put m k none) b ∧
 Keeps D w (((((((((w.alloc (.cells #[.int .i64 0,.int .i64 0] 96)).drewN q).setCell ⟨g,j*4,none⟩ (.int .u8 1)).setCell ⟨g,j*4+1,none⟩ (.string ⟨#[]⟩)).setCell ⟨g,j*4+2,none⟩ (.int .i64 0)).setCell ⟨g,j*4+3,none⟩ (.int .i64 0)).setCell ⟨p,3,none⟩ (.int .i64 ((count:Int) - 1))).setCell ⟨w.heap.size,0,none⟩ (.int .i64 (v.1:Nat))).setCell ⟨w.heap.size,1,none⟩ (.int .i64 (v.2:Nat)) |>.alloc (.cells #[.int .i64 (v.1:Nat),.int .i64 (v.2:Nat)] 96)):=by
 subst hk
 obtain ⟨o',hc⟩:=o.gone (0,0) hj h2
 have h':=((H.drewN q).setSlot (by have:=lt_of_at hj;omega) j ⟨1,⟨#[]⟩,(0,0)⟩).setCount (count - 1)
 rw [show ((count - 1:Nat):Int)=(count:Int) - 1 by omega] at h'
 have k1:=(((((((Keeps.refl D w).alloc (.cells #[.int .i64 0,.int .i64 0] 96)).drewN q).setCell (p:=⟨g,j*4,none⟩) hg (.int .u8 1)).setCell (p:=⟨g,j*4+1,none⟩) hg (.string ⟨#[]⟩)).setCell (p:=⟨g,j*4+2,none⟩) hg (.int .i64 0)).setCell (p:=⟨g,j*4+3,none⟩) hg (.int .i64 0)).setCell (p:=⟨p,3,none⟩) H.1 (.int .i64 ((count:Int) - 1))
 exact ⟨⟨seed,_,_,_,_,hs0,h'.past (n:=w.heap.size) hp (fun g' e=>by cases e;exact hgo) ((((Keeps.refl (fun k=>w.heap.size≤k) _).setCell (p:=⟨w.heap.size,0,none⟩) (Nat.le_refl w.heap.size) _).setCell (p:=⟨w.heap.size,1,none⟩) (Nat.le_refl w.heap.size) _).alloc _),o'⟩,((k1.setNew (p:=⟨w.heap.size,0,none⟩) (Nat.le_refl w.heap.size) _).setNew (p:=⟨w.heap.size,1,none⟩) (Nat.le_refl w.heap.size) _).alloc _⟩
theorem get_hit (H:IX 267 158 D w p m b) (hb:b≤1000000) (k:ByteArray) (hk:k.size≤maxLen) {v:Sp} (hm:m k=some v) :
 Calls Tryz.prog 284 #[.pointer (some ⟨p,0,none⟩),.string k] w fun e w'=>e=.returned (.tuple #[V v,.bool true])∧Below w.heap.size w w':=by
 obtain ⟨seed,sl,used,count,ad,hs0,H,o⟩:=H
 have hbig:=o.big
 have hB:Hid (Below w.heap.size w (w.alloc (.cells #[.int .i64 0,.int .i64 0] 96))):=(Below.refl _ w).alloc (Nat.le_refl _) _
 have H1:=H.below hB.out
 obtain ⟨c0,c1,c2,c3,-⟩:=H1.top
 have y:=zero_new w
 have y0:=cell_of_block (j:=0) y
 have y1:=cell_of_block (j:=1) y
 have z0:=frozen_of_block (j:=0) y
 have z1:=frozen_of_block (j:=1) y
 simp at y0 y1
 have HH:Hid (IndexIn 267 158 D (w.alloc (.cells #[.int .i64 0,.int .i64 0] 96)) p seed sl used count ad):=H1
 have HO:Hid (Ok (hs seed) sl used count b m):=o
 have HM:Hid (m k=some v):=hm
 clear H H1 o hm y
 go_enter Tryz.func284,Tryz.ntmps284
 go_wp2_with (go_at_call 293;refine (find_hit HH.out HO.out hs0 hb k hk HM.out).mono ?_;rintro e w1 ⟨j,rfl,hj,q,rfl⟩;obtain ⟨s,hjs,h2,hkk,hv⟩:=HO.out.hit_at hj;rw [HM.out] at hv;have hjl:=lt_of_at hjs;obtain ⟨g,rfl,hgp,hDg,hg⟩:=HH.out.block (by omega);obtain ⟨d0,d1,d2,d3,-⟩:=slot_cells hg hjs;rw [← Option.some.inj hv] at d2 d3;clear hv hjs hg hj h2 hkk)
 exact bodyPost_ret (v:=.tuple #[V v,.bool true]) (by simp [results,Tryz.results284,go_sem]) rfl ⟨rfl,(((((Keeps.refl (fun k=>w.heap.size≤k) w).alloc _).drewN q).setCell (Nat.le_refl _) _).setCell (Nat.le_refl _) _).below (Nat.le_refl _) (fun _ h=>h)⟩
theorem get_miss (H:IX 267 158 D w p m b) (hb:b≤1000000) (k:ByteArray) (hk:k.size≤maxLen) (hm:m k=none) :
 Calls Tryz.prog 284 #[.pointer (some ⟨p,0,none⟩),.string k] w fun e w'=>e=.returned (.tuple #[V (0,0),.bool false])∧Below w.heap.size w w':=by
 obtain ⟨seed,sl,used,count,ad,hs0,H,o⟩:=H
 have hB:Hid (Below w.heap.size w (w.alloc (.cells #[.int .i64 0,.int .i64 0] 96))):=(Below.refl _ w).alloc (Nat.le_refl _) _
 have H1:=H.below hB.out
 have y:=zero_new w
 have y0:=cell_of_block (j:=0) y
 have y1:=cell_of_block (j:=1) y
 have z0:=frozen_of_block (j:=0) y
 have z1:=frozen_of_block (j:=1) y
 simp at y0 y1
 have HH:Hid (IndexIn 267 158 D (w.alloc (.cells #[.int .i64 0,.int .i64 0] 96)) p seed sl used count ad):=H1
 have HO:Hid (Ok (hs seed) sl used count b m):=o
 have HM:Hid (m k=none):=hm
 clear H H1 o hm y
 go_enter Tryz.func284,Tryz.ntmps284
 go_wp2_with (go_at_call 293;refine (find_not HH.out HO.out hs0 hb k hk HM.out).mono ?_;rintro e w1 ⟨j,rfl,q,rfl⟩)
 exact bodyPost_ret (v:=.tuple #[V (0,0),.bool false]) (by simp [results,Tryz.results284,go_sem]) rfl ⟨rfl,((((((Keeps.refl (fun k=>w.heap.size≤k) w).alloc _).drewN q).setCell (Nat.le_refl _) _).setCell (Nat.le_refl _) _).alloc _).below (Nat.le_refl _) (fun _ h=>h)⟩
theorem delete_miss (H:IX 267 158 D w p m b) (hb:b≤1000000) (k:ByteArray) (hk:k.size≤maxLen) (hm:m k=none) :
 Calls Tryz.prog 294 #[.pointer (some ⟨p,0,none⟩),.string k] w fun e w'=>e=.returned (.tuple #[V (0,0),.bool false])∧Below w.heap.size w w':=by
 obtain ⟨seed,sl,used,count,ad,hs0,H,o⟩:=H
 have hB:Hid (Below w.heap.size w (w.alloc (.cells #[.int .i64 0,.int .i64 0] 96))):=(Below.refl _ w).alloc (Nat.le_refl _) _
 have H1:=H.below hB.out
 have y:=zero_new w
 have y0:=cell_of_block (j:=0) y
 have y1:=cell_of_block (j:=1) y
 have z0:=frozen_of_block (j:=0) y
 have z1:=frozen_of_block (j:=1) y
 simp at y0 y1
 have HH:Hid (IndexIn 267 158 D (w.alloc (.cells #[.int .i64 0,.int .i64 0] 96)) p seed sl used count ad):=H1
 have HO:Hid (Ok (hs seed) sl used count b m):=o
 have HM:Hid (m k=none):=hm
 clear H H1 o hm y
 go_enter Tryz.func294,Tryz.ntmps294
 go_wp2_with (go_at_call 293;refine (find_not HH.out HO.out hs0 hb k hk HM.out).mono ?_;rintro e w1 ⟨j,rfl,q,rfl⟩)
 exact bodyPost_ret (v:=.tuple #[V (0,0),.bool false]) (by simp [results,Tryz.results294,go_sem]) rfl ⟨rfl,((((((Keeps.refl (fun k=>w.heap.size≤k) w).alloc _).drewN q).setCell (Nat.le_refl _) _).setCell (Nat.le_refl _) _).alloc _).below (Nat.le_refl _) (fun _ h=>h)⟩
set_option maxHeartbeats 1000000 in
theorem delete_hit (H:IX 267 158 D w p m b) (hb:b≤1000000) (k:ByteArray) (hk:k.size≤maxLen) {v:Sp} (hm:m k=some v) :
 Calls Tryz.prog 294 #[.pointer (some ⟨p,0,none⟩),.string k] w fun e w'=>e=.returned (.tuple #[V v,.bool true])∧IX 267 158 D w' p (put m k none) b∧Keeps D w w':=by
 obtain ⟨seed,sl,used,count,ad,hs0,H,o⟩:=H
 have hbig:=o.big
 have hfew:=o.few
 have hpo:=lt_of_block H.2.1
 have H1:Hid (IndexIn 267 158 D (w.alloc (.cells #[.int .i64 0,.int .i64 0] 96)) p seed sl used count ad):=H.below ((Below.refl _ w).alloc (Nat.le_refl _) _)
 obtain ⟨c0,c1,c2,c3,f0,f1,f2,f3⟩:=H.top
 have HH:Hid (IndexIn 267 158 D w p seed sl used count ad):=H
 have HO:Hid (Ok (hs seed) sl used count b m):=o
 have HM:Hid (m k=some v):=hm
 clear H o hm
 go_enter Tryz.func294,Tryz.ntmps294
 go_wp2_with (go_at_call 293;refine (find_hit H1.out HO.out hs0 hb k hk HM.out).mono ?_;rintro e w1 ⟨j,rfl,hj,q,rfl⟩;obtain ⟨s,hjs,h2,hkk,hv⟩:=HO.out.hit_at hj;rw [HM.out] at hv;have hjl:=lt_of_at hjs;obtain ⟨g,rfl,hgp,hDg,hg⟩:=HH.out.block (by omega);obtain ⟨d0,d1,d2,d3,e0,e1,e2,e3⟩:=slot_cells hg hjs;rw [← Option.some.inj hv] at d2 d3;have HJ:Hid (sl[j]? = some s∧s.st=2∧s.key=k):=⟨hjs,h2,hkk⟩;have hc1:=(HO.out.gone (0,0) hjs h2).2;have hgo:=lt_of_block hg;clear hv hjs hg hj h2 hkk)
 exact bodyPost_ret (v:=.tuple #[V v,.bool true]) (by simp [results,Tryz.results294,go_sem]) rfl ⟨rfl,gone_more hs0 H1.out HO.out hDg HJ.out.1 HJ.out.2.1 HJ.out.2.2 hpo hgo v⟩
end
end Go.Proofs.YtkkkkiejnmpdkaaGreatDoor.Twoq.Ix
namespace Go.Proofs.YtkkkkiejnmpdkaaGreatDoor.Twoq.Ix
open Go.Proofs.YtkkkkiejnmpdkaaGreatDoor.Ix
open Go.RowKit
section
variable {D:Nat→Prop} {w:World} {p g seed:Nat} {sl:List (Sl Sp)} {used count b:Nat} {ad:Option Addr} {m:ByteArray→Option Sp}
theorem over_end {b':Nat} (hbb:b≤b') {w1:World} {q j:Nat} {s:Sl Sp} {k:ByteArray} (hs0:seed<18446744073709551616) (H:IndexIn 267 158 D w1 p seed sl used count (some ⟨g,0,none⟩)) (o:Ok (hs seed) sl used count b m) (hg:D g) (hj:sl[j]? = some s) (h2:s.st=2) (hk:s.key=k) (v:Sp) (h1:Keeps D w w1) :
 IX 267 158 D (((w1.drewN q).setCell ⟨g,j*4+2,none⟩ (.int .i64 (v.1:Nat))).setCell ⟨g,j*4+3,none⟩ (.int .i64 (v.2:Nat))) p (put m k (some v)) b'∧Keeps D w (((w1.drewN q).setCell ⟨g,j*4+2,none⟩ (.int .i64 (v.1:Nat))).setCell ⟨g,j*4+3,none⟩ (.int .i64 (v.2:Nat))):=by
 subst hk
 exact ⟨⟨seed,_,_,_,_,hs0,(H.drewN q).setVal hj v,(o.over v hj h2).more hbb⟩,((h1.drewN q).setCell hg _).setCell hg _⟩
theorem lay_end {b':Nat} (hbb:b≤b') (hcb:count+1≤b') {w1:World} {j d:Nat} {s:Sl Sp} {k:ByteArray} {v:Sp} (hs0:seed<18446744073709551616) (o:Ok (hs seed) sl used count b m) (hj:sl[j]? = some s) (hst:s.st<2) (hd:j=(hs seed k+d) % sl.length) (hw:∀ e,e<d→∃ t:Sl Sp,sl[(hs seed k+e) % sl.length]? = some t∧t.st≠0)
 (hm:m k=none) (hr:2*(used+1)<sl.length) (hk:k.size≤1000) (H:IndexIn 267 158 D w1 p seed (sl.set j ⟨2,k,v⟩) (if s.st=0 then used+1 else used) (count+1) ad) :
 IX 267 158 D w1 p (put m k (some v)) b' :=
 ⟨seed,_,_,_,_,hs0,H,(o.more hbb).lay v hj hst hd hw hm hr hcb hk⟩
def SpotAt (w:World) (n:Nat) (v:Sp):Prop:=w.heap[n]? = some (.cells #[.int .i64 (v.1:Nat),.int .i64 (v.2:Nat)] 96 (0,0))
theorem SpotAt.cells {w:World} {n:Nat} {v:Sp} (h:SpotAt w n v):w.cell? ⟨n,0,none⟩=some (.int .i64 (v.1:Nat))∧w.cell? ⟨n,1,none⟩=some (.int .i64 (v.2:Nat))∧n<w.heap.size:=by
 refine ⟨?_,?_,lt_of_block h⟩ <;> rw [cell_of_block h] <;> rfl
theorem SpotAt.kept {D:Nat→Prop} {w w':World} {n:Nat} {v:Sp} (h:SpotAt w n v) (hk:Keeps D w w') (hn:¬ D n):SpotAt w' n v:=(hk.block n (lt_of_block h) hn).trans h
theorem SpotAt.below {w w':World} {n:Nat} {v:Sp} (h:SpotAt w n v) (hk:Below w.heap.size w w'):SpotAt w' n v:=(hk.block n (lt_of_block h)).trans h
theorem SpotAt.later {w w':World} {n:Nat} {v:Sp} (hk:Below w.heap.size w w') (h:SpotAt w n v):SpotAt w' n v:=h.below hk
theorem SpotAt.drewN {w:World} {n:Nat} {v:Sp} (h:SpotAt w n v) (q:Nat):SpotAt (w.drewN q) n v:=h
set_option maxHeartbeats 1000000 in
theorem put_wide {b':Nat} (hbb:b≤b') (hcb:count+1≤b') (hs0:seed<18446744073709551616) (H:IndexIn 267 158 D w p seed sl used count ad) (o:Ok (hs seed) sl used count b m) (k:ByteArray) (hk:k.size≤1000) (v:Sp) (hb:b≤999999) (hr:2*(used+1)<sl.length) :
 Calls Tryz.prog 295 #[.pointer (some ⟨p,0,none⟩),.string k,V v] w fun e w'=>e=.returned (.bool (m k).isNone)∧IX 267 158 D w' p (put m k (some v)) b'∧Keeps D w w':=by
 have hbig:=o.big
 have hfew:=o.few
 have hpo:=lt_of_block H.2.1
 obtain ⟨c0,c1,c2,c3,f0,f1,f2,f3⟩:=H.top
 have H0:Hid (IndexIn 267 158 D (w.alloc (.cells #[.int .i64 (v.1:Nat),.int .i64 (v.2:Nat)] 96)) p seed sl used count ad):=H.below ((Below.refl _ w).alloc (Nat.le_refl _) _)
 have HK0:Hid (Keeps D w (w.alloc (.cells #[.int .i64 (v.1:Nat),.int .i64 (v.2:Nat)] 96))):=(Keeps.refl D w).alloc _
 have HS0:Hid (SpotAt (w.alloc (.cells #[.int .i64 (v.1:Nat),.int .i64 (v.2:Nat)] 96)) w.heap.size v):=heap_alloc_new w _
 have HH:Hid (IndexIn 267 158 D w p seed sl used count ad):=H
 have HO:Hid (Ok (hs seed) sl used count b m):=o
 have hne:sl≠[]:=by rintro rfl;simp at hr
 have hrI:¬ ((sl.length:Int)≤2*((used:Int)+1)):=by omega
 clear H o
 cases hm:m k with
 | some x =>
   have HM:Hid (m k=some x):=hm
   clear hm
   go_enter Tryz.func295,Tryz.ntmps295
   go_wp2
   go_quiet (fail)
   go_wp2_with (go_at_call 293;refine (find_hit (H0.out.drewN _) HO.out hs0 (by omega) k (by unfold maxLen;omega) HM.out).mono ?_;rintro e w1 ⟨j,rfl,hj,q,rfl⟩;obtain ⟨s,hjs,h2,hkk,hv⟩:=HO.out.hit_at hj;have hjl:=lt_of_at hjs;obtain ⟨g,rfl,hgp,hDg,hg⟩:=HH.out.block (by omega);obtain ⟨d0,d1,d2,d3,e0,e1,e2,e3⟩:=slot_cells hg hjs;have hgo:=lt_of_block hg;have HJ:Hid (sl[j]? = some s∧s.st=2∧s.key=k):=⟨hjs,h2,hkk⟩;clear hv hjs hg hj h2 hkk)
   go_region
   all_goals go_wp2
   go_ret
   exact ⟨rfl,over_end hbb hs0 H0.out HO.out hDg HJ.out.1 HJ.out.2.1 HJ.out.2.2 v HK0.out⟩
 | none =>
   have HM:Hid (m k=none):=hm
   clear hm
   go_enter Tryz.func295,Tryz.ntmps295
   go_wp2
   go_quiet (fail)
   go_wp2_with (go_at_call 293;refine (find_miss (H0.out.drewN _) HO.out hs0 hne (by omega) k (by unfold maxLen;omega) HM.out).mono ?_;rintro e w1 ⟨j,rfl,hF,q,rfl⟩;obtain ⟨t,d,ht,ht2,hjd,hjw⟩:=hF;have HT:Hid (sl[j]? = some t∧t.st<2∧j=(hs seed k+d) % sl.length∧∀ e,e<d→∃ t:Sl Sp,sl[(hs seed k+e) % sl.length]? = some t∧t.st≠0):=⟨ht,ht2,hjd,hjw⟩;clear ht ht2 hjd hjw)
   go_region_with (first
    | (go_at_call 197;refine (clone_any k hk _).mono ?_;rintro e w2 ⟨rfl,hb2⟩;obtain ⟨y0,y1,-⟩:=(SpotAt.later hb2 HS0.out).cells)
    | (go_at_call 301;refine (lay_at (IndexIn.later hb2 H0.out) HT.out.1 HT.out.2.1 (by omega) (by omega) (by omega) k v).mono ?_;rintro e w3 ⟨rfl,hI3,hK3⟩))
   all_goals
    go_wp2
    go_ret
    refine ⟨rfl,lay_end hbb hcb hs0 HO.out HT.out.1 HT.out.2.1 HT.out.2.2.1 HT.out.2.2.2 HM.out hr hk hI3,Keeps.trans (Keeps.trans ?_ (Keeps.of_below hb2)) hK3⟩
    first | exact (HK0.out.drewN _).drew | exact HK0.out.drewN _ | exact HK0.out.drew
set_option maxHeartbeats 2000000 in
theorem put_grow {b' : Nat} (hbb : b ≤ b') (hcb : count + 1 ≤ b') (hs0 : seed < 18446744073709551616) (H : IndexIn 267 158 D w p seed sl used count ad) (o : Ok (hs seed) sl used count b m) (hD : ∀ k, w.heap.size ≤ k → D k) (k : ByteArray) (hk : k.size ≤ 1000) (v : Sp) (hb : b ≤ 999999) (hr : sl.length ≤ 2 * (used + 1)) :
    Calls Tryz.prog 295 #[.pointer (some ⟨p, 0, none⟩), .string k, V v] w fun e w' => e = .returned (.bool (m k).isNone) ∧ IX 267 158 D w' p (put m k (some v)) b' ∧ Keeps D w w' := by
  have hbig := o.big
  have hfew := o.few
  have hpo := lt_of_block H.2.1
  have huse : used ≤ 8000008 := by rcases o.room with e | e
                                   · have := o.used_; rw [e] at this; simp at this; omega
                                   · omega
  obtain ⟨c0, c1, c2, c3, f0, f1, f2, f3⟩ := H.top
  obtain ⟨D1, hD1⟩ : ∃ D1 : Nat → Prop, D1 = fun k => D k ∧ k ≠ w.heap.size := ⟨_, rfl⟩
  have HW : Hid (∀ k, D1 k → D k) := by rw [hD1]; exact fun k h => h.1
  have HN : Hid (¬ D1 w.heap.size) := by rw [hD1]; exact fun h => h.2 rfl
  have HD : Hid (∀ k, (w.alloc (.cells #[.int .i64 (v.1 : Nat), .int .i64 (v.2 : Nat)] 96)).heap.size ≤ k → D1 k) := by
    rw [hD1]
    intro k h
    rw [World.size_alloc] at h
    exact ⟨hD k (by omega), by omega⟩
  have H0 : Hid (IndexIn 267 158 D1 (w.alloc (.cells #[.int .i64 (v.1 : Nat), .int .i64 (v.2 : Nat)] 96)) p seed sl used count ad) := (H.narrow.below ((Below.refl _ w).alloc (Nat.le_refl _) _)).wide (by rw [hD1]; exact fun k h => ⟨h.1, by omega⟩)
  have HK0 : Hid (Keeps D1 w (w.alloc (.cells #[.int .i64 (v.1 : Nat), .int .i64 (v.2 : Nat)] 96))) := (Keeps.refl D1 w).alloc _
  have HS0 : Hid (SpotAt (w.alloc (.cells #[.int .i64 (v.1 : Nat), .int .i64 (v.2 : Nat)] 96)) w.heap.size v) := heap_alloc_new w _
  have HO : Hid (Ok (hs seed) sl used count b m) := o
  have hrI : (sl.length : Int) ≤ 2 * ((used : Int) + 1) := by omega
  clear H o hD hD1
  cases hm : m k with
  | some x =>
    have HM : Hid (m k = some x) := hm
    clear hm
    go_enter Tryz.func295, Tryz.ntmps295
    go_wp2
    go_quiet (fail)
    go_wp2_with (first
      | (go_at_call 300; refine (rebuild_at (H0.out.drewN _) HO.out hs0 HD.out (by omega)).mono ?_; rintro e w1 ⟨rfl, ⟨sl1, u1, g1, H1, o1, hu1, hl1⟩, hK1⟩; have HH1 : Hid (IndexIn 267 158 D1 w1 p seed sl1 u1 count (some ⟨g1, 0, none⟩)) := H1; have HO1 : Hid (Ok (hs seed) sl1 u1 count b m) := o1; have HL1 : Hid (sl1.length = 4 * (count + 1)) := hl1; have hl2 : sl1.length ≤ 10000000 := (by omega); obtain ⟨t0, t1, t2, t3, -⟩ := H1.top; obtain ⟨y0, y1, -⟩ := (SpotAt.kept (HS0.out.drewN _) hK1 HN.out).cells; clear H1 o1 hl1 c0 c1 c2 c3 f0 f1 f2 f3)
      | (go_at_call 293; refine (find_hit HH1.out HO1.out hs0 (by omega) k (by unfold maxLen; omega) HM.out).mono ?_; rintro e w2 ⟨j, rfl, hj, q, rfl⟩; obtain ⟨s, hjs, h2, hkk, hv⟩ := HO1.out.hit_at hj; have hjl := lt_of_at hjs; obtain ⟨g, eg, hgp, hDg, hg⟩ := HH1.out.block (by omega); cases eg; obtain ⟨d0, d1, d2, d3, e0, e1, e2, e3⟩ := slot_cells hg hjs; have HJ : Hid (sl1[j]? = some s ∧ s.st = 2 ∧ s.key = k) := ⟨hjs, h2, hkk⟩; clear hv hjs hg hj h2 hkk))
    go_region
    all_goals go_wp2
    go_ret
    have h9 := over_end (q := q) hbb hs0 HH1.out HO1.out hDg HJ.out.1 HJ.out.2.1 HJ.out.2.2 v ((HK0.out.drewN _).trans hK1)
    exact ⟨rfl, (h9.1.wide HW.out).drew, (h9.2.mono (fun k _ => HW.out k)).drew⟩
  | none =>
    have HM : Hid (m k = none) := hm
    clear hm
    go_enter Tryz.func295, Tryz.ntmps295
    go_wp2
    go_quiet (fail)
    go_wp2_with (first
      | (go_at_call 300; refine (rebuild_at (H0.out.drewN _) HO.out hs0 HD.out (by omega)).mono ?_; rintro e w1 ⟨rfl, ⟨sl1, u1, g1, H1, o1, hu1, hl1⟩, hK1⟩; have HH1 : Hid (IndexIn 267 158 D1 w1 p seed sl1 u1 count (some ⟨g1, 0, none⟩)) := H1; have HO1 : Hid (Ok (hs seed) sl1 u1 count b m) := o1; have HL1 : Hid (sl1.length = 4 * (count + 1)) := hl1; have hl2 : sl1.length ≤ 10000000 := (by omega); have hne : sl1 ≠ [] := (by rintro rfl; simp at hl1); have HS1 : Hid (SpotAt w1 w.heap.size v) := SpotAt.kept (HS0.out.drewN _) hK1 HN.out; obtain ⟨y0, y1, -⟩ := HS1.out.cells; clear H1 o1 hl1 c0 c1 c2 c3 f0 f1 f2 f3)
      | (go_at_call 293; refine (find_miss HH1.out HO1.out hs0 hne (by omega) k (by unfold maxLen; omega) HM.out).mono ?_; rintro e w2 ⟨j, rfl, hF, q, rfl⟩; obtain ⟨t, d, ht, ht2, hjd, hjw⟩ := hF; have HT : Hid (sl1[j]? = some t ∧ t.st < 2 ∧ j = (hs seed k + d) % sl1.length ∧ ∀ e, e < d → ∃ t : Sl Sp, sl1[(hs seed k + e) % sl1.length]? = some t ∧ t.st ≠ 0) := ⟨ht, ht2, hjd, hjw⟩; clear ht ht2 hjd hjw))
    go_region_with (first
      | (go_at_call 197; refine (clone_any k hk _).mono ?_; rintro e w3 ⟨rfl, hb2⟩; obtain ⟨u0, u1', -⟩ := (SpotAt.later hb2 HS1.out).cells)
      | (go_at_call 301; refine (lay_at (IndexIn.later hb2 HH1.out) HT.out.1 HT.out.2.1 (by omega) (by omega) (by omega) k v).mono ?_; rintro e w4 ⟨rfl, hI3, hK3⟩))
    all_goals
      go_wp2
      go_ret
      refine ⟨rfl, (lay_end hbb hcb hs0 HO1.out HT.out.1 HT.out.2.1 HT.out.2.2.1 HT.out.2.2.2 HM.out (by have := HL1.out; omega) hk hI3).wide HW.out, Keeps.mono (Keeps.trans (Keeps.trans ?_ (Keeps.of_below hb2)) hK3) (fun k _ => HW.out k)⟩
      first | exact ((HK0.out.drewN _).trans hK1).drewN _ |>.drew | exact ((HK0.out.drewN _).trans hK1).drewN _ | exact ((HK0.out.drewN _).trans hK1).drew
theorem put_any (H:IX 267 158 D w p m b) (hD:∀ k,w.heap.size≤k→D k) (k:ByteArray) (hk:k.size≤1000) (v:Sp) (hb:b≤999999) :
 Calls Tryz.prog 295 #[.pointer (some ⟨p,0,none⟩),.string k,V v] w fun e w'=>e=.returned (.bool (m k).isNone)∧IX 267 158 D w' p (put m k (some v)) (b+1)∧Keeps D w w':=by
 obtain ⟨seed,sl,used,count,ad,hs0,H,o⟩:=H
 by_cases hr:2*(used+1)<sl.length
 ·exact put_wide (Nat.le_succ b) (by have:=o.few;omega) hs0 H o k hk v hb hr
 ·exact put_grow (Nat.le_succ b) (by have:=o.few;omega) hs0 H o hD k hk v hb (by omega)
end
end Go.Proofs.YtkkkkiejnmpdkaaGreatDoor.Twoq.Ix
