/- Twoq Eu: Ah Ca Eu -/
import Derived.Test.YtkkkkiejnmpdkaaGreatDoorAg
import Derived.Test.YtkkkkiejnmpdkaaGreatDoorTwoqEf
import Derived.Test.YtkkkkiejnmpdkaaGreatDoorTwoqEo
import Derived.StillTail
import Derived.WalkKit
namespace Go.Proofs.YtkkkkiejnmpdkaaGreatDoor.Twoq
open Go.RowKit
def inb (key:ByteArray) (zs:List ByteArray):Bool:=decide (0<A.cnt key zs)
theorem inb_yes {key:ByteArray} {zs:List ByteArray} (h:key∈zs):inb key zs=true:=by
 unfold inb
 rw [decide_eq_true_eq]
 exact A.cnt_pos.2 h
theorem inb_no {key:ByteArray} {zs:List ByteArray} (h:key∉zs):inb key zs=false:=by
 unfold inb
 rw [decide_eq_false_iff_not,A.cnt_zero.2 h]
 omega
section
variable {D:Nat→Prop} {w w':World} {e b:Nat} {s:Stt}
set_option maxHeartbeats 1000000 in
theorem has_any (H:AE e b s D w) (hb:b≤900000) (key:ByteArray) (hk:key.size≤1000) :
 Calls Tryz.prog 276 #[.pointer (some ⟨e,0,none⟩),.string key] w fun ee w'=>ee=.returned (.bool (inb key (A.keys s)))∧Below w.heap.size w w':=by
 obtain ⟨x,c6,hx⟩:=EN.get H hb key hk
 have HE:Hid (AE e b s D w):=H
 have heo:=(EN.cells H).2.2.2.1
 clear H
 rcases hx with ⟨hn,hf⟩ | ⟨i,h,hi,hin,hot,hf⟩
 ·have HN:Hid (key∉A.keys s):=by
   show key∉A.keys s
   have h0:=hn 0 (by omega);have h1:=hn 2 (by omega)
   unfold A.keys
   rw [List.mem_append]
   exact fun h=>h.elim h0 h1
  have HF:Hid _:=hf
  clear hn hf
  go_enter Tryz.func276,Tryz.ntmps276
  go_wp2_with (first
   | (go_at_call 283;refine (blank_any HE.out).mono ?_;rintro ee w1 ⟨rfl,rfl⟩)
   | (go_at_call 284;refine (HF.out _ (Below.refl _ _)).mono ?_;rintro ee w2 ⟨rfl,hb2⟩;have hb2':Below w1.heap.size w1 (w2.alloc (.cells #[.int .i64 0,.int .i64 0] 96)):=hb2.alloc hb2.size _))
  go_ret
  exact ⟨by rw [inb_no HN.out];rfl,hb2'⟩
 ·have HK0:(decide (i≠1)=true)↔key∈A.keys s:=by
   unfold A.keys
   rw [List.mem_append,decide_eq_true_eq]
   constructor
   ·intro h2
    have:i=0∨i=2:=by omega
    rcases this with e1 | e1 <;> subst e1
    ·exact .inl hin
    ·exact .inr hin
   ·intro h2 h3
    subst h3
    rcases h2 with h4 | h4
    ·exact hot 0 (by omega) (by omega) h4
    ·exact hot 2 (by omega) (by omega) h4
  have HK:Hid (decide (((i,h):Ix.Sp).1≠1)=inb key (A.keys s)):=by
   show decide (i≠1)=inb key (A.keys s)
   by_cases hm:key∈A.keys s
   ·rw [inb_yes hm];exact HK0.2 hm
   ·rw [inb_no hm]
    cases hd:decide (i≠1) with
    | true=>exact absurd (HK0.1 hd) hm
    | false=>rfl
  have HF:Hid _:=hf
  clear hot hf hin HK0
  go_enter Tryz.func276,Tryz.ntmps276
  go_wp2_with (first
   | (go_at_call 283;refine (blank_any HE.out).mono ?_;rintro ee w1 ⟨rfl,rfl⟩)
   | (go_at_call 284;refine (HF.out _ (Below.refl _ _)).mono ?_;rintro ee w2 ⟨rfl,hb2⟩;have hb2':Below w1.heap.size w1 (w2.alloc (.cells #[.int .i64 (i:Nat),.int .i64 (h:Nat)] 96)):=hb2.alloc hb2.size _)
   | (go_at_call 285;refine (resident_any (i,h)).mono ?_;rintro ee w3 ⟨rfl,hb3⟩;have hb3':=below_trans hb2' hb3))
  go_ret
  exact ⟨by rw [← HK.out];exact congrArg (fun x=>Ending.returned (Value.bool x)) decide_not.symm,hb3'⟩
end
end Go.Proofs.YtkkkkiejnmpdkaaGreatDoor.Twoq
namespace Go.Proofs.YtkkkkiejnmpdkaaGreatDoor.Twoq
open Go.RowKit
def IntsAt (w:World) (g:Nat) (is:List Nat):Prop:=w.heap[g]? = some (.cells (is.map (fun i:Nat=>Value.int .i64 (i:Nat))).toArray 3 (0,0))
theorem IntsAt.at {w:World} {g:Nat} {is:List Nat} (h:IntsAt w g is) {j i:Nat} (hj:is[j]? = some i):w.cell? ⟨g,j,none⟩=some (.int .i64 (i:Nat)):=by
 rw [cell_of_block h,List.getElem?_toArray,List.getElem?_map,hj]
 rfl
def allOf (Q:Nat→List ByteArray) (is:List Nat):List ByteArray:=is.flatMap Q
theorem allOf_more {Q:Nat→List ByteArray} {is:List Nat} {j i:Nat} (hj:is[j]? = some i):allOf Q (is.take (j+1))=allOf Q (is.take j)++Q i:=by
 unfold allOf
 rw [List.take_add_one,hj]
 simp
section
variable {D:Nat→Prop} {w:World} {e b:Nat} {s:Stt}
theorem allOf_len (H:AE e b s D w) {is:List Nat} (his:∀ i∈is,i<3):(allOf (qs s) is).length≤is.length*b:=by
 induction is with
 | nil=>simp [allOf]
 | cons i is ih =>
   have h1:=EN.lens H (his i (by simp))
   have h2:=ih (fun j hj=>his j (by simp [hj]))
   simp only [allOf,List.flatMap_cons,List.length_append,List.length_cons,Nat.add_mul] at h2 ⊢
   omega
def Cells (w:World) (ad:Option Addr) (ga:Nat) (zs:List ByteArray):Prop:=∀ j k,zs[j]? = some k→ad=some ⟨ga,0,none⟩∧w.cell? ⟨ga,j,none⟩=some (.string k)
theorem Cells.of {W w':World} {ad:Option Addr} {cap ge:Nat} {zs:List ByteArray} (h:w'.ownsRow W.heap.size 9 1 (.slice ad zs.length cap) zs.length (zs.map Value.string)) (hge:ge<W.heap.size) (hs:W.heap.size≤w'.heap.size):∃ ga,Cells w' ad ga zs∧ga<w'.heap.size∧(ga=ge∨W.heap.size≤ga):=by
 cases zs with
 | nil=>exact ⟨ge,fun j k hj=>by simp at hj,by omega,.inl rfl⟩
 | cons z zs =>
   obtain ⟨g,cur,rfl,hb,hg,hc⟩:=Ls.ownsRow_block h (by simp)
   exact ⟨g,fun j k hj=>⟨rfl,hc j _ (by rw [List.getElem?_map,hj];rfl)⟩,lt_of_block hg,.inr hb⟩
theorem Cells.keeps {E:Nat→Prop} {W w':World} {ad:Option Addr} {ga:Nat} {zs:List ByteArray} (h:Cells W ad ga zs) (hk:Keeps E W w') (hg:ga<W.heap.size) (hE:¬ E ga):Cells w' ad ga zs :=
 fun j k hj=>⟨(h j k hj).1,by rw [World.cell?_of_block (hk.block ga hg hE)];exact (h j k hj).2⟩
set_option maxRecDepth 100000 in
set_option maxHeartbeats 1000000 in
theorem copies_any (H:AE e b s D w) (hb:b≤100000) {g:Nat} {is:List Nat} (hg:IntsAt w g is) (his:∀ i∈is,i<3) (hl:is.length≤4) :
 Calls Tryz.prog 290 #[.pointer (some ⟨e,0,none⟩),.slice (some ⟨g,0,none⟩) is.length is.length] w fun ee w'=>∃ ad cap,ee=.returned (.slice ad (allOf (qs s) is).length cap)∧Row (w.heap.size≤·) w' ad cap (allOf (qs s) is)∧Below w.heap.size w w':=by
 have HE:Hid (AE e b s D w):=H
 have HG:Hid (IntsAt w g is):=hg
 have HEo:Hid (e<w.heap.size):=(EN.cells H).2.2.2.1
 have HI:Hid (∀ i∈is,i<3):=his
 clear H hg his
 go_enter Tryz.func290,Tryz.ntmps290
 go_wp2_with fail
 go_loopw [5,12] (fun v i wr=>∃ (k:Nat) (ad:Option Addr) (cp:Nat),k≤is.length∧i=.int .i64 k∧v=.slice ad (allOf (qs s) (is.take k)).length cp∧Row (w.heap.size≤·) wr ad cp (allOf (qs s) (is.take k))∧Below w.heap.size w wr) (fun _ i _=>is.length - (intOf i).toNat)
 case atStart=>exact ⟨0,none,0,Nat.zero_le _,rfl,rfl,Row.nil,Below.refl _ _⟩
 case round =>
  obtain ⟨k,ad,cp,hk,rfl,rfl,hrow,hB⟩:=hrel
  have HRow:Hid (Row (w.heap.size≤·) wr ad cp (allOf (qs s) (is.take k))):=hrow
  have HB:Hid (Below w.heap.size w wr):=hB
  have hTl:(allOf (qs s) (is.take k)).length≤400000:=by
   have h1:=allOf_len HE.out (is:=is.take k) (fun i hi=>HI.out i (List.mem_of_mem_take hi))
   have h2:(is.take k).length*b≤4*100000:=Nat.mul_le_mul (by simp;omega) hb
   omega
  rcases Nat.lt_or_ge k is.length with hlt | hge
  ·obtain ⟨i,hi⟩:∃ i,is[k]? = some i:=⟨_,List.getElem?_eq_getElem hlt⟩
   have hi3:=HI.out i (List.mem_of_getElem? hi)
   have hgb:IntsAt wr g is:=(hB.block g (lt_of_block HG.out)).trans HG.out
   have ci:=hgb.at hi
   obtain ⟨pr,-,hall⟩:=EN.all HE.out (by omega) hi3
   obtain ⟨cr,hall⟩:=hall wr hB
   have HAll:Hid _:=hall
   have heo:=(EN.cells (EN.below HE.out hB)).2.2.2.1
   have HM:Hid (allOf (qs s) (is.take (k+1))=allOf (qs s) (is.take k)++qs s i):=allOf_more hi
   have hqs:∀ x∈qs s i,x.size≤1000:=fun x hx=>EN.size HE.out hi3 hx
   have HQs:Hid _:=hqs
   have hql:(qs s i).length≤100000:=Nat.le_trans (EN.lens HE.out hi3) hb
   clear hrow hB hi hgb hall hqs
   generalize allOf (qs s) (is.take k)=T at *
   generalize qs s i=R at *
   go_wp2_with (go_at_call 192;refine Calls.mono HAll.out ?_;rintro ee w3 ⟨a3,c3,rfl,hown3,hb3⟩;obtain ⟨ga,hc3,hg3,hg4⟩:=Cells.of hown3 heo hb3.size;have HC3:Hid (Cells w3 a3 ga R):=hc3;have HB3:Hid (Below w.heap.size w w3):=(below_trans' HB.out hb3);have HR3:Hid (Row (fun x=>w.heap.size≤x∧x≠ga) w3 ad cp T):=((HRow.out.narrow.below hb3).wide (fun x _ hx=>⟨hx.1,fun e=>by have h1:=HEo.out;have h2:=hx.1;have h3:=hx.2;rcases hg4 with h | h <;> omega⟩));have HGa:Hid (ga<w3.heap.size):=hg3;clear hown3 hb3 hc3 hg3 hg4)
   go_loopw [5,24] (fun v i wx=>∃ (j:Nat) (ad4:Option Addr) (cp4:Nat),j≤R.length∧i=.int .i64 j∧v=.slice ad4 (T++R.take j).length cp4∧Row (fun x=>w.heap.size≤x∧x≠ga) wx ad4 cp4 (T++R.take j)∧Cells wx a3 ga R∧Below w.heap.size w wx∧w3.heap.size≤wx.heap.size) (fun _ i _=>R.length - (intOf i).toNat)
   case atStart=>exact ⟨0,ad,cp,Nat.zero_le _,rfl,by simp,by simpa using HR3.out,HC3.out,HB3.out,Nat.le_refl _⟩
   case round =>
    obtain ⟨j,ad4,cp4,hj,rfl,rfl,hr4,hc4,hb4,hs4⟩:=hrel
    have HR4:Hid (Row (fun x=>w.heap.size≤x∧x≠ga) wr ad4 cp4 (T++R.take j)):=hr4
    have HC4:Hid (Cells wr a3 ga R):=hc4
    have HB4:Hid (Below w.heap.size w wr):=hb4
    have hTj:(T++R.take j).length≤999999:=by simp;omega
    clear hr4 HC3 HB3 HR3 hb4
    rcases Nat.lt_or_ge j R.length with hlj | hgj
    ·obtain ⟨key,hkey⟩:∃ key,R[j]? = some key:=⟨_,List.getElem?_eq_getElem hlj⟩
     obtain ⟨rfl,ck⟩:=hc4 j key hkey
     have hks:key.size≤1000:=HQs.out key (List.mem_of_getElem? hkey)
     have HT:Hid (T++R.take (j+1)=T++R.take j++[key]):=by
      show T++R.take (j+1)=T++R.take j++[key]
      rw [List.take_add_one,hkey]
      simp
     clear hc4 hkey
     generalize T++R.take j=U at *
     go_wp2_with (first
      | (go_at_call 197;refine (Ix.clone_any key hks _).mono ?_;rintro ee w5 ⟨rfl,hb5⟩;have HR5:Hid (Row (fun x=>w.heap.size≤x∧x≠ga) w5 ad4 cp4 U):=(HR4.out.below hb5);have HC5:Hid (Cells w5 (some ⟨ga,0,none⟩) ga R):=(HC4.out.keeps (E:=fun _=>False) (.of_below hb5) (Nat.lt_of_lt_of_le HGa.out hs4) (fun h=>h));have HB5:Hid (Below w.heap.size w w5):=(below_trans' HB4.out hb5);have hs5:w3.heap.size≤w5.heap.size:=(Nat.le_trans hs4 hb5.size);clear hb5)
      | (at_builtin;go_must (refine wpList_append_row (ks:=[key]) rfl _ _ rfl rfl (HR5.out.below ((Below.refl _ _).alloc (Nat.le_refl _) _)) rfl (src_one _ key) (by simp;omega) ?_);intro a6 n6 w6 hr6 hk6;have HB6:Hid (Below w.heap.size w w6):=((((Keeps.of_below (D:=fun x=>w.heap.size≤x) HB5.out).alloc _).trans (hk6.mono (fun _ _ h=>h.1))).below (Nat.le_refl _) (fun _ h=>h));have hs6:w3.heap.size≤w6.heap.size:=(Nat.le_trans hs5 (Nat.le_trans (by simp) hk6.size));have HR6:Hid (Row (fun x=>w.heap.size≤x∧x≠ga) w6 a6 n6 (U++[key])):=(hr6.wide (fun x _ h=>by rcases h with h | h;exact h;exact ⟨Nat.le_trans HB5.out.size (Nat.le_trans (by simp) h),fun e=>by have:=HGa.out;simp at h;omega⟩));have HC6:Hid (Cells w6 (some ⟨ga,0,none⟩) ga R):=((HC5.out.keeps (E:=fun _=>False) ((Keeps.refl _ _).alloc _) (Nat.lt_of_lt_of_le HGa.out hs5) (fun h=>h)).keeps hk6 (Nat.lt_of_lt_of_le (Nat.lt_of_lt_of_le HGa.out hs5) (by simp)) (fun h=>h.2 rfl));clear hr6 hk6))
     go_roundw
     case rel=>exact ⟨j+1,a6,n6,hlj,by go_num,by rw [HT.out];simp,by rw [HT.out];exact HR6.out,HC6.out,HB6.out,hs6⟩
     case measure=>simp [intOf];omega
    ·have hj':j=R.length:=by omega
     subst hj'
     rw [List.take_length] at *
     clear hc4
     go_wp2_with fail
     go_roundw
     case rel=>exact ⟨k+1,ad4,cp4,hlt,by go_num,by rw [HM.out],by rw [HM.out];exact HR4.out.wide (fun _ _ h=>h.1),HB4.out⟩
     case measure=>simp [intOf];omega
  ·have hk':k=is.length:=by omega
   subst hk'
   rw [List.take_length] at *
   clear hrow hB
   go_wp2_with fail
   go_ret
   exact ⟨ad,cp,rfl,HRow.out,HB.out⟩
theorem ints_one (w:World) (i:Nat):IntsAt (w.alloc (.cells #[.int .i64 (i:Nat)] 3)) w.heap.size [i]:=heap_alloc_new w _
theorem ghostsE_any (H:AE e b s D w) (hb:b≤100000) :
 Calls Tryz.prog 275 #[.pointer (some ⟨e,0,none⟩)] w fun ee w'=>∃ ad cap,ee=.returned (.slice ad (A.ghosts s).length cap)∧Row (w.heap.size≤·) w' ad cap (A.ghosts s)∧Below w.heap.size w w':=by
 have HE:Hid (AE e b s D w):=H
 have hc:Calls Tryz.prog 290 #[.pointer (some ⟨e,0,none⟩),.slice (some ⟨w.heap.size,0,none⟩) 1 1] (w.alloc (.cells #[.int .i64 1] 3)) fun ee w'=>∃ ad cap,ee=.returned (.slice ad (A.ghosts s).length cap)∧Row ((w.alloc (.cells #[.int .i64 1] 3)).heap.size≤·) w' ad cap (A.ghosts s)∧Below (w.alloc (.cells #[.int .i64 1] 3)).heap.size (w.alloc (.cells #[.int .i64 1] 3)) w':=by
  have:=copies_any (H.below ((Below.refl _ w).alloc (Nat.le_refl _) (.cells #[.int .i64 1] 3))) hb (ints_one w 1) (by simp) (by simp)
  have e1:allOf (qs s) [1]=A.ghosts s:=by simp [allOf,qs,A.ghosts]
  rw [e1] at this
  exact this
 clear H
 go_enter Tryz.func275,Tryz.ntmps275
 go_wp2_with (first
  | (go_at_call 283;refine (blank_any HE.out).mono ?_;rintro ee w1 ⟨rfl,rfl⟩)
  | (go_at_call 290;refine Calls.mono hc ?_;clear hc;rintro ee w2 ⟨ad,cap,rfl,hr,hb2⟩))
 go_ret
 exact ⟨ad,cap,rfl,hr.wide (fun k _ h=>by simp at h;omega),below_trans' ((Below.refl _ _).alloc (Nat.le_refl _) _) hb2⟩
end
end Go.Proofs.YtkkkkiejnmpdkaaGreatDoor.Twoq
namespace Go.Proofs.YtkkkkiejnmpdkaaGreatDoor.Twoq
open Go.RowKit
section
variable {D:Nat→Prop} {w w':World} {e b:Nat} {s:Stt}
set_option maxHeartbeats 1000000 in
theorem load_any (H:AE e b s D w) (hok:A.Ok s) (hD:∀ k,w.heap.size≤k→D k) (hb:b≤600000) (key:ByteArray) (hk:key.size≤1000) :
 Calls Tryz.prog 279 #[.pointer (some ⟨e,0,none⟩),.string key] w fun ee w'=>ee=.returned (.bool (A.load s key).1)∧AE e (b+1) (A.load s key).2 D w'∧Keeps D w w':=by
 have HE:Hid (AE e b s D w):=H
 have HD:Hid (∀ k,w.heap.size≤k→D k):=hD
 have hhas:=has_any H (by omega) key hk
 have hkl:=A.keys_length s
 by_cases hin:key∈A.keys s
 ·rw [A.load_no (.inl hin)]
  rw [inb_yes hin] at hhas
  clear H hD
  go_enter Tryz.func279,Tryz.ntmps279
  go_wp2_with (first
   | (go_at_call 283;refine (blank_any HE.out).mono ?_;rintro ee w1 ⟨rfl,rfl⟩)
   | (go_at_call 276;refine Calls.mono hhas ?_;clear hhas;rintro ee w2 ⟨rfl,hb2⟩))
  go_ret
  exact ⟨rfl,(HE.out.below hb2).more (Nat.le_succ b),.of_below hb2⟩
 ·rw [inb_no hin] at hhas
  rcases Nat.lt_or_ge (A.keys s).length s.c with hl | hl
  ·obtain ⟨-,h2,-⟩:=A.load_yes hok hin hl
   have e0:A.load s key=(true,A.again (A.noGhost s key) key):=by
    unfold A.load
    rw [if_neg (by intro h3;rcases h3 with h3 | h3;exact hin h3;omega)]
   rw [e0] at h2 ⊢
   have hf:decide (s.c≤s.t1.length+s.t2.length)=false:=by simp;omega
   have HL:Hid (∀ j,j<3→qs (A.again (A.noGhost s key) key) j=laid (qs s) key 2 j):=by
    show ∀ j,j<3→qs (A.again (A.noGhost s key) key) j=laid (qs s) key 2 j
    unfold A.keys at hin
    rw [List.mem_append] at hin
    refine three ?_ ?_ ?_
    ·simp [qs,laid,A.again,A.noGhost,A.cut_same (fun h=>hin (.inl h))]
    ·simp [qs,laid,A.again,A.noGhost]
    ·simp [qs,laid,A.again,A.noGhost,A.cut_same (fun h=>hin (.inr h))]
   clear H hD h2 e0
   go_enter Tryz.func279,Tryz.ntmps279
   go_wp2_with (first
    | (go_at_call 283;refine (blank_any HE.out).mono ?_;rintro ee w1 ⟨rfl,rfl⟩)
    | (go_at_call 276;refine Calls.mono hhas ?_;clear hhas;rintro ee w2 ⟨rfl,hb2⟩;have hfull:=fullA (HE.out.below hb2) (by omega);rw [hf] at hfull)
    | (go_at_call 292;refine Calls.mono hfull ?_;clear hfull;rintro ee w3 ⟨rfl,hb3⟩;have hb3':=below_trans hb2 hb3;have hlay:=lay_to (HE.out.below hb3') (fun k h=>HD.out k (Nat.le_trans hb3'.size h)) (by omega) key hk 2 (by omega) HL.out rfl)
    | (go_at_call 288;refine Calls.mono hlay ?_;clear hlay;rintro ee w4 ⟨rfl,h4,hk4⟩))
   go_ret
   exact ⟨rfl,h4,(Keeps.of_below hb3').trans hk4⟩
  ·rw [A.load_no (.inr hl)]
   have hf:decide (s.c≤s.t1.length+s.t2.length)=true:=by simp;omega
   clear H hD
   go_enter Tryz.func279,Tryz.ntmps279
   go_wp2_with (first
    | (go_at_call 283;refine (blank_any HE.out).mono ?_;rintro ee w1 ⟨rfl,rfl⟩)
    | (go_at_call 276;refine Calls.mono hhas ?_;clear hhas;rintro ee w2 ⟨rfl,hb2⟩;have hfull:=fullA (HE.out.below hb2) (by omega);rw [hf] at hfull)
    | (go_at_call 292;refine Calls.mono hfull ?_;clear hfull;rintro ee w3 ⟨rfl,hb3⟩;have hb3':=below_trans hb2 hb3))
   go_ret
   exact ⟨rfl,(HE.out.below hb3').more (Nat.le_succ b),.of_below hb3'⟩
end
end Go.Proofs.YtkkkkiejnmpdkaaGreatDoor.Twoq
