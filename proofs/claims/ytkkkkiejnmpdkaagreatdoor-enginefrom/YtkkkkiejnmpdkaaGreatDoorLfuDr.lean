/- Lfu Dr: Da Db Dc Dd -/
import Derived.Test.YtkkkkiejnmpdkaaGreatDoorLs
import Derived.WalkKit
import Derived.WalkSpells
import Derived.WalkLawsBesides
import Derived.Laws.BitsAllLaws
import Derived.Laws.Bits128
import Derived.WalkSmall
import Derived.Deep.OwnRows
import Derived.Deep.QuietTactic
import Derived.BigQuiet
namespace Go.Proofs.YtkkkkiejnmpdkaaGreatDoor.Lfu.Dr
open Go.RowKit
theorem ret_int {k:IntKind} {a b:Int} (h:a=b):Ending.returned (.int k a)=.returned (.int k b):=by rw [h]
def plc (h n:Int):Int:=if n<1 then 0 else h % n
theorem plc_no {h n:Int} (hn:n<1):plc h n=0:=by simp [plc,hn]
theorem plc_yes {h n:Int} (hn:¬ n<1):plc h n=h % n:=by simp [plc,hn]
theorem placer_any (h n:Int) (w:World) (h0:0≤h) (h1:h<18446744073709551616) (hn:n≤9223372036854775807) :
 Calls Tryz.prog 149 #[.int .u64 h,.int .i64 n] w fun e w'=>e=.returned (.int .i64 (plc h n))∧w'=w:=by
 by_cases hc:n<1
 ·rw [plc_no hc]
  go_enter Tryz.func149,Tryz.ntmps149
  go_wp2
  go_ret
  exact ⟨rfl,rfl⟩
 ·rw [plc_yes hc]
  have b0:0≤h % n:=Int.emod_nonneg _ (by omega)
  have b1:h % n<n:=Int.emod_lt_of_pos _ (by omega)
  go_enter Tryz.func149,Tryz.ntmps149
  go_wp2
  go_ret
  exact ⟨rfl,rfl⟩
end Go.Proofs.YtkkkkiejnmpdkaaGreatDoor.Lfu.Dr
namespace Go.Proofs.YtkkkkiejnmpdkaaGreatDoor.Lfu.Dr
open Go.RowKit
def bt (v:Nat→Nat) (i:Nat):Bool:=(v (i / 64)).testBit (i % 64)
theorem bt_zero (i:Nat):bt (fun _=>0) i=false:=by simp [bt]
def nw (r:Int):Nat:=if r≤8 then 1 else if r≤16 then 2 else if r≤32 then 4 else if r≤64 then 8 else if r≤128 then 16 else if r≤256 then 32 else if r≤512 then 64 else 128
def Wn (r:Int) (n:Nat):Prop:=n=1∨(n=2∧8<r)∨(n=4∧16<r)∨(n=8∧32<r)∨(n=16∧64<r)∨(n=32∧128<r)∨(n=64∧256<r)∨(n=128∧512<r)
theorem Wn.le {r:Int} {n:Nat} (h:Wn r n):1≤n∧n≤128:=by unfold Wn at h;omega
theorem Wn.next {r:Int} {n:Nat} (h:Wn r n) (h1:(8*n:Int)<r) (h2:n<128):Wn r (2*n):=by unfold Wn at *;omega
theorem Wn.end {r:Int} {n:Nat} (h:Wn r n) (h1:r≤8*n∨128≤n):n=nw r:=by
 unfold Wn at h
 unfold nw
 rcases h with h | h | h | h | h | h | h | h <;> (split <;> try omega) <;> (split <;> try omega) <;> (split <;> try omega) <;> (split <;> try omega) <;> (split <;> try omega) <;> (split <;> try omega) <;> (split <;> try omega)
theorem nw_le (r:Int):1≤nw r∧nw r≤128:=by
 unfold nw
 (split <;> try omega) <;> (split <;> try omega) <;> (split <;> try omega) <;> (split <;> try omega) <;> (split <;> try omega) <;> (split <;> try omega) <;> (split <;> try omega)
end Go.Proofs.YtkkkkiejnmpdkaaGreatDoor.Lfu.Dr
namespace Go.Proofs.YtkkkkiejnmpdkaaGreatDoor.Lfu.Dr
open Go.RowKit
theorem frozen_of_block {w:World} {p j:Nat} {cs:Array Value} {t:TypeId} (h:w.heap[p]? = some (.cells cs t (0,0))):w.frozen? ⟨p,j,none⟩=false:=by
 simp [World.frozen?,h]
theorem cell_of_block {w:World} {p j:Nat} {cs:Array Value} {t:TypeId} (h:w.heap[p]? = some (.cells cs t (0,0))):w.cell? ⟨p,j,none⟩=cs[j]?:=by
 simp [World.cell?,h]
theorem made_list (z:Value) (n:Nat):madeCells #[z] n=(List.replicate n z).toArray:=by
 rw [← toList_madeCells_one]
def u64s (v:Nat→Nat) (n:Nat):List Value:=(List.range n).map (fun k=>.int .u64 (v k:Nat))
def bls (b:Nat→Bool) (n:Nat):List Value:=(List.range n).map (fun k=>.bool (b k))
theorem u64s_at (v:Nat→Nat) {n k:Nat} (h:k<n):(u64s v n)[k]? = some (.int .u64 (v k:Nat)):=by simp [u64s,h]
theorem bls_at (b:Nat→Bool) {n k:Nat} (h:k<n):(bls b n)[k]? = some (.bool (b k)):=by simp [bls,h]
theorem u64s_made (n:Nat):madeCells #[.int .u64 0] n=(u64s (fun _=>0) n).toArray:=by
 rw [made_list]
 congr 1
 apply List.ext_getElem?
 intro i
 by_cases h:i<n
 ·simp [u64s,h]
 ·simp [u64s,h]
theorem bls_made (n:Nat):madeCells #[.bool false] n=(bls (fun _=>false) n).toArray:=by
 rw [made_list]
 congr 1
 apply List.ext_getElem?
 intro i
 by_cases h:i<n
 ·simp [bls,h]
 ·simp [bls,h]
structure Fit (K:Nat) (v:Nat→Nat):Prop where
 lo:1≤K
 hi:K≤128
 word:∀ i,v i<18446744073709551616
def DrIn (D:Nat→Prop) (w:World) (p g K:Nat) (v:Nat→Nat):Prop :=
 D p∧D g∧g≠p∧w.heap[p]? = some (.cells #[.slice (some ⟨g,0,none⟩) K K] 165 (0,0))∧w.heap[g]? = some (.cells (u64s v K).toArray 80 (0,0))
def RfIn (D:Nat→Prop) (w:World) (p g M:Nat) (b:Nat→Bool):Prop :=
 D p∧D g∧g≠p∧w.heap[p]? = some (.cells #[.slice (some ⟨g,0,none⟩) M M] 180 (0,0))∧w.heap[g]? = some (.cells (bls b M).toArray 4 (0,0))
section
variable {D:Nat→Prop} {w w':World} {p g K M:Nat} {v:Nat→Nat} {b:Nat→Bool}
theorem DrIn.at (h:DrIn D w p g K v) {k:Nat} (hk:k<K):w.cell? ⟨g,k,none⟩=some (.int .u64 (v k:Nat))∧w.frozen? ⟨g,k,none⟩=false :=
 ⟨by rw [cell_of_block h.2.2.2.2,List.getElem?_toArray,u64s_at v hk],frozen_of_block h.2.2.2.2⟩
theorem RfIn.at (h:RfIn D w p g M b) {k:Nat} (hk:k<M):w.cell? ⟨g,k,none⟩=some (.bool (b k))∧w.frozen? ⟨g,k,none⟩=false :=
 ⟨by rw [cell_of_block h.2.2.2.2,List.getElem?_toArray,bls_at b hk],frozen_of_block h.2.2.2.2⟩
theorem DrIn.kept {D':Nat→Prop} (h:DrIn D w p g K v) (hk:Keeps D' w w') (hd:∀ k,D k→¬ D' k):DrIn D w' p g K v:=by
 obtain ⟨h1,h2,h3,h4,h5⟩:=h
 exact ⟨h1,h2,h3,(hk.block p (lt_of_block h4) (hd _ h1)).trans h4,(hk.block g (lt_of_block h5) (hd _ h2)).trans h5⟩
theorem RfIn.kept {D':Nat→Prop} (h:RfIn D w p g M b) (hk:Keeps D' w w') (hd:∀ k,D k→¬ D' k):RfIn D w' p g M b:=by
 obtain ⟨h1,h2,h3,h4,h5⟩:=h
 exact ⟨h1,h2,h3,(hk.block p (lt_of_block h4) (hd _ h1)).trans h4,(hk.block g (lt_of_block h5) (hd _ h2)).trans h5⟩
theorem DrIn.below (h:DrIn D w p g K v) (hb:Below w.heap.size w w'):DrIn D w' p g K v:=h.kept (D':=fun _=>False) (.of_below hb) (fun _ _ e=>e)
theorem DrIn.wide {D':Nat→Prop} (h:DrIn D w p g K v) (hD:∀ k,D k→D' k):DrIn D' w p g K v:=⟨hD _ h.1,hD _ h.2.1,h.2.2⟩
theorem RfIn.wide {D':Nat→Prop} (h:RfIn D w p g M b) (hD:∀ k,D k→D' k):RfIn D' w p g M b:=⟨hD _ h.1,hD _ h.2.1,h.2.2⟩
theorem DrIn.narrow (h:DrIn D w p g K v):DrIn (fun k=>D k∧k<w.heap.size) w p g K v:=⟨⟨h.1,lt_of_block h.2.2.2.1⟩,⟨h.2.1,lt_of_block h.2.2.2.2⟩,h.2.2⟩
theorem RfIn.narrow (h:RfIn D w p g M b):RfIn (fun k=>D k∧k<w.heap.size) w p g M b:=⟨⟨h.1,lt_of_block h.2.2.2.1⟩,⟨h.2.1,lt_of_block h.2.2.2.2⟩,h.2.2⟩
end
def DR (p K:Nat) (b:Nat→Bool) (D:Nat→Prop) (w:World):Prop:=∃ v,Fit K v∧bt v=b∧∃ g,DrIn D w p g K v
def RF (p K:Nat) (b:Nat→Bool) (D:Nat→Prop) (w:World):Prop:=(1≤K∧K≤128)∧∃ g,RfIn D w p g (64*K) b
section
variable {D:Nat→Prop} {w w':World} {p K:Nat} {b:Nat→Bool}
theorem DR.below (h:DR p K b D w) (hb:Below w.heap.size w w'):DR p K b D w':=by obtain ⟨v,f,e,g,h⟩:=h;exact ⟨v,f,e,g,h.below hb⟩
theorem DR.size (h:DR p K b D w):1≤K∧K≤128:=by obtain ⟨v,f,-⟩:=h;exact ⟨f.lo,f.hi⟩
end
end Go.Proofs.YtkkkkiejnmpdkaaGreatDoor.Lfu.Dr
namespace Go.Proofs.YtkkkkiejnmpdkaaGreatDoor.Lfu.Dr
open Go.RowKit
theorem bitsFor_any (r:Int) (w:World) (h0 : -9223372036854775808≤r) (h1:r≤9223372036854775807) :
 Calls Tryz.prog 98 #[.int .i64 r] w fun e w'=>e=.returned (.int .i64 ((64*nw r:Nat):Int))∧w'=w:=by
 go_enter Tryz.func98,Tryz.ntmps98
 go_wp2
 go_loop [3] (fun i=>∃ n:Nat,i=.int .i64 ((64*n:Nat):Int)∧Wn r n) (fun i=>8192 - (intOf i).toNat)
 case atStart=>exact ⟨1,rfl,.inl rfl⟩
 case round =>
  obtain ⟨n,rfl,hW⟩:=hrel
  have HW:Hid (Wn r n):=hW
  obtain ⟨n0,n1⟩:=hW.le
  clear hW
  have e8:((64*n:Nat):Int) / 8=8*(n:Int):=by omega
  obtain ⟨m,hm⟩:∃ m,64*n=m:=⟨_,rfl⟩
  rw [hm] at e8 ⊢
  have HM:Hid (64*n=m):=hm
  have m1:m≤8192:=by omega
  have m0:64≤m:=by omega
  clear hm
  by_cases hr:r≤1024
  ·by_cases hn:8*(n:Int)<r
   ·go_wp2
    go_round
    case rel=>exact ⟨2*n,by have:=HM.out;go_num,HW.out.next hn (by omega)⟩
    case measure=>have:=HM.out;simp [intOf];omega
   ·go_wp2
    go_ret
    exact ⟨ret_int (by rw [← HW.out.end (.inl (by omega))];have:=HM.out;omega),rfl⟩
  ·have hr':(1024:Int)<r:=by omega
   have hr2:¬ (r<(1024:Int)):=by omega
   by_cases hn:8*(n:Int)<1024
   ·go_wp2
    go_round
    case rel=>exact ⟨2*n,by have:=HM.out;go_num,HW.out.next (by omega) (by omega)⟩
    case measure=>have:=HM.out;simp [intOf];omega
   ·go_wp2
    go_ret
    exact ⟨ret_int (by rw [← HW.out.end (.inr (by omega))];have:=HM.out;omega),rfl⟩
theorem info41:(Tryz.prog.info? 80).map (fun i=>(i.zero,i.size,i.bytes))=some (some (.int .u64 0),1,8):=by kernel_rfl
theorem info4:(Tryz.prog.info? 4).map (fun i=>(i.zero,i.size,i.bytes))=some (some (.bool false),1,1):=by kernel_rfl
section
variable {D:Nat→Prop} {w:World} {p g K:Nat} {v:Nat→Nat}
theorem dr_made (hD:∀ k,w.heap.size≤k→D k) :
 DrIn D ((w.alloc (.cells (u64s (fun _=>0) K).toArray 80)).alloc (.cells #[.slice (some ⟨w.heap.size,0,none⟩) K K] 165)) (w.heap.size+1) w.heap.size K (fun _=>0):=by
 have h:=heap_alloc_new (w.alloc (.cells (u64s (fun _=>0) K).toArray 80)) (.cells #[.slice (some ⟨w.heap.size,0,none⟩) K K] 165)
 rw [World.size_alloc] at h
 refine ⟨hD _ (by omega),hD _ (Nat.le_refl _),by omega,h,?_⟩
 rw [Below.heap_alloc _ _ _ (by simp)]
 exact heap_alloc_new _ _
theorem new_any (r:Int) (h0 : -9223372036854775808≤r) (h1:r≤9223372036854775807) (hD:∀ k,w.heap.size≤k→D k) :
 Calls Tryz.prog 61 #[.int .i64 r] w fun e w'=>∃ p,e=.returned (.pointer (some ⟨p,0,none⟩))∧DR p (nw r) (fun _=>false) D w'∧Keeps D w w':=by
 obtain ⟨w0,w1⟩:=nw_le r
 have hw:=bitsFor_any r w h0 h1
 generalize nw r=K at w0 w1 hw ⊢
 have hmk:=run_make_row' (P:=Tryz.prog) 162 80 (.int .u64 0) 8 Tryz.underlying162 info41 rfl .i64 .i64 K (by omega) (by omega)
 rw [u64s_made] at hmk
 have e64:((64*K:Nat):Int) / 64=(K:Int):=by omega
 obtain ⟨m,hm⟩:∃ m,64*K=m:=⟨_,rfl⟩
 rw [hm] at hw e64
 have m1:m≤8192:=by omega
 clear hm
 go_enter Tryz.func61,Tryz.ntmps61
 go_wp2_with (go_at_call 98;refine hw.mono ?_;rintro e w1 ⟨rfl,rfl⟩)
 go_ret
 exact ⟨_,rfl,⟨_,⟨w0,by assumption,fun _=>by omega⟩,funext bt_zero,_,dr_made hD⟩,((Keeps.refl D _).alloc _).alloc _⟩
end
end Go.Proofs.YtkkkkiejnmpdkaaGreatDoor.Lfu.Dr
