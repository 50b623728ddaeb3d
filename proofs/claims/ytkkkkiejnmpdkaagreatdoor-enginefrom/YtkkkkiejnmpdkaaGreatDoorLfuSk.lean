/- Lfu Sk: Sa Sb Sc -/
import Derived.Test.YtkkkkiejnmpdkaaGreatDoorLs
import Derived.WalkKit
import Derived.WalkSpells
import Derived.WalkLawsBesides
import Derived.Laws.BitsAllLaws
import Derived.WalkSmall
import Derived.Deep.OwnRows
import Derived.Deep.QuietTactic
import Derived.BigQuiet
namespace Go.Proofs.YtkkkkiejnmpdkaaGreatDoor.Lfu.Sk
open Go.RowKit
theorem ret_int {k:IntKind} {a b:Int} (h:a=b):Ending.returned (.int k a)=.returned (.int k b):=by rw [h]
def plc (h n:Int):Int:=if n<1 then 0 else h % n
theorem plc_no {h n:Int} (hn:n<1):plc h n=0:=by simp [plc,hn]
theorem plc_yes {h n:Int} (hn:¬ n<1):plc h n=h % n:=by simp [plc,hn]
theorem place_any (h n:Int) (w:World) (h0:0≤h) (h1:h<18446744073709551616) (hn:n≤9223372036854775807) :
 Calls Tryz.prog 205 #[.int .u64 h,.int .i64 n] w fun e w'=>e=.returned (.int .i64 (plc h n))∧w'=w:=by
 by_cases hc:n<1
 ·rw [plc_no hc]
  go_enter Tryz.func205,Tryz.ntmps205
  go_wp2
  go_ret
  exact ⟨rfl,rfl⟩
 ·rw [plc_yes hc]
  have b0:0≤h % n:=Int.emod_nonneg _ (by omega)
  have b1:h % n<n:=Int.emod_lt_of_pos _ (by omega)
  go_enter Tryz.func205,Tryz.ntmps205
  go_wp2
  go_ret
  exact ⟨rfl,rfl⟩
end Go.Proofs.YtkkkkiejnmpdkaaGreatDoor.Lfu.Sk
namespace Go.Proofs.YtkkkkiejnmpdkaaGreatDoor.Lfu.Sk
open Go.RowKit
theorem frozen_of_block {w:World} {p j:Nat} {cs:Array Value} {t:TypeId} (h:w.heap[p]? = some (.cells cs t (0,0))):w.frozen? ⟨p,j,none⟩=false:=by
 simp [World.frozen?,h]
theorem cell_of_block {w:World} {p j:Nat} {cs:Array Value} {t:TypeId} (h:w.heap[p]? = some (.cells cs t (0,0))):w.cell? ⟨p,j,none⟩=cs[j]?:=by
 simp [World.cell?,h]
theorem made_list (z:Value) (n:Nat):madeCells #[z] n=(List.replicate n z).toArray:=by
 rw [← toList_madeCells_one]
def byt (c:Nat→Nat) (k:Nat):Nat:=c (2*k)+16*c (2*k+1)
def u8s (c:Nat→Nat) (n:Nat):List Value:=(List.range n).map (fun k=>.int .u8 (byt c k:Nat))
def i64s (c:Nat→Nat) (n:Nat):List Value:=(List.range n).map (fun k=>.int .i64 (c k:Nat))
theorem u8s_at (c:Nat→Nat) {n k:Nat} (h:k<n):(u8s c n)[k]? = some (.int .u8 (byt c k:Nat)):=by simp [u8s,h]
theorem i64s_at (c:Nat→Nat) {n k:Nat} (h:k<n):(i64s c n)[k]? = some (.int .i64 (c k:Nat)):=by simp [i64s,h]
theorem u8s_made (n:Nat):madeCells #[.int .u8 0] n=(u8s (fun _=>0) n).toArray:=by
 rw [made_list]
 congr 1
 apply List.ext_getElem?
 intro i
 by_cases h:i<n
 ·simp [u8s,h,byt]
 ·simp [u8s,h]
theorem i64s_made (n:Nat):madeCells #[.int .i64 0] n=(i64s (fun _=>0) n).toArray:=by
 rw [made_list]
 congr 1
 apply List.ext_getElem?
 intro i
 by_cases h:i<n
 ·simp [i64s,h]
 ·simp [i64s,h]
def wd (r:Int):Nat:=if r≤8 then 8 else if r≤16 then 16 else if r≤32 then 32 else if r≤64 then 64 else if r≤128 then 128 else if r≤256 then 256 else if r≤512 then 512 else 1024
def Wd (r:Int) (n:Nat):Prop:=n=8∨(n=16∧8<r)∨(n=32∧16<r)∨(n=64∧32<r)∨(n=128∧64<r)∨(n=256∧128<r)∨(n=512∧256<r)∨(n=1024∧512<r)
theorem Wd.le {r:Int} {n:Nat} (h:Wd r n):8≤n∧n≤1024:=by unfold Wd at h;omega
theorem Wd.next {r:Int} {n:Nat} (h:Wd r n) (h1:(n:Int)<r) (h2:n<1024):Wd r (2*n):=by unfold Wd at *;omega
theorem Wd.end {r:Int} {n:Nat} (h:Wd r n) (h1:r≤n∨1024≤n):n=wd r:=by
 unfold Wd at h
 unfold wd
 rcases h with h | h | h | h | h | h | h | h <;> (split <;> try omega) <;> (split <;> try omega) <;> (split <;> try omega) <;> (split <;> try omega) <;> (split <;> try omega) <;> (split <;> try omega) <;> (split <;> try omega)
theorem Wd.wd (r:Int):Wd r (wd r):=by
 unfold Wd YtkkkkiejnmpdkaaGreatDoor.Lfu.Sk.wd
 (split <;> try omega) <;> (split <;> try omega) <;> (split <;> try omega) <;> (split <;> try omega) <;> (split <;> try omega) <;> (split <;> try omega) <;> (split <;> try omega)
theorem wd_le (r:Int):8≤wd r∧wd r≤1024:=(Wd.wd r).le
structure Fit (N:Nat) (c:Nat→Nat) (s:Nat):Prop where
 lo:8≤N
 hi:N≤1024
 cell:∀ i,c i≤15
 sum:s<10*N
def SkIn (D:Nat→Prop) (w:World) (p g N:Nat) (c:Nat→Nat) (s:Nat):Prop :=
 D p∧D g∧g≠p∧w.heap[p]? = some (.cells #[.int .i64 (N:Nat),.slice (some ⟨g,0,none⟩) (2*N) (2*N),.int .i64 (s:Nat)] 167 (0,0))∧w.heap[g]? = some (.cells (u8s c (2*N)).toArray 5 (0,0))
def RfIn (D:Nat→Prop) (w:World) (p g N:Nat) (c:Nat→Nat) (s:Nat):Prop :=
 D p∧D g∧g≠p∧w.heap[p]? = some (.cells #[.slice (some ⟨g,0,none⟩) (4*N) (4*N),.int .i64 (N:Nat),.int .i64 (s:Nat)] 177 (0,0))∧w.heap[g]? = some (.cells (i64s c (4*N)).toArray 3 (0,0))
section
variable {D:Nat→Prop} {w w':World} {p g N:Nat} {c:Nat→Nat} {s:Nat}
theorem SkIn.at (h:SkIn D w p g N c s) {k:Nat} (hk:k<2*N):w.cell? ⟨g,k,none⟩=some (.int .u8 (byt c k:Nat))∧w.frozen? ⟨g,k,none⟩=false :=
 ⟨by rw [cell_of_block h.2.2.2.2,List.getElem?_toArray,u8s_at c hk],frozen_of_block h.2.2.2.2⟩
theorem RfIn.at (h:RfIn D w p g N c s) {k:Nat} (hk:k<4*N):w.cell? ⟨g,k,none⟩=some (.int .i64 (c k:Nat))∧w.frozen? ⟨g,k,none⟩=false :=
 ⟨by rw [cell_of_block h.2.2.2.2,List.getElem?_toArray,i64s_at c hk],frozen_of_block h.2.2.2.2⟩
theorem SkIn.kept {D':Nat→Prop} (h:SkIn D w p g N c s) (hk:Keeps D' w w') (hd:∀ k,D k→¬ D' k):SkIn D w' p g N c s:=by
 obtain ⟨h1,h2,h3,h4,h5⟩:=h
 exact ⟨h1,h2,h3,(hk.block p (lt_of_block h4) (hd _ h1)).trans h4,(hk.block g (lt_of_block h5) (hd _ h2)).trans h5⟩
theorem RfIn.kept {D':Nat→Prop} (h:RfIn D w p g N c s) (hk:Keeps D' w w') (hd:∀ k,D k→¬ D' k):RfIn D w' p g N c s:=by
 obtain ⟨h1,h2,h3,h4,h5⟩:=h
 exact ⟨h1,h2,h3,(hk.block p (lt_of_block h4) (hd _ h1)).trans h4,(hk.block g (lt_of_block h5) (hd _ h2)).trans h5⟩
theorem SkIn.wide {D':Nat→Prop} (h:SkIn D w p g N c s) (hD:∀ k,D k→D' k):SkIn D' w p g N c s:=⟨hD _ h.1,hD _ h.2.1,h.2.2⟩
theorem RfIn.wide {D':Nat→Prop} (h:RfIn D w p g N c s) (hD:∀ k,D k→D' k):RfIn D' w p g N c s:=⟨hD _ h.1,hD _ h.2.1,h.2.2⟩
theorem SkIn.narrow (h:SkIn D w p g N c s):SkIn (fun k=>D k∧k<w.heap.size) w p g N c s:=⟨⟨h.1,lt_of_block h.2.2.2.1⟩,⟨h.2.1,lt_of_block h.2.2.2.2⟩,h.2.2⟩
theorem RfIn.narrow (h:RfIn D w p g N c s):RfIn (fun k=>D k∧k<w.heap.size) w p g N c s:=⟨⟨h.1,lt_of_block h.2.2.2.1⟩,⟨h.2.1,lt_of_block h.2.2.2.2⟩,h.2.2⟩
end
def SK (p N:Nat) (c:Nat→Nat) (s:Nat) (D:Nat→Prop) (w:World):Prop:=Fit N c s∧∃ g,SkIn D w p g N c s
def RF (p N:Nat) (c:Nat→Nat) (s:Nat) (D:Nat→Prop) (w:World):Prop:=Fit N c s∧∃ g,RfIn D w p g N c s
end Go.Proofs.YtkkkkiejnmpdkaaGreatDoor.Lfu.Sk
namespace Go.Proofs.YtkkkkiejnmpdkaaGreatDoor.Lfu.Sk
open Go.RowKit
theorem width_any (r:Int) (w:World) (h0 : -9223372036854775808≤r) (h1:r≤9223372036854775807) :
 Calls Tryz.prog 99 #[.int .i64 r] w fun e w'=>e=.returned (.int .i64 (wd r:Nat))∧w'=w:=by
 go_enter Tryz.func99,Tryz.ntmps99
 go_wp2
 go_loop [3] (fun i=>∃ n:Nat,i=.int .i64 n∧Wd r n) (fun i=>1024 - (intOf i).toNat)
 case atStart=>exact ⟨8,rfl,.inl rfl⟩
 case round =>
  obtain ⟨n,rfl,hW⟩:=hrel
  have HW:Hid (Wd r n):=hW
  obtain ⟨n0,n1⟩:=hW.le
  clear hW
  by_cases hr:r≤1024
  ·by_cases hn:(n:Int)<r
   ·go_wp2
    go_round
    case rel=>exact ⟨2*n,by go_num,HW.out.next hn (by omega)⟩
    case measure=>simp [intOf];omega
   ·go_wp2
    go_ret
    exact ⟨ret_int (by rw [← HW.out.end (.inl (by omega))]),rfl⟩
  ·have hr':(1024:Int)<r:=by omega
   have hr2:¬ (r<(1024:Int)):=by omega
   by_cases hn:(n:Int)<1024
   ·go_wp2
    go_round
    case rel=>exact ⟨2*n,by go_num,HW.out.next (by omega) (by omega)⟩
    case measure=>simp [intOf];omega
   ·go_wp2
    go_ret
    exact ⟨ret_int (by rw [← HW.out.end (.inr (by omega))]),rfl⟩
section
variable {D:Nat→Prop} {w:World} {p g N:Nat} {c:Nat→Nat} {s:Nat}
theorem info5:(Tryz.prog.info? 5).map (fun i=>(i.zero,i.size,i.bytes))=some (some (.int .u8 0),1,1):=by kernel_rfl
theorem info3:(Tryz.prog.info? 3).map (fun i=>(i.zero,i.size,i.bytes))=some (some (.int .i64 0),1,8):=by kernel_rfl
theorem sk_made (hD:∀ k,w.heap.size≤k→D k) :
 SkIn D ((w.alloc (.cells (u8s (fun _=>0) (2*N)).toArray 5)).alloc (.cells #[.int .i64 (N:Nat),.slice (some ⟨w.heap.size,0,none⟩) (2*N) (2*N),.int .i64 0] 167)) (w.heap.size+1) w.heap.size N (fun _=>0) 0:=by
 have h:=heap_alloc_new (w.alloc (.cells (u8s (fun _=>0) (2*N)).toArray 5)) (.cells #[.int .i64 (N:Nat),.slice (some ⟨w.heap.size,0,none⟩) (2*N) (2*N),.int .i64 0] 167)
 rw [World.size_alloc] at h
 refine ⟨hD _ (by omega),hD _ (Nat.le_refl _),by omega,h,?_⟩
 rw [Below.heap_alloc _ _ _ (by simp)]
 exact heap_alloc_new _ _
theorem new_any (r:Int) (h0 : -9223372036854775808≤r) (h1:r≤9223372036854775807) (hD:∀ k,w.heap.size≤k→D k) :
 Calls Tryz.prog 62 #[.int .i64 r] w fun e w'=>∃ p,e=.returned (.pointer (some ⟨p,0,none⟩))∧SK p (wd r) (fun _=>0) 0 D w'∧Keeps D w w':=by
 obtain ⟨w0,w1⟩:=wd_le r
 have hw:=width_any r w h0 h1
 generalize wd r=N at w0 w1 hw ⊢
 have hmk:=run_make_row' (P:=Tryz.prog) 140 5 (.int .u8 0) 1 Tryz.underlying140 info5 rfl .i64 .i64 (2*N) (by omega) (by omega)
 rw [show ((2*N:Nat):Int)=4*(N:Int) / 2 by omega,u8s_made] at hmk
 go_enter Tryz.func62,Tryz.ntmps62
 go_wp2_with (go_at_call 99;refine hw.mono ?_;rintro e w1 ⟨rfl,rfl⟩)
 go_ret
 exact ⟨_,rfl,⟨⟨w0,by assumption,fun _=>Nat.zero_le _,by omega⟩,_,sk_made hD⟩,((Keeps.refl D _).alloc _).alloc _⟩
end
end Go.Proofs.YtkkkkiejnmpdkaaGreatDoor.Lfu.Sk
