/- Lfu Rk: Ra Rd -/
import Derived.Test.YtkkkkiejnmpdkaaGreatDoorLfuSk
import Derived.Test.YtkkkkiejnmpdkaaGreatDoorLfuDr
import Derived.Deep.RegionHeld3
namespace Go.Proofs.YtkkkkiejnmpdkaaGreatDoor.Lfu.Sk
open Go.RowKit
theorem power_any (r:Int) (w:World) (h0 : -9223372036854775808≤r) (h1:r≤9223372036854775807) :
 Calls Tryz.prog 100 #[.int .i64 r,.int .i64 8] w fun e w'=>e=.returned (.int .i64 (wd r:Nat))∧w'=w:=by
 go_enter Tryz.func100,Tryz.ntmps100
 go_wp2
 go_loop [5] (fun i=>∃ n:Nat,i=.int .i64 n∧((n=1∨n=2∨n=4)∨Wd r n)) (fun i=>1024 - (intOf i).toNat)
 case atStart=>exact ⟨1,rfl,.inl (.inl rfl)⟩
 case round =>
  obtain ⟨n,rfl,hW⟩:=hrel
  have HW:Hid ((n=1∨n=2∨n=4)∨Wd r n):=hW
  have hn:1≤n∧n≤1024:=by rcases hW with h | h;omega;have:=h.le;omega
  clear hW
  obtain ⟨n0,n1⟩:=hn
  by_cases hr1:r<1
  ·have hr1':r≤1024:=by omega
   have m1:¬ ((n:Int)<1):=by omega
   by_cases hn8:(n:Int)<8
   ·go_wp2
    go_round
    case rel =>
     refine ⟨2*n,by go_num,?_⟩
     rcases HW.out with h | h
     ·rcases h with h | h | h
      ·exact .inl (by omega)
      ·exact .inl (by omega)
      ·exact .inr (.inl (by omega))
     ·have:=h.le;omega
    case measure=>simp [intOf];omega
   ·go_wp2
    go_ret
    refine ⟨ret_int ?_,rfl⟩
    rcases HW.out with h | h
    ·omega
    ·rw [← h.end (.inl (by omega))]
  ·by_cases hr:r≤1024
   ·have hr2:¬ ((1024:Int)<r):=by omega
    by_cases hn:(n:Int)<r
    ·go_wp2
     go_round
     case rel =>
      refine ⟨2*n,by go_num,?_⟩
      rcases HW.out with h | h
      ·rcases h with h | h | h
       ·exact .inl (by omega)
       ·exact .inl (by omega)
       ·exact .inr (.inl (by omega))
      ·exact .inr (h.next hn (by omega))
     case measure=>simp [intOf];omega
    ·by_cases hn8:(n:Int)<8
     ·go_wp2
      go_round
      case rel =>
       refine ⟨2*n,by go_num,?_⟩
       rcases HW.out with h | h
       ·rcases h with h | h | h
        ·exact .inl (by omega)
        ·exact .inl (by omega)
        ·exact .inr (.inl (by omega))
       ·have:=h.le;omega
      case measure=>simp [intOf];omega
     ·go_wp2
      go_ret
      refine ⟨ret_int ?_,rfl⟩
      rcases HW.out with h | h
      ·omega
      ·rw [← h.end (.inl (by omega))]
   ·have hr2:(1024:Int)<r:=by omega
    have hr3:¬ (r<(1024:Int)):=by omega
    by_cases hn:(n:Int)<1024
    ·go_wp2
     go_round
     case rel =>
      refine ⟨2*n,by go_num,?_⟩
      rcases HW.out with h | h
      ·rcases h with h | h | h
       ·exact .inl (by omega)
       ·exact .inl (by omega)
       ·exact .inr (.inl (by omega))
      ·exact .inr (h.next (by omega) (by omega))
     case measure=>simp [intOf];omega
    ·have hn8:¬ ((n:Int)<8):=by omega
     go_wp2
     go_ret
     refine ⟨ret_int ?_,rfl⟩
     rcases HW.out with h | h
     ·omega
     ·rw [← h.end (.inr (by omega))]
section
variable {D:Nat→Prop} {w:World} {p g N:Nat} {c:Nat→Nat} {s:Nat}
theorem rf_made (hD:∀ k,w.heap.size≤k→D k) :
 RfIn D ((w.alloc (.cells (i64s (fun _=>0) (4*N)).toArray 3)).alloc (.cells #[.slice (some ⟨w.heap.size,0,none⟩) (4*N) (4*N),.int .i64 (N:Nat),.int .i64 0] 177)) (w.heap.size+1) w.heap.size N (fun _=>0) 0:=by
 have h:=heap_alloc_new (w.alloc (.cells (i64s (fun _=>0) (4*N)).toArray 3)) (.cells #[.slice (some ⟨w.heap.size,0,none⟩) (4*N) (4*N),.int .i64 (N:Nat),.int .i64 0] 177)
 rw [World.size_alloc] at h
 refine ⟨hD _ (by omega),hD _ (Nat.le_refl _),by omega,h,?_⟩
 rw [Below.heap_alloc _ _ _ (by simp)]
 exact heap_alloc_new _ _
theorem rnew_any (r:Int) (h0 : -9223372036854775808≤r) (h1:r≤9223372036854775807) (hD:∀ k,w.heap.size≤k→D k) :
 Calls Tryz.prog 66 #[.int .i64 r] w fun e w'=>∃ p,e=.returned (.pointer (some ⟨p,0,none⟩))∧RF p (wd r) (fun _=>0) 0 D w'∧Keeps D w w':=by
 obtain ⟨w0,w1⟩:=wd_le r
 have hw:=power_any r w h0 h1
 generalize wd r=N at w0 w1 hw ⊢
 have hmk:=run_make_row' (P:=Tryz.prog) 175 3 (.int .i64 0) 8 Tryz.underlying175 info3 rfl .i64 .i64 (4*N) (by omega) (by omega)
 rw [show ((4*N:Nat):Int)=4*(N:Int) by omega,i64s_made] at hmk
 go_enter Tryz.func66,Tryz.ntmps66
 go_wp2_with (go_at_call 100;refine hw.mono ?_;rintro e w1 ⟨rfl,rfl⟩)
 go_ret
 exact ⟨_,rfl,⟨⟨w0,by assumption,fun _=>Nat.zero_le _,by omega⟩,_,rf_made hD⟩,((Keeps.refl D _).alloc _).alloc _⟩
end
end Go.Proofs.YtkkkkiejnmpdkaaGreatDoor.Lfu.Sk
namespace Go.Proofs.YtkkkkiejnmpdkaaGreatDoor.Lfu.Dr
open Go.RowKit
def Wp (r:Int) (n:Nat):Prop:=n=1∨(n=2∧1<r)∨(n=4∧2<r)∨(n=8∧4<r)∨(n=16∧8<r)∨(n=32∧16<r)∨(n=64∧32<r)∨(n=128∧64<r)∨(n=256∧128<r)∨(n=512∧256<r)∨(n=1024∧512<r)
theorem Wp.le {r:Int} {n:Nat} (h:Wp r n):1≤n∧n≤1024:=by unfold Wp at h;omega
theorem Wp.next {r:Int} {n:Nat} (h:Wp r n) (h1:(n:Int)<r) (h2:n<1024):Wp r (2*n):=by
 unfold Wp at *
 rcases h with h | h | h | h | h | h | h | h | h | h | h <;> omega
theorem Wp.end {r:Int} {n:Nat} (h:Wp r n) (h1:r≤n∨1024≤n):(n≤8∧nw r=1)∨(8<n∧n=8*nw r):=by
 unfold Wp at h
 unfold nw
 rcases h with h | h | h | h | h | h | h | h | h | h | h <;> (split <;> try omega) <;> (split <;> try omega) <;> (split <;> try omega) <;> (split <;> try omega) <;> (split <;> try omega) <;> (split <;> try omega) <;> (split <;> try omega)
theorem power_any (r:Int) (w:World) (h0 : -9223372036854775808≤r) (h1:r≤9223372036854775807) :
 Calls Tryz.prog 100 #[.int .i64 r,.int .i64 1] w fun e w'=>∃ n:Nat,e=.returned (.int .i64 (n:Nat))∧(1≤n∧n≤1024)∧((n≤8∧nw r=1)∨(8<n∧n=8*nw r))∧w'=w:=by
 go_enter Tryz.func100,Tryz.ntmps100
 go_wp2
 go_loop [5] (fun i=>∃ n:Nat,i=.int .i64 n∧Wp r n) (fun i=>1024 - (intOf i).toNat)
 case atStart=>exact ⟨1,rfl,.inl rfl⟩
 case round =>
  obtain ⟨n,rfl,hW⟩:=hrel
  have HW:Hid (Wp r n):=hW
  obtain ⟨n0,n1⟩:=hW.le
  clear hW
  have m1:¬ ((n:Int)<1):=by omega
  by_cases hr1:r<1
  ·have hr1':r≤1024:=by omega
   go_wp2
   go_ret
   exact ⟨n,rfl,⟨n0,n1⟩,HW.out.end (.inl (by omega)),rfl⟩
  ·by_cases hr:r≤1024
   ·have hr2:¬ ((1024:Int)<r):=by omega
    by_cases hn:(n:Int)<r
    ·go_wp2
     go_round
     case rel=>exact ⟨2*n,by go_num,HW.out.next hn (by omega)⟩
     case measure=>simp [intOf];omega
    ·go_wp2
     go_ret
     exact ⟨n,rfl,⟨n0,n1⟩,HW.out.end (.inl (by omega)),rfl⟩
   ·have hr2:(1024:Int)<r:=by omega
    have hr3:¬ (r<(1024:Int)):=by omega
    by_cases hn:(n:Int)<1024
    ·go_wp2
     go_round
     case rel=>exact ⟨2*n,by go_num,HW.out.next (by omega) (by omega)⟩
     case measure=>simp [intOf];omega
    ·go_wp2
     go_ret
     exact ⟨n,rfl,⟨n0,n1⟩,HW.out.end (.inr (by omega)),rfl⟩
section
variable {D:Nat→Prop} {w:World} {p g K M:Nat} {b:Nat→Bool}
theorem rf_made (hD:∀ k,w.heap.size≤k→D k) :
 RfIn D ((w.alloc (.cells (bls (fun _=>false) M).toArray 4)).alloc (.cells #[.slice (some ⟨w.heap.size,0,none⟩) M M] 180)) (w.heap.size+1) w.heap.size M (fun _=>false):=by
 have h:=heap_alloc_new (w.alloc (.cells (bls (fun _=>false) M).toArray 4)) (.cells #[.slice (some ⟨w.heap.size,0,none⟩) M M] 180)
 rw [World.size_alloc] at h
 refine ⟨hD _ (by omega),hD _ (Nat.le_refl _),by omega,h,?_⟩
 rw [Below.heap_alloc _ _ _ (by simp)]
 exact heap_alloc_new _ _
theorem rnew_any (r:Int) (h0 : -9223372036854775808≤r) (h1:r≤9223372036854775807) (hD:∀ k,w.heap.size≤k→D k) :
 Calls Tryz.prog 67 #[.int .i64 r] w fun e w'=>∃ p,e=.returned (.pointer (some ⟨p,0,none⟩))∧RF p (nw r) (fun _=>false) D w'∧Keeps D w w':=by
 obtain ⟨w0,w1⟩:=nw_le r
 have hw:=power_any r w h0 h1
 generalize nw r=K at w0 w1 hw ⊢
 have HMK:Hid (∀ m:Nat,m≤8192→∀ (W:World),(Instr.makeSlice 178 (.int .i64 (m:Nat)) (.int .i64 (m:Nat))).run Tryz.prog W=.ok (.slice (some ⟨W.heap.size,0,none⟩) m m) (W.alloc (.cells (bls (fun _=>false) m).toArray 4))):=by
  intro m hm
  have hmk:=run_make_row' (P:=Tryz.prog) 178 4 (.bool false) 1 Tryz.underlying178 info4 rfl .i64 .i64 m (by omega) (by omega)
  rw [bls_made] at hmk
  exact hmk
 go_enter Tryz.func67,Tryz.ntmps67
 go_wp2_with (go_at_call 100;refine hw.mono ?_;rintro e w1 ⟨n,rfl,⟨n1,n2⟩,hn,rfl⟩;clear hw;rcases hn with ⟨n8,rfl⟩ | ⟨n8,hn⟩;(have hmk:=HMK.out 64 (by omega));rw [show ((64:Nat):Int)=64 from rfl] at hmk;(have hle:8*(n:Int)≤64:=by omega);rotate_left;(have hmk:=HMK.out (64*K) (by omega));rw [show ((64*K:Nat):Int)=8*(n:Int) by omega] at hmk;(have hle:¬ (8*(n:Int)≤64):=by omega);clear hn;rotate_left)
 all_goals
  go_ret
  exact ⟨_,rfl,⟨⟨w0,by assumption⟩,_,rf_made hD⟩,((Keeps.refl D _).alloc _).alloc _⟩
end
end Go.Proofs.YtkkkkiejnmpdkaaGreatDoor.Lfu.Dr
