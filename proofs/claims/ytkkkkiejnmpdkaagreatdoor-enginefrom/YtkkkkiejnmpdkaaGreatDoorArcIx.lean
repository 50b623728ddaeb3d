/- Arc Ix: Ia -/
import Derived.Test.YtkkkkiejnmpdkaaGreatDoorIx
namespace Go.Proofs.YtkkkkiejnmpdkaaGreatDoor.Arc.Ix
open Go.Proofs.YtkkkkiejnmpdkaaGreatDoor.Ix
open Go.RowKit
section
variable {D:Nat→Prop} {w:World} {p seed:Nat} {sl:List (Sl Sp)} {used count b:Nat} {ad:Option Addr} {m:ByteArray→Option Sp}
theorem find_none (H:IndexIn 229 147 D w p seed [] used count ad) (k:ByteArray) :
 Calls Tryz.prog 195 #[.pointer (some ⟨p,0,none⟩),.string k] w fun e w'=>e=.returned (.tuple #[.int .i64 0,.bool false])∧w'=w:=by
 obtain ⟨c0,c1,c2,c3,-⟩:=H.top
 clear H
 rw [List.length_nil] at c1
 go_enter Tryz.func195,Tryz.ntmps195
 go_wp2
 go_ret2
 exact ⟨rfl,rfl⟩
set_option maxHeartbeats 2000000 in
theorem find_any (H:IndexIn 229 147 D w p seed sl used count ad) (o:Ok (hs seed) sl used count b m) (hs0:seed<18446744073709551616) (hl:sl≠[]) (hb:b≤1000000) (k:ByteArray) (hk:k.size≤maxLen) :
 Calls Tryz.prog 195 #[.pointer (some ⟨p,0,none⟩),.string k] w fun e w'=>(∃ q,w'=w.drewN q) ∧
  ((∃ j:Nat,e=.returned (.tuple #[.int .i64 (j:Nat),.bool true])∧Hit sl k j)∨(∃ j:Nat,e=.returned (.tuple #[.int .i64 (j:Nat),.bool false])∧m k=none∧Free sl (hs seed k) j)):=by
 have hn:0<sl.length:=List.length_pos_iff.2 hl
 have hbig:sl.length≤4000004:=by have:=o.big;omega
 obtain ⟨d,s,hdl,hds,hstop,hway⟩:=o.stop hl k
 obtain ⟨g,rfl,hgp,hDg,hg⟩:=H.block hn
 have hcell:∀ (i:Nat) (t:Sl Sp),sl[i]? = some t→w.cell? ⟨g,i*4,none⟩=some (.int .u8 (t.st:Nat))∧w.cell? ⟨g,i*4+1,none⟩=some (.string t.key):=fun i t ht=>⟨(slot_cells hg ht).1,(slot_cells hg ht).2.1⟩
 have HC:Hid (∀ (i:Nat) (t:Sl Sp),sl[i]? = some t→w.cell? ⟨g,i*4,none⟩=some (.int .u8 (t.st:Nat))∧w.cell? ⟨g,i*4+1,none⟩=some (.string t.key)):=hcell
 have HW:Hid (∀ e,e<d→∃ t:Sl Sp,sl[(hs seed k+e) % sl.length]? = some t∧t.st≠0∧¬ (t.st=2∧t.key=k)):=hway
 have HS:Hid (sl[(hs seed k+d) % sl.length]? = some s∧(s.st=0∨(s.st=2∧s.key=k))):=⟨hds,hstop⟩
 have HO:Hid (Ok (hs seed) sl used count b m):=o
 obtain ⟨c0,c1,c2,c3,-⟩:=H.top
 have hh:∀ W:World,Calls Tryz.prog 206 #[.int .u64 (seed:Nat),.string k] W fun e w'=>e=.returned (.int .u64 (hs seed k:Nat))∧w'=W:=fun W=>hash_any seed k W hs0 hk
 have hlt:=hs_lt seed k
 have hplc:∀ W:World,Calls Tryz.prog 205 #[.int .u64 (hs seed k:Nat),.int .i64 (sl.length:Nat)] W fun e w'=>e=.returned (.int .i64 ((hs seed k+0) % sl.length:Nat))∧w'=W:=fun W=>by
  have:=place_any (hs seed k:Nat) (sl.length:Nat) W (by omega) (by omega) (by omega)
  rw [plc_yes (by omega)] at this
  simpa using this
 clear hcell hway hds hstop o H hg hl
 obtain ⟨h,hh0⟩:∃ h,h=hs seed k:=⟨_,rfl⟩
 rw [← hh0] at HW HS hh hlt hplc ⊢
 have HH:Hid (h=hs seed k):=hh0
 clear hh0
 go_enter Tryz.func195,Tryz.ntmps195
 go_wp2
 go_quiet (first | (go_at_call 206;exact Calls.quiet_of_same (hh _)) | (go_at_call 205;exact Calls.quiet_of_same (hplc _)))
 go_wp2
 clear hh hplc
 go_loop [6,7] (fun a mk=>∃ (d':Nat) (M:Int),d'≤d∧a=.int .i64 (((h+d') % sl.length:Nat):Int)∧mk=.int .i64 M∧Ix.Mark sl h d' M) (fun a _=>d - dist sl.length h (intOf a).toNat)
 case atStart=>exact ⟨0,-1,Nat.zero_le _,rfl,rfl,.inl rfl⟩
 case round =>
  obtain ⟨d',M,hd',rfl,rfl,hM⟩:=hrel
  have hwn:∀ e,e<d→∃ t:Sl Sp,sl[(h+e) % sl.length]? = some t∧t.st≠0:=fun e he=>by obtain ⟨t,h1,h2,_⟩:=HW.out e he;exact ⟨t,h1,h2⟩
  have HN:Hid (∀ e,e<d→∃ t:Sl Sp,sl[(h+e) % sl.length]? = some t∧t.st≠0):=hwn
  have HM:Hid (Ix.Mark sl h d' M):=hM
  have hlt2:(h+d') % sl.length<sl.length:=Nat.mod_lt _ hn
  have hnx:((h+d') % sl.length+1) % sl.length=(h+(d'+1)) % sl.length:=next_place _ _ _
  have hdist:dist sl.length h ((h+d') % sl.length)=d':=dist_at _ _ _ (by omega)
  clear hwn hM
  rcases Nat.lt_or_ge d' d with hlt' | hge
  ·obtain ⟨t,ht,ht0,htk⟩:=HW.out d' hlt'
   obtain ⟨e0,e1⟩:=HC.out _ t ht
   have ht2:=HO.out.st _ t ht
   have hdist2:dist sl.length h ((h+(d'+1)) % sl.length)=d'+1:=dist_at _ _ _ (by omega)
   obtain ⟨a,ha⟩:∃ a,a=(h+d') % sl.length:=⟨_,rfl⟩
   have hme:d - dist sl.length h (((a:Int)+1) % (sl.length:Int)).toNat<d - dist sl.length h (a:Int).toNat:=by
    have e:(((a:Int)+1) % (sl.length:Int))=(((a+1) % sl.length:Nat):Int):=by simp
    rw [e,Int.toNat_natCast,Int.toNat_natCast,ha,hnx,hdist,hdist2]
    omega
   rw [← ha] at ht hnx hlt2 e0 e1 ⊢
   have HT:Hid (sl[a]? = some t):=ht
   have HX:Hid ((a+1) % sl.length=(h+(d'+1)) % sl.length):=hnx
   have HA:Hid (a=(h+d') % sl.length):=ha
   have HME:Hid (d - dist sl.length h (((a:Int)+1) % (sl.length:Int)).toNat<d - dist sl.length h (a:Int).toNat):=hme
   clear ht hnx hdist hdist2 ha hme
   by_cases h1:t.st=1
   ·rw [h1] at e0
    by_cases hMn:M<0
    ·go_wp2
     go_round
     case rel=>exact ⟨d'+1,(a:Nat),hlt',by rw [← HX.out];go_num,rfl,.inr ⟨d',t,by omega,by rw [HA.out],by rw [← HA.out];exact HT.out,h1⟩⟩
     case measure=>exact HME.out
    ·go_wp2
     go_round
     case rel=>exact ⟨d'+1,M,hlt',by rw [← HX.out];go_num,rfl,HM.out.next⟩
     case measure=>exact HME.out
   ·have h2:t.st=2:=by omega
    have hne:(t.key.toList==k.toList)=false:=by rw [bytes_beq];simp;exact fun e=>htk ⟨h2,e⟩
    rw [h2] at e0
    go_wp2
    go_round
    case rel=>exact ⟨d'+1,M,hlt',by rw [← HX.out];go_num,rfl,HM.out.next⟩
    case measure=>exact HME.out
  ·have hk':d'=d:=by omega
   subst hk'
   obtain ⟨hds,hstop⟩:=HS.out
   obtain ⟨e0,e1⟩:=HC.out _ s hds
   obtain ⟨a,ha⟩:∃ a,a=(h+d') % sl.length:=⟨_,rfl⟩
   rw [← ha] at hds hlt2 e0 e1 ⊢
   have HT:Hid (sl[a]? = some s):=hds
   have HA:Hid (a=(h+d') % sl.length):=ha
   clear hds hdist hnx ha
   rcases hstop with h0 | ⟨h2,hkk⟩
   ·rw [h0] at e0
    have HH0:Hid (s.st=0):=h0
    have hno:Hid (m k=none):=HO.out.miss (d:=d') (by rw [← HH.out,← HA.out];exact HT.out) HH0.out (by rw [← HH.out];exact HW.out)
    by_cases hMn:0≤M
    ·obtain ⟨j,rfl,hf⟩:=HM.out.free hMn HN.out
     have HF:Hid (Free sl h j):=hf
     clear hf
     go_wp2
     go_ret2
     exact ⟨⟨_,rfl⟩,.inr ⟨j,rfl,hno.out,HF.out⟩⟩
    ·go_wp2
     go_ret2
     exact ⟨⟨_,rfl⟩,.inr ⟨a,rfl,hno.out,s,d',HT.out,by rw [HH0.out];omega,HA.out,HN.out⟩⟩
   ·have heq:(s.key.toList==k.toList)=true:=by rw [hkk];simp
    have HKK:Hid (s.st=2∧s.key=k):=⟨h2,hkk⟩
    rw [h2] at e0
    clear hkk
    go_wp2
    go_ret2
    exact ⟨⟨_,rfl⟩,.inl ⟨a,rfl,s,HT.out,HKK.out.1,HKK.out.2⟩⟩
theorem find_hit (H:IndexIn 229 147 D w p seed sl used count ad) (o:Ok (hs seed) sl used count b m) (hs0:seed<18446744073709551616) (hb:b≤1000000) (k:ByteArray) (hk:k.size≤maxLen) {v:Sp} (hm:m k=some v) :
 Calls Tryz.prog 195 #[.pointer (some ⟨p,0,none⟩),.string k] w fun e w'=>∃ j:Nat,e=.returned (.tuple #[.int .i64 (j:Nat),.bool true])∧Hit sl k j∧∃ q,w'=w.drewN q:=by
 have hl:sl≠[]:=by
  rintro rfl
  obtain ⟨i,s,h,_⟩:=(o.map k v).1 hm
  simp at h
 refine (find_any H o hs0 hl hb k hk).mono ?_
 rintro e w' ⟨hq,⟨j,he,hj⟩ | ⟨j,he,hn,_⟩⟩
 ·exact ⟨j,he,hj,hq⟩
 ·rw [hm] at hn;cases hn
theorem find_miss (H:IndexIn 229 147 D w p seed sl used count ad) (o:Ok (hs seed) sl used count b m) (hs0:seed<18446744073709551616) (hl:sl≠[]) (hb:b≤1000000) (k:ByteArray) (hk:k.size≤maxLen) (hm:m k=none) :
 Calls Tryz.prog 195 #[.pointer (some ⟨p,0,none⟩),.string k] w fun e w'=>∃ j:Nat,e=.returned (.tuple #[.int .i64 (j:Nat),.bool false])∧Free sl (hs seed k) j∧∃ q,w'=w.drewN q:=by
 refine (find_any H o hs0 hl hb k hk).mono ?_
 rintro e w' ⟨hq,⟨j,he,hj⟩ | ⟨j,he,hn,hf⟩⟩
 ·obtain ⟨s,_,_,_,h⟩:=o.hit_at hj
  rw [hm] at h;cases h
 ·exact ⟨j,he,hf,hq⟩
theorem find_not (H:IndexIn 229 147 D w p seed sl used count ad) (o:Ok (hs seed) sl used count b m) (hs0:seed<18446744073709551616) (hb:b≤1000000) (k:ByteArray) (hk:k.size≤maxLen) (hm:m k=none) :
 Calls Tryz.prog 195 #[.pointer (some ⟨p,0,none⟩),.string k] w fun e w'=>∃ j:Nat,e=.returned (.tuple #[.int .i64 (j:Nat),.bool false])∧∃ q,w'=w.drewN q:=by
 by_cases hl:sl=[]
 ·subst hl
  exact (find_none H k).mono fun e w' ⟨he,hw⟩=>⟨0,he,0,hw⟩
 ·exact (find_miss H o hs0 hl hb k hk hm).mono fun e w' ⟨j,he,_,hq⟩=>⟨j,he,hq⟩
end
end Go.Proofs.YtkkkkiejnmpdkaaGreatDoor.Arc.Ix
