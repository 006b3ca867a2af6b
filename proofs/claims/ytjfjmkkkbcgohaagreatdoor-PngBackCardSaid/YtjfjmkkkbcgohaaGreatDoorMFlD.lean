import Derived.Test.YtjfjmkkkbcgohaaGreatDoorMHufZ
import Derived.Laws.MakeOwn
namespace Go.Proofs.YtjfjmkkkbcgohaaGreatDoor
open Go Go.RowKit
theorem flip32 (n : Nat) (h : n < 4294967296) : bits .xor .u32 IntKind.u32.max (n : Int) = ((4294967295 - n : Nat) : Int):=by
 have h1 : (BitVec.allOnes 32 ^^^ BitVec.ofNat 32 n) = ~~~ BitVec.ofNat 32 n:=BitVec.allOnes_xor
 have h2:=congrArg BitVec.toNat h1
 rw [BitVec.toNat_xor,BitVec.toNat_not,BitVec.toNat_allOnes,BitVec.toNat_ofNat,Nat.mod_eq_of_lt (by omega)] at h2
 have:=u32_xor_nat 4294967295 n (by omega) h
 rw [show 4294967295 ^^^ n = 4294967295 - n from h2] at this
 exact this
theorem low16 (n : Nat) (h : n < 4294967296) : bits .and .u32 (n : Int) 65535 = ((n % 65536 : Nat) : Int):=by
 have:=u32_and_nat n 65535 h (by omega)
 rw [show (65535 : Nat) = 2 ^ 16 - 1 from rfl,Nat.and_two_pow_sub_one_eq_mod] at this
 exact this
set_option maxRecDepth 100000 in
set_option maxHeartbeats 2000000 in
theorem size_short (g gf gw gr : Nat) (K : List Nat) (f : DF) (v vo : Value) (l : List UInt8) (q : Nat) (all x : List UInt8) (w : World) (h : Rn w g gf gw gr K f v vo l q all x) (hq : 8 * l.length < q + toByte q + 32) :
 Calls Tryz.prog 168 #[.pointer (some ⟨g,0,none⟩),.pointer (some ⟨gf,0,none⟩)] w fun e w' =>
  e = .returned (.int .i64 2) /\ Rn w' g gf gw gr K f v vo l (q + toByte q) all x /\ Only [gr] w w':=by
 have c0 : w.cell? ⟨gf,0,none⟩ = some (.pointer (some ⟨gr,0,none⟩)):=Has.cell h.on.flow 0
 have HA:=hide (align_any gr v l q w h.rd)
 have H:=hide h
 have HQ:=hide hq
 clear h hq
 generalize toByte q = t at *
 go_enter Tryz.func168,Tryz.ntmps168
 go_wp2_with fail
 refine (HA.out).mono ?_
 rintro e w1 ⟨rfl,ho1,hr1⟩
 have h1:=H.out.read ho1 hr1
 have c1 : w1.cell? ⟨gf,0,none⟩ = some (.pointer (some ⟨gr,0,none⟩)):=Has.cell h1.on.flow 0
 have hB:=bits_any gr v l (q + t) 32 w1 hr1
 have ok : okBits l.length (q + t) 32 = false:=by have:=HQ.out; unfold okBits; simp; omega
 rw [ok] at hB
 generalize gotBits l (q + t) 32 = y at *
 have H1:=hide (aI ho1 (aI h1 hB))
 clear ho1 hr1 h1 ok hB
 go_wp2_with fail
 refine (H1.out.2.2).mono ?_
 rintro e w2 ⟨rfl,ho2,hr2⟩
 have H2:=hide (aI ho2 hr2)
 clear ho2 hr2
 go_wp2_with fail
 go_ret
 exact ⟨rfl,H1.out.2.1.read H2.out.1 H2.out.2,H1.out.1.trans H2.out.1 (by simp)⟩
set_option maxRecDepth 100000 in
set_option maxHeartbeats 2000000 in
theorem size_ok (g gf gw gr : Nat) (K : List Nat) (f : DF) (v vo : Value) (l : List UInt8) (q : Nat) (all x : List UInt8) (w : World) (h : Rn w g gf gw gr K f v vo l q all x) (hq : q + toByte q + 32 <= 8 * l.length)
 (n : Nat) (hn : n < 65536) (hv : bitsOf (num l) (q + toByte q) 32 = n + (65535 - n) * 65536) :
 Calls Tryz.prog 168 #[.pointer (some ⟨g,0,none⟩),.pointer (some ⟨gf,0,none⟩)] w fun e w' =>
  e = .returned (.int .i64 0) /\ Rn w' g gf gw gr K { f with left:=n } v vo l (q + toByte q + 32) all x /\ Only [g,gr] w w':=by
 have c0 : w.cell? ⟨gf,0,none⟩ = some (.pointer (some ⟨gr,0,none⟩)):=Has.cell h.on.flow 0
 have HA:=hide (align_any gr v l q w h.rd)
 have H:=hide h
 have HQ:=hide (aI hq hv)
 clear h hq hv
 generalize toByte q = t at *
 obtain ⟨z,hz⟩ : ∃ z,z = n + (65535 - n) * 65536:=⟨_,rfl⟩
 have e1 : bits .and .u32 (z : Int) 65535 = (n : Int):=by rw [low16 z (by omega)]; omega
 have e2:=flip32 z (by omega)
 have e3 : ((4294967295 - z : Nat) : Int) / 65536 = (n : Int):=by omega
 have e4 : ((n : Int) != (n : Int)) = false:=by simp
 have e5 : (if IntKind.u32.signed = true then -1 else IntKind.u32.max) = IntKind.u32.max:=by decide
 generalize (4294967295 - z : Nat) = y at *
 have HZ:=hide hz
 go_enter Tryz.func168,Tryz.ntmps168
 go_wp2_with fail
 refine (HA.out).mono ?_
 rintro e w1 ⟨rfl,ho1,hr1⟩
 have h1:=H.out.read ho1 hr1
 have c1 : w1.cell? ⟨gf,0,none⟩ = some (.pointer (some ⟨gr,0,none⟩)):=Has.cell h1.on.flow 0
 have hB:=bits_any gr v l (q + t) 32 w1 hr1
 have ok : okBits l.length (q + t) 32 = true:=by have:=HQ.out; unfold okBits; simp; omega
 unfold gotBits at hB
 rw [ok] at hB
 simp only [if_true] at hB
 rw [show (32 : Int).toNat = 32 from rfl,HQ.out.2,<- HZ.out] at hB
 have H1:=hide (aI ho1 (aI h1 hB))
 clear ho1 hr1 h1 ok hB hz
 go_wp2_with fail
 refine (H1.out.2.2).mono ?_
 rintro e w2 ⟨rfl,ho2,hr2⟩
 have h2:=H1.out.2.1.read ho2 hr2
 have k2:=h2.on.dec.left
 have q2 : w2.frozen? ⟨g,10,none⟩ = false:=Has.free h2.on.dec 10
 have H2:=hide (aI ho2 h2)
 clear ho2 hr2 h2
 go_wp2_with fail
 go_ret
 refine ⟨rfl,H2.out.2.cells ((Only.refl [g] _).setCell (by simp) _) (Dc.set_left H2.out.2.on.dec _) rfl rfl ?_,(((H1.out.1.trans H2.out.1 (by simp)).weak (by simp)).setCell (by simp) _)⟩
 exact H2.out.2.keepX ((Only.refl [g] _).setCell (by simp) _)
set_option maxRecDepth 100000 in
set_option maxHeartbeats 2000000 in
theorem size_bad (g gf gw gr : Nat) (K : List Nat) (f : DF) (v vo : Value) (l : List UInt8) (q : Nat) (all x : List UInt8) (w : World) (h : Rn w g gf gw gr K f v vo l q all x) (hq : q + toByte q + 32 <= 8 * l.length)
 (z : Nat) (hz : z < 4294967296) (hv : bitsOf (num l) (q + toByte q) 32 = z) (hb : z / 65536 ≠ 65535 - z % 65536) :
 Calls Tryz.prog 168 #[.pointer (some ⟨g,0,none⟩),.pointer (some ⟨gf,0,none⟩)] w fun e w' =>
  e = .returned (.int .i64 3) /\ Rn w' g gf gw gr K f v vo l (q + toByte q + 32) all x /\ Only [gr] w w':=by
 have c0 : w.cell? ⟨gf,0,none⟩ = some (.pointer (some ⟨gr,0,none⟩)):=Has.cell h.on.flow 0
 have HA:=hide (align_any gr v l q w h.rd)
 have H:=hide h
 have HQ:=hide (aI hq hv)
 clear h hq hv
 generalize toByte q = t at *
 have e1 : bits .and .u32 (z : Int) 65535 = ((z % 65536 : Nat) : Int):=low16 z (by omega)
 have e2:=flip32 z (by omega)
 have e3 : ((4294967295 - z : Nat) : Int) / 65536 = ((65535 - z / 65536 : Nat) : Int):=by omega
 have e4 : ¬ ((z % 65536 : Nat) : Int) = ((65535 - z / 65536 : Nat) : Int):=by omega
 have e5 : (if IntKind.u32.signed = true then -1 else IntKind.u32.max) = IntKind.u32.max:=by decide
 clear hb hz
 generalize (4294967295 - z : Nat) = y at *
 generalize (65535 - z / 65536 : Nat) = y2 at *
 generalize (z % 65536 : Nat) = z2 at *
 go_enter Tryz.func168,Tryz.ntmps168
 go_wp2_with fail
 refine (HA.out).mono ?_
 rintro e w1 ⟨rfl,ho1,hr1⟩
 have h1:=H.out.read ho1 hr1
 have c1 : w1.cell? ⟨gf,0,none⟩ = some (.pointer (some ⟨gr,0,none⟩)):=Has.cell h1.on.flow 0
 have hB:=bits_any gr v l (q + t) 32 w1 hr1
 have ok : okBits l.length (q + t) 32 = true:=by have:=HQ.out; unfold okBits; simp; omega
 unfold gotBits at hB
 rw [ok] at hB
 simp only [if_true] at hB
 rw [show (32 : Int).toNat = 32 from rfl,HQ.out.2] at hB
 have H1:=hide (aI ho1 (aI h1 hB))
 clear ho1 hr1 h1 ok hB
 go_wp2_with fail
 refine (H1.out.2.2).mono ?_
 rintro e w2 ⟨rfl,ho2,hr2⟩
 have h2:=H1.out.2.1.read ho2 hr2
 have H2:=hide (aI ho2 h2)
 clear ho2 hr2 h2
 go_wp2_with fail
 go_ret
 exact ⟨rfl,H2.out.2,H1.out.1.trans H2.out.1 (by simp)⟩
theorem left_in (g : Nat) (v : Value) (l : List UInt8) (k : Nat) (w : World) (hR : Rd w g v l k) :
 Calls Tryz.prog 166 #[.pointer (some ⟨g,0,none⟩)] w fun e w'=>e = .returned (.int .i64 ((8 * l.length - k : Nat) : Int)) /\ ∃ m,w' = w.drewN m:=by
 obtain ⟨A,c,rfl,hc,hA⟩:=own_shape hR.2.1
 exact left_any g l.length c A k w hR.1 hR.2.2.1 hR.2.2.2
theorem Rn.drewN {w : World} {g gf gw gr : Nat} {K : List Nat} {f : DF} {v vo : Value} {l : List UInt8} {q : Nat} {all x : List UInt8} (h : Rn w g gf gw gr K f v vo l q all x) (m : Nat) : Rn (w.drewN m) g gf gw gr K f v vo l q all x :=
 h.read ((Only.refl [gr] w).drewN m) (h.rd.drewN m)
set_option maxRecDepth 100000 in
set_option maxHeartbeats 4000000 in
theorem stored_long (g gf gw gr : Nat) (K : List Nat) (f : DF) (v vo : Value) (l : List UInt8) (q : Nat) (all x : List UInt8) (w : World) (h : Rn w g gf gw gr K f v vo l q all x) (n : Nat) (hn : n = min f.left ((8 * l.length - q) / 8)) (hm : all.length <= f.most) (hl : f.most < all.length + n) (hmost : f.most <= 1073741824) :
 Calls Tryz.prog 169 #[.pointer (some ⟨g,0,none⟩),.pointer (some ⟨gf,0,none⟩)] w fun e w' =>
  e = .returned (.int .i64 5) /\ ∃ m,w' = w.drewN m:=by
 have c0 : w.cell? ⟨gf,0,none⟩ = some (.pointer (some ⟨gr,0,none⟩)):=Has.cell h.on.flow 0
 have c1:=h.on.dec.left
 have c2:=h.on.dec.most
 have c3:=h.on.dec.wn
 rw [h.on.wn] at c3
 have HL:=hide (fun k=>left_in gr v l q (w.drewN k) (h.rd.drewN k))
 have hlen:=h.rd.2.2.1
 have H:=hide h
 have HN:=hide hn
 clear h hn
 generalize f.left = c at *
 generalize f.most = M at *
 generalize all.length = n0 at *
 have hrb : 8 * l.length - q <= 1125899906842624:=by omega
 generalize 8 * l.length - q = r at *
 have hw : RowKit.wrap64 ((r : Int) / 8) = (r : Int) / 8:=IntWalk.wrap64_in _ ⟨by omega,by omega⟩
 have hmin : (if (r : Int) / 8 < (c : Int) then (r : Int) / 8 else (c : Int)) = (n : Int):=by have:=HN.out; split <;> omega
 have hlt : (M : Int) - (n0 : Int) < (n : Int):=by omega
 go_enter Tryz.func169,Tryz.ntmps169
 go_wp2_with fail
 go_quiet ((go_at_call 166; exact Calls.quiet_of (HL.out _)))
 go_wp2_with fail
 go_region
 all_goals
  go_wp2_with fail
  go_ret
  exact ⟨rfl,_,rfl⟩
namespace Rn
variable {w : World} {g gf gw gr : Nat} {K : List Nat} {f : DF} {v vo : Value} {l : List UInt8} {q : Nat} {all x : List UInt8}
theorem lay {w' : World} {f' : DF} {vo' : Value} {all' x' : List UInt8} (h : Rn w g gf gw gr K f v vo l q all x) (ho : On w' g gf gw K f' (.pointer (some ⟨gr,0,none⟩)) vo' all' x') (hs : Since [g,gf,gw] w vo w' vo') (h2 : f'.fx = f.fx) : Rn w' g gf gw gr K f' v vo' l q all' x':=by
 have hO : Other w ([g,gf,gw] ++ vo.ownBlock.toList):=fun k hk hlt=>h.other k (List.mem_append.2 ((List.mem_append.1 hk).imp (fun hk=>by simp only [List.mem_cons,List.not_mem_nil,or_false] at hk ⊢; omega) id)) hlt
 refine ⟨ho,h.rd.only hs.only (fun hm=>?_) (fun b hb hm=>?_),h.vK,h.gwK,h.gK,h.gg,?_⟩
 ·simp only [List.mem_append,List.mem_cons,List.not_mem_nil,or_false] at hm
  rcases hm with (rfl | rfl | rfl) | hm
  ·exact h.g_gr rfl
  ·exact h.gf_gr rfl
  ·exact h.gw_gr rfl
  ·exact h.vo_gr (mem_own.1 hm).symm
 ·simp only [List.mem_append,List.mem_cons,List.not_mem_nil,or_false] at hm
  rcases hm with (rfl | rfl | rfl) | hm
  ·exact h.v_g hb.symm
  ·exact h.v_gf hb.symm
  ·exact h.gwK (h.vK _ hb)
  ·exact (h.on.apart b (h.vK b hb)).1 (mem_own.1 hm)
 ·rw [h2]; exact h.fx.imp id (fun hx=>hx.keep hs.only hO)
theorem more {K' : List Nat} (h : Rn w g gf gw gr K f v vo l q all x) (h1 : ∀ k ∈ K',vo.ownBlock ≠ some k /\ k < w.heap.size) (h2 : ∀ k ∈ K,k ∈ K') (h3 : gw ∉ K') : Rn w g gf gw gr K' f v vo l q all x :=
 ⟨⟨h.on.dec,h.on.ring,h.on.wb,h.on.wn,h.on.flow,h.on.out,h.on.gw_,h1⟩,h.rd,fun b hb=>h2 b (h.vK b hb),h3,fun k hk=>h2 k (h.gK k hk),h.gg,h.fx⟩
theorem less {K' : List Nat} (h : Rn w g gf gw gr K' f v vo l q all x) (h2 : ∀ k ∈ K,k ∈ K') (h3 : ∀ b,v.ownBlock = some b -> b ∈ K) (h4 : ∀ k ∈ Gs,k ∈ K) : Rn w g gf gw gr K f v vo l q all x :=
 ⟨⟨h.on.dec,h.on.ring,h.on.wb,h.on.wn,h.on.flow,h.on.out,h.on.gw_,fun k hk=>h.on.apart k (h2 k hk)⟩,h.rd,h3,fun hm=>h.gwK (h2 _ hm),h4,h.gg,h.fx⟩
theorem vo_lt (h : Rn w g gf gw gr K f v vo l q all x) : ∀ b,vo.ownBlock = some b -> b < w.heap.size:=fun b hb=>(h.on.out.lt b hb).2
theorem gw_lt (h : Rn w g gf gw gr K f v vo l q all x) : gw < w.heap.size:=by obtain ⟨ws,hw,_⟩:=h.on.ring; exact hw.lt
end Rn
set_option maxRecDepth 100000 in
set_option maxHeartbeats 4000000 in
theorem stored_ok (g gf gw gr : Nat) (K : List Nat) (f : DF) (v vo : Value) (l : List UInt8) (q : Nat) (all x : List UInt8) (w : World) (h : Rn w g gf gw gr K f v vo l q all x) (n : Nat) (hn : n = min f.left ((8 * l.length - q) / 8)) (hq : q % 8 = 0) (hl : all.length + n <= f.most) (hmost : f.most <= 1073741824) (hx : x.length <= all.length) (hlf : f.left < 65536)
 (bs : List UInt8) (hbs : bs = (l.drop (q / 8)).take n) :
 Calls Tryz.prog 169 #[.pointer (some ⟨g,0,none⟩),.pointer (some ⟨gf,0,none⟩)] w fun e w' =>
  e = .returned (.int .i64 (if 0 < f.left - n then 2 else 0)) /\ ∃ vo',Rn w' g gf gw gr K { f with wn:=f.wn + n,left:=f.left - n } v vo' l (q + 8 * n) (all ++ bs) (x ++ bs) /\ Since [g,gf,gw,gr] w vo w' vo':=by
 have c0 : w.cell? ⟨gf,0,none⟩ = some (.pointer (some ⟨gr,0,none⟩)):=Has.cell h.on.flow 0
 have c1:=h.on.dec.left
 have c2:=h.on.dec.most
 have c3:=h.on.dec.wn
 rw [h.on.wn] at c3
 have HL:=hide (fun k=>left_in gr v l q (w.drewN k) (h.rd.drewN k))
 have hlen:=h.rd.2.2.1
 have hqq:=h.rd.2.2.2
 have H:=hide h
 have HN:=hide (aI hn (aI hq (aI hbs (aI hx (aI hl hmost)))))
 have hbl : bs.length = n:=by rw [hbs,List.length_take,List.length_drop]; omega
 have hrb : 8 * l.length - q <= 1125899906842624:=by omega
 have hnl : n <= f.left:=by omega
 clear h hn hbs hx
 obtain ⟨r,hr⟩ : ∃ r,r = 8 * l.length - q:=⟨_,rfl⟩
 have HR:=hide hr
 rw [<- hr] at HL hrb
 have hw : RowKit.wrap64 ((r : Int) / 8) = (r : Int) / 8:=IntWalk.wrap64_in _ ⟨by omega,by omega⟩
 have hmin : (if (r : Int) / 8 < (f.left : Int) then (r : Int) / 8 else (f.left : Int)) = (n : Int):=by have:=HN.out.1; split <;> omega
 have hlt : ¬ (f.most : Int) - (all.length : Int) < (n : Int):=by omega
 have HBL:=hide hbl
 clear hr hbl hqq
 go_enter Tryz.func169,Tryz.ntmps169
 go_wp2_with fail
 go_quiet ((go_at_call 166; exact Calls.quiet_of (HL.out _)))
 go_wp2_with fail
 go_region
 all_goals
  go_wp2_with fail
  have hD:=H.out.drewN (nq + 1)
  have hgot : gotBytes l q (n : Int) = bs:=by
   have h1:=HN.out
   unfold gotBytes
   rw [if_pos (by unfold okBytes; simp; omega),Int.toNat_natCast,<- h1.2.2.1]
  have hY:=bytes_any gr v l q (n : Int) (w.drewN (nq + 1)) hD.rd
  rw [hgot,HBL.out] at hY
  refine hY.mono ?_
  rintro e w1 ⟨rv,rfl,hrv,ho1,hr1⟩
  obtain ⟨A,cc,rfl,hcc,_⟩:=own_shape hrv
  have hR1:=hD.read ho1 hr1
  have hlt1 : ∀ b,(Value.slice A n cc).ownBlock = some b -> w.heap.size <= b /\ b < w1.heap.size:=fun b hb=>hrv.lt b hb
  have hR2 : Rn w1 g gf gw gr ((Value.slice A n cc).ownBlock.toList ++ K) f v vo l (q + 8 * n) all x:=by
   refine hR1.more (fun k hk=>?_) (fun k hk=>List.mem_append.2 (.inr hk)) (fun hm=>?_)
   ·rcases List.mem_append.1 hk with hk | hk
    ·have h1:=hlt1 k (mem_own.1 hk)
     refine ⟨fun he=>?_,h1.2⟩
     have:=H.out.vo_lt k he
     omega
    ·exact hR1.on.apart k hk
   ·rcases List.mem_append.1 hm with hm | hm
    ·have h1:=hlt1 gw (mem_own.1 hm)
     have:=H.out.gw_lt
     omega
    ·exact H.out.gwK hm
  have hS1 : Since [g,gf,gw,gr] w vo w1 vo:=(Since.refl _ _ _).step ((((Only.refl [gr] w).drewN (nq + 1)).trans ho1 (by simp)).weak (by simp))
  have H1:=hide (aI hR2 (aI hS1 (aI hrv hlt1)))
  clear hD hgot hY hR1 hR2 hS1 hrv hlt1 ho1 hr1
  go_wp2_with fail
  go_loopw [44] (fun i wr=>∃ (j : Nat) (vo' : Value),j <= n /\ i = .int .i64 j /\ Rn wr g gf gw gr ((Value.slice A n cc).ownBlock.toList ++ K) { f with wn:=f.wn + j } v vo' l (q + 8 * n) (all ++ bs.take j) (x ++ bs.take j) /\ Since [g,gf,gw,gr] w vo wr vo' /\ wr.ownsRow 0 5 1 (.slice A n cc) n (bvals bs)) (fun i _=>n - (intOf i).toNat)
  case atStart=>exact ⟨0,vo,Nat.zero_le _,rfl,by simpa using H1.out.1,H1.out.2.1,own_mono H1.out.2.2.1 (Nat.zero_le _)⟩
  case round =>
   obtain ⟨j,vo',hj,rfl,hR,hS,hV⟩:=hrel
   by_cases hjn : j < n
   ·have hjb : j < bs.length:=by rw [HBL.out]; exact hjn
    obtain ⟨gb,hgb,_,_,_,hcell⟩:=own_open hV (by omega)
    have hcj:=hcell j _ (bvals_get bs j hjb)
    have hLay:=lay_any g gf gw ((Value.slice A n cc).ownBlock.toList ++ K) _ _ vo' _ _ bs[j] wr hR.on (by have:=HN.out; rw [List.length_append,List.length_take]; omega) (by have:=HN.out; rw [List.length_append,List.length_take]; omega)
    have htk : bs.take j ++ [bs[j]] = bs.take (j + 1):=(take_snoc hjb).symm
    have HJ:=hide (aI hR (aI hS (aI hV (aI hgb (aI hLay htk)))))
    subst hgb
    generalize bs[j] = b at *
    clear hR hS hV hLay hcell htk
    go_wp2_with fail
    refine (HJ.out.2.2.2.2.1).mono ?_
    rintro e w2 ⟨rfl,vo2,hon2,hs2⟩
    have hR2:=HJ.out.1.lay hon2 hs2 rfl
    rw [List.append_assoc,List.append_assoc,HJ.out.2.2.2.2.2] at hR2
    have hS2:=HJ.out.2.1.trans hs2 (fun i hi _=>by simp only [List.mem_cons,List.not_mem_nil,or_false] at hi ⊢; omega)
    have hV2 : w2.ownsRow 0 5 1 (.slice (some ⟨gb,0,none⟩) n cc) n (bvals bs):=own_keep HJ.out.2.2.1 hs2.only (fun b hb hm=>by
     have hbK : b ∈ (Value.slice (some ⟨gb,0,none⟩) n cc).ownBlock.toList ++ K:=List.mem_append.2 (.inl (mem_own.2 hb))
     simp only [List.mem_append,List.mem_cons,List.not_mem_nil,or_false] at hm
     rcases hm with (rfl | rfl | rfl) | hm
     ·exact own_ne HJ.out.2.2.1 HJ.out.1.on.dec (DF.ty_ne _ (by decide) (by decide)) hb.symm
     ·exact own_ne HJ.out.2.2.1 HJ.out.1.on.flow (by decide) hb.symm
     ·exact HJ.out.1.gwK hbK
     ·exact (HJ.out.1.on.apart b hbK).1 (mem_own.1 hm))
    have HJ2:=hide (aI hR2 (aI hS2 hV2))
    clear hR2 hS2 hV2 hon2 hs2
    go_wp2_with fail
    go_roundw
    case rel=>exact ⟨j + 1,vo2,hjn,by go_num,HJ2.out.1,HJ2.out.2.1,HJ2.out.2.2⟩
    case measure=>simp [intOf]; omega
   ·obtain rfl : j = n:=by omega
    rw [List.take_of_length_le (by rw [HBL.out]; exact Nat.le_refl _)] at hR
    have k10:=hR.on.dec.left
    have f10 : wr.frozen? ⟨g,10,none⟩ = false:=Has.free hR.on.dec 10
    have HJ:=hide (aI hR hS)
    have hz : (f.left : Int) - (j : Int) = ((f.left - j : Nat) : Int):=by omega
    clear hR hS hV hl hnl hmin
    have hfin : ∀ W,W = wr.setCell ⟨g,10,none⟩ (.int .i64 ((f.left - j : Nat) : Int)) -> ∃ vo',Rn W g gf gw gr K { f with wn:=f.wn + j,left:=f.left - j } v vo' l (q + 8 * j) (all ++ bs) (x ++ bs) /\ Since [g,gf,gw,gr] w vo W vo':=fun W hW=>by
     subst hW
     have oW : Only [g] wr (wr.setCell ⟨g,10,none⟩ (.int .i64 ((f.left - j : Nat) : Int))):=(Only.refl [g] _).setCell (by simp) _
     have hR':=HJ.out.1.less (K:=K) (fun k hk=>List.mem_append.2 (.inr hk)) H.out.vK H.out.gK
     exact ⟨vo',hR'.cells oW (Dc.set_left hR'.on.dec _) rfl rfl (hR'.keepX oW),HJ.out.2.step (oW.weak (by simp))⟩
    have HF:=hide hfin
    clear hfin
    obtain ⟨z,hzz⟩ : ∃ z,z = f.left - j:=⟨_,rfl⟩
    rw [<- hzz] at hz HF
    have HZ:=hide hzz
    clear hzz
    by_cases h0 : 0 < z
    ·go_wp2_with fail
     go_ret
     all_goals rw [<- HZ.out]
     all_goals first | exact ⟨rfl,HF.out _ rfl⟩ | (exfalso; have:=HZ.out; omega)
    ·go_wp2_with fail
     go_ret
     all_goals rw [<- HZ.out]
     all_goals first | exact ⟨rfl,HF.out _ rfl⟩ | (exfalso; have:=HZ.out; omega)
end Go.Proofs.YtjfjmkkkbcgohaaGreatDoor
namespace Go.Proofs.YtjfjmkkkbcgohaaGreatDoor
def huffN (l : List UInt8) (N p : Nat) : Nat × Nat × Nat:=readM l N p 16
def needN (l : List UInt8) (N p : Nat) : Nat:=if (huffN l N p).2.1 = 0 then (huffN l N p).2.2 else Lg (cn l) 15
theorem scan_ge (l : List UInt8) (N p : Nat) : ∀ r n,r + n <= 16 -> (scan l N p 16 r n).2.1 = 0 -> n <= (scan l N p 16 r n).2.2
 | 0,n,_,h=>by simp [scan] at h
 | r + 1,n,hr,h=>by
   by_cases hb : bc N p n < Fs (cn l) n + cn l n
   ·rw [scan_hit (by omega) hb]; exact Nat.le_refl _
   ·rw [scan_next (by omega) hb] at h ⊢
    have:=scan_ge l N p r (n + 1) (by omega) h
    omega
theorem Lg_15 (c : Nat -> Nat) : Lg c 15 <= 15:=Lg_le c 15
theorem huffN_pos (l : List UInt8) (N p : Nat) (h : (huffN l N p).2.1 = 0) : 0 < (huffN l N p).2.2:=by
 have:=scan_ge l N p (Lg (cn l) 15) 1 (by have:=Lg_15 (cn l); omega) h
 exact this
structure GSt where
 k : Nat
 last : Bool
 left : Nat
 p : Nat
 out : List UInt8
 T : List UInt8
 D : List UInt8
 nl : Nat
 nd : Nat
 no : Nat
 own : List UInt8
 nOwn : Nat
 sym : Nat
 lens : List UInt8
 len : Nat
def repV (s : Nat) (lens : List UInt8) : UInt8:=if s < 16 then UInt8.ofNat s else if s = 16 then lens.getLastD 0 else 0
def rankN : List Nat:=[16,17,18,0,8,7,9,6,10,5,11,4,12,3,13,2,14,1,15]
def repB (s : Nat) : Nat:=if s = 16 then 2 else if s = 17 then 3 else if s = 18 then 7 else 0
def repM (s : Nat) : Nat:=if s = 16 \/ s = 17 then 3 else if s = 18 then 11 else 1
def lenM (s : Nat) : Nat:=if s = 285 then 258 else if s < 265 then s - 254 else 3 + (4 + (s - 257) % 4) * 2 ^ ((s - 257) / 4 - 1)
def lenB (s : Nat) : Nat:=if s = 285 \/ s < 265 then 0 else (s - 257) / 4 - 1
def dstM (s : Nat) : Nat:=if s < 4 then 1 + s else 1 + (2 + s % 2) * 2 ^ (s / 2 - 1)
def dstB (s : Nat) : Nat:=if s < 4 then 0 else s / 2 - 1
def again (out : List UInt8) (far : Nat) : Nat -> List UInt8
 | 0=>out
 | n + 1=>again (out ++ [out.getD (out.length - far) 0]) far n
def GSt.nx (L0 D0 : List UInt8) (N most : Nat) (s : GSt) : Nat × Except Nat GSt :=
 if s.k = 0 then
  (s.p + 3,let v:=N / 2 ^ s.p % 8
    if v / 2 = 0 then .ok { s with k:=1,last:=v % 2 == 1,p:=(s.p + 10) / 8 * 8 }
    else if v / 2 = 1 then .ok { s with k:=7,last:=v % 2 == 1,p:=s.p + 3,T:=L0,D:=D0 }
    else if v / 2 = 2 then .ok { s with k:=3,last:=v % 2 == 1,p:=s.p + 3 } else .error 3)
 else if s.k = 1 then
  (s.p + 32,let n:=N / 2 ^ s.p % 65536
    if N / 2 ^ (s.p + 16) % 65536 = 65535 - n then .ok { s with k:=stK s.last n,left:=n,p:=s.p + 32 } else .error 3)
 else if s.k = 2 then
  (s.p + 8,if s.out.length < most then .ok { s with k:=stK s.last (s.left - 1),left:=s.left - 1,p:=s.p + 8,out:=s.out ++ [UInt8.ofNat (N / 2 ^ s.p)] } else .error 5)
 else if s.k = 3 then
  (s.p + 14,let v:=N / 2 ^ s.p % 16384
    if v % 32 <= 29 /\ v / 32 % 32 <= 29 then .ok { s with k:=4,p:=s.p + 14,nl:=257 + v % 32,nd:=1 + v / 32 % 32,no:=4 + v / 1024,own:=List.replicate 19 0,nOwn:=0,lens:=[] } else .error 3)
 else if s.k = 4 then
  (s.p + 3,let own:=s.own.set (rankN.getD s.nOwn 0) (UInt8.ofNat (N / 2 ^ s.p % 8))
    if s.nOwn + 1 < s.no then .ok { s with p:=s.p + 3,own:=own,nOwn:=s.nOwn + 1 }
    else if mayBe (cn own) = true then .ok { s with k:=5,p:=s.p + 3,own:=own,nOwn:=s.nOwn + 1 } else .error 3)
 else if s.k = 5 then
  (s.p + needN s.own N s.p,let r:=huffN s.own N s.p
    if r.2.1 ≠ 0 \/ (r.1 = 16 /\ s.lens = []) then .error 3 else .ok { s with k:=6,sym:=r.1,p:=s.p + r.2.2 })
 else if s.k = 6 then
  (s.p + repB s.sym,let m:=repM s.sym + N / 2 ^ s.p % 2 ^ repB s.sym
    let l:=s.lens ++ List.replicate m (repV s.sym s.lens)
    if s.nl + s.nd < l.length then .error 3
    else if l.length < s.nl + s.nd then .ok { s with k:=5,p:=s.p + repB s.sym,lens:=l }
    else if mayBe (cn (l.take s.nl)) = true /\ mayBe (cn (l.drop s.nl)) = true /\ ln l 256 ≠ 0 then .ok { s with k:=7,p:=s.p + repB s.sym,lens:=l,T:=l.take s.nl,D:=l.drop s.nl } else .error 3)
 else if s.k = 7 then
  (s.p + needN s.T N s.p,let r:=huffN s.T N s.p
    if r.2.1 ≠ 0 \/ 285 < r.1 then .error 3
    else if r.1 < 256 then (if s.out.length < most then .ok { s with p:=s.p + r.2.2,out:=s.out ++ [UInt8.ofNat r.1] } else .error 5)
    else if r.1 = 256 then .ok { s with k:=behindK s.last,p:=s.p + r.2.2 }
    else .ok { s with k:=8,sym:=r.1,p:=s.p + r.2.2 })
 else if s.k = 8 then
  (s.p + lenB s.sym,.ok { s with k:=9,len:=lenM s.sym + N / 2 ^ s.p % 2 ^ lenB s.sym,p:=s.p + lenB s.sym })
 else if s.k = 9 then
  (s.p + needN s.D N s.p,let r:=huffN s.D N s.p
    if r.2.1 ≠ 0 \/ 29 < r.1 then .error 3 else .ok { s with k:=10,sym:=r.1,p:=s.p + r.2.2 })
 else
  (s.p + dstB s.sym,let far:=dstM s.sym + N / 2 ^ s.p % 2 ^ dstB s.sym
    if s.out.length < far then .error 3
    else if most < s.out.length + s.len then .error 5 else .ok { s with k:=7,p:=s.p + dstB s.sym,out:=again s.out far s.len })
inductive Ends (L0 D0 : List UInt8) (N a most : Nat) : GSt -> Nat -> GSt -> Prop
 | done (s : GSt) (h : s.k = 11) : Ends L0 D0 N a most s 0 s
 | short (s : GSt) (h : s.k ≠ 11) (hp : 8 * a < (s.nx L0 D0 N most).1) : Ends L0 D0 N a most s 2 s
 | bad (s : GSt) (e : Nat) (h : s.k ≠ 11) (hp : (s.nx L0 D0 N most).1 <= 8 * a) (he : (s.nx L0 D0 N most).2 = .error e) : Ends L0 D0 N a most s e s
 | go (s t u : GSt) (e : Nat) (h : s.k ≠ 11) (hp : (s.nx L0 D0 N most).1 <= 8 * a) (ht : (s.nx L0 D0 N most).2 = .ok t) (r : Ends L0 D0 N a most t e u) : Ends L0 D0 N a most s e u
variable {L0 D0 : List UInt8} {N a most : Nat}
theorem Ends.det {s u u' : GSt} {e e' : Nat} (h : Ends L0 D0 N a most s e u) (h' : Ends L0 D0 N a most s e' u') : e = e' /\ u = u':=by
 induction h with
 | done s h=>cases h' with
   | done=>exact ⟨rfl,rfl⟩
   | short _ h2=>exact absurd h h2
   | bad _ _ h2=>exact absurd h h2
   | go _ _ _ _ h2=>exact absurd h h2
 | short s h hp=>cases h' with
   | done _ h2=>exact absurd h2 h
   | short=>exact ⟨rfl,rfl⟩
   | bad _ _ _ h2=>omega
   | go _ _ _ _ _ h2=>omega
 | bad s e h hp he=>cases h' with
   | done _ h2=>exact absurd h2 h
   | short _ _ h2=>omega
   | bad _ _ _ _ h2=>rw [he] at h2; cases h2; exact ⟨rfl,rfl⟩
   | go _ _ _ _ _ _ h2=>rw [he] at h2; cases h2
 | go s t u e h hp ht r ih=>cases h' with
   | done _ h2=>exact absurd h2 h
   | short _ _ h2=>omega
   | bad _ _ _ _ h2=>rw [ht] at h2; cases h2
   | go _ _ _ _ _ _ h2 h3=>rw [ht] at h2; cases h2; exact ih h3
theorem Ends.more {s u v : GSt} {e a' : Nat} (h : Ends L0 D0 N a most s 2 u) (ha : a <= a') (h' : Ends L0 D0 N a' most u e v) : Ends L0 D0 N a' most s e v:=by
 generalize he : (2 : Nat) = e0 at h
 induction h with
 | done=>cases he
 | short=>exact h'
 | bad s e h hp h2=>exact h'
 | go s t u e h hp ht r ih=>exact .go s t v _ h (by omega) ht (ih h' he)
def GSt.rk (k : Nat) : Nat:=if k = 6 \/ k = 8 \/ 10 <= k then 1 else 0
theorem again_front (far n : Nat) : ∀ out : List UInt8,∃ x,again out far n = out ++ x:=by
 induction n with
 | zero=>exact fun out=>⟨[],by simp [again]⟩
 | succ n ih =>
   intro out
   obtain ⟨x,hx⟩:=ih (out ++ [out.getD (out.length - far) 0])
   exact ⟨[out.getD (out.length - far) 0] ++ x,by show again _ far n = _; rw [hx,List.append_assoc]⟩
theorem GSt.nx_on {s t : GSt} (_h : s.k ≠ 11) (hp : (s.nx L0 D0 N most).1 <= 8 * a) (ht : (s.nx L0 D0 N most).2 = .ok t) :
 t.p <= 8 * a /\ (s.p < t.p \/ (s.p = t.p /\ rk t.k < rk s.k)) /\ ∃ x,t.out = s.out ++ x:=by
 have nil : ∃ x,s.out = s.out ++ x:=⟨[],by simp⟩
 unfold GSt.nx at hp ht
 by_cases h0 : s.k = 0
 ·rw [if_pos h0] at hp ht
  simp only at hp ht
  split at ht
  ·cases ht; exact ⟨by show (s.p + 10) / 8 * 8 <= _; omega,.inl (by show s.p < (s.p + 10) / 8 * 8; omega),nil⟩
  ·split at ht
   ·cases ht; exact ⟨by show s.p + 3 <= _; omega,.inl (by show s.p < s.p + 3; omega),nil⟩
   ·split at ht
    ·cases ht; exact ⟨by show s.p + 3 <= _; omega,.inl (by show s.p < s.p + 3; omega),nil⟩
    ·cases ht
 rw [if_neg h0] at hp ht
 by_cases h1 : s.k = 1
 ·rw [if_pos h1] at hp ht
  simp only at hp ht
  split at ht
  ·cases ht; exact ⟨by show s.p + 32 <= _; omega,.inl (by show s.p < s.p + 32; omega),nil⟩
  ·cases ht
 rw [if_neg h1] at hp ht
 by_cases h2 : s.k = 2
 ·rw [if_pos h2] at hp ht
  simp only at hp ht
  split at ht
  ·cases ht; exact ⟨by show s.p + 8 <= _; omega,.inl (by show s.p < s.p + 8; omega),_,rfl⟩
  ·cases ht
 rw [if_neg h2] at hp ht
 by_cases h3 : s.k = 3
 ·rw [if_pos h3] at hp ht
  simp only at hp ht
  split at ht
  ·cases ht; exact ⟨by show s.p + 14 <= _; omega,.inl (by show s.p < s.p + 14; omega),nil⟩
  ·cases ht
 rw [if_neg h3] at hp ht
 by_cases h4 : s.k = 4
 ·rw [if_pos h4] at hp ht
  simp only at hp ht
  split at ht
  ·cases ht; exact ⟨by show s.p + 3 <= _; omega,.inl (by show s.p < s.p + 3; omega),nil⟩
  ·split at ht
   ·cases ht; exact ⟨by show s.p + 3 <= _; omega,.inl (by show s.p < s.p + 3; omega),nil⟩
   ·cases ht
 rw [if_neg h4] at hp ht
 have hneed : ∀ l,(huffN l N s.p).2.1 = 0 -> needN l N s.p = (huffN l N s.p).2.2:=fun l h=>by unfold needN; rw [if_pos h]
 by_cases h5 : s.k = 5
 ·rw [if_pos h5] at hp ht
  simp only at hp ht
  split at ht
  ·cases ht
  ·rename_i hh
   have he : (huffN s.own N s.p).2.1 = 0:=by
    rcases Nat.eq_zero_or_pos (huffN s.own N s.p).2.1 with h | h
    ·exact h
    ·exact absurd (.inl (by omega)) hh
   have h6:=huffN_pos s.own N s.p he
   rw [hneed _ he] at hp
   cases ht; exact ⟨hp,.inl (by show s.p < s.p + (huffN s.own N s.p).2.2; omega),nil⟩
 rw [if_neg h5] at hp ht
 by_cases h6 : s.k = 6
 ·rw [if_pos h6] at hp ht
  simp only at hp ht
  have hr : rk s.k = 1:=by rw [h6]; rfl
  split at ht
  ·cases ht
  ·split at ht
   ·cases ht
    refine ⟨hp,?_,nil⟩
    show s.p < s.p + repB s.sym \/ (s.p = s.p + repB s.sym /\ rk 5 < rk s.k)
    rw [hr]
    rcases Nat.eq_zero_or_pos (repB s.sym) with h | h
    ·exact .inr ⟨by omega,by decide⟩
    ·exact .inl (by omega)
   ·split at ht
    ·cases ht
     refine ⟨hp,?_,nil⟩
     show s.p < s.p + repB s.sym \/ (s.p = s.p + repB s.sym /\ rk 7 < rk s.k)
     rw [hr]
     rcases Nat.eq_zero_or_pos (repB s.sym) with h | h
     ·exact .inr ⟨by omega,by decide⟩
     ·exact .inl (by omega)
    ·cases ht
 rw [if_neg h6] at hp ht
 by_cases h7 : s.k = 7
 ·rw [if_pos h7] at hp ht
  simp only at hp ht
  split at ht
  ·cases ht
  ·rename_i hh
   have he : (huffN s.T N s.p).2.1 = 0:=by
    rcases Nat.eq_zero_or_pos (huffN s.T N s.p).2.1 with h | h
    ·exact h
    ·exact absurd (.inl (by omega)) hh
   have h8:=huffN_pos s.T N s.p he
   rw [hneed _ he] at hp
   have hlt : s.p < s.p + (huffN s.T N s.p).2.2:=by omega
   split at ht
   ·split at ht
    ·cases ht; exact ⟨hp,.inl hlt,_,rfl⟩
    ·cases ht
   ·split at ht
    ·cases ht; exact ⟨hp,.inl hlt,nil⟩
    ·cases ht; exact ⟨hp,.inl hlt,nil⟩
 rw [if_neg h7] at hp ht
 by_cases h8 : s.k = 8
 ·rw [if_pos h8] at hp ht
  simp only at hp ht
  cases ht
  refine ⟨hp,?_,nil⟩
  show s.p < s.p + lenB s.sym \/ (s.p = s.p + lenB s.sym /\ rk 9 < rk s.k)
  rw [show rk s.k = 1 by rw [h8]; rfl]
  rcases Nat.eq_zero_or_pos (lenB s.sym) with h | h
  ·exact .inr ⟨by omega,by decide⟩
  ·exact .inl (by omega)
 rw [if_neg h8] at hp ht
 by_cases h9 : s.k = 9
 ·rw [if_pos h9] at hp ht
  simp only at hp ht
  split at ht
  ·cases ht
  ·rename_i hh
   have he : (huffN s.D N s.p).2.1 = 0:=by
    rcases Nat.eq_zero_or_pos (huffN s.D N s.p).2.1 with h | h
    ·exact h
    ·exact absurd (.inl (by omega)) hh
   have h10:=huffN_pos s.D N s.p he
   rw [hneed _ he] at hp
   cases ht; exact ⟨hp,.inl (by show s.p < s.p + (huffN s.D N s.p).2.2; omega),nil⟩
 rw [if_neg h9] at hp ht
 simp only at hp ht
 split at ht
 ·cases ht
 ·split at ht
  ·cases ht
  ·cases ht
   refine ⟨hp,?_,again_front _ _ _⟩
   show s.p < s.p + dstB s.sym \/ (s.p = s.p + dstB s.sym /\ rk 7 < rk s.k)
   rw [show rk s.k = 1 by unfold rk; rw [if_pos (by omega)]]
   rcases Nat.eq_zero_or_pos (dstB s.sym) with h | h
   ·exact .inr ⟨by omega,by decide⟩
   ·exact .inl (by omega)
theorem Ends.on {s u : GSt} {e : Nat} (h : Ends L0 D0 N a most s e u) (hs : s.p <= 8 * a) : s.p <= u.p /\ u.p <= 8 * a /\ ∃ x,u.out = s.out ++ x:=by
 induction h with
 | done s h=>exact ⟨Nat.le_refl _,hs,[],by simp⟩
 | short s h hp=>exact ⟨Nat.le_refl _,hs,[],by simp⟩
 | bad s e h hp he=>exact ⟨Nat.le_refl _,hs,[],by simp⟩
 | go s t u e h hp ht r ih =>
   have hon:=GSt.nx_on h hp ht
   obtain ⟨h1,h2,x,hx⟩:=ih hon.1
   obtain ⟨y,hy⟩:=hon.2.2
   exact ⟨by omega,h2,y ++ x,by rw [hx,hy,List.append_assoc]⟩
end Go.Proofs.YtjfjmkkkbcgohaaGreatDoor
