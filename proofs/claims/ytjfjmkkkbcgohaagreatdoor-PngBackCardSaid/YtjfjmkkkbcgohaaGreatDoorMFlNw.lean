import Derived.Test.YtjfjmkkkbcgohaaGreatDoorMZlD
import Derived.Deep.WholeRow
namespace Go.Proofs.YtjfjmkkkbcgohaaGreatDoor
open Go Go.RowKit
def DF.new (most gw gt : Nat) : DF:=⟨most,0,0,0,0,.slice (some ⟨gw,0,none⟩) 32768 32768,0,.slice (some ⟨gt,0,none⟩) 0 4,0,false,0,fun i=>if i = 34 then .pointer none else if 14 <= i /\ i < 33 \/ 36 <= i /\ i < 352 then .int .u8 0 else .int .i64 0,.pointer none,.pointer none,0,0,false,[]⟩
set_option maxRecDepth 100000 in
theorem zero_decoder (most gw gt : Nat) : ((((Tryz.zeroCells165.setIfInBounds 0 (.int .i64 (most : Int))).setIfInBounds 5 (.slice (some ⟨gw,0,none⟩) 32768 32768)).setIfInBounds 6 (.int .i64 0)).setIfInBounds 7 (.slice (some ⟨gt,0,none⟩) 0 4)) = (DF.new most gw gt).cells:=by kernel_rfl
theorem mk_ring : ∃ zr : Array Value,zr.size = 32768 /\ ∀ W : World,(Instr.makeSlice 22 (.int .i64 32768) (.int .i64 32768)).run Tryz.prog W = .ok (.slice (some ⟨W.heap.size,0,none⟩) 32768 32768) (W.alloc (.cells zr 5)) :=
 ⟨madeCells #[.int .u8 0] 32768,by rw [zeros_eq,List.size_toArray,bvals_length,List.length_replicate],fun W=>run_make_row' (P:=Tryz.prog) 22 5 (.int .u8 0) 1 Tryz.underlying22 u8_info rfl .i64 .i64 32768 (by decide) (by decide) W⟩
theorem mk_waits : ∃ zw : Array Value,zw.size = 4 /\ ∀ W : World,(Instr.makeSlice 22 (.int .i64 0) (.int .i64 4)).run Tryz.prog W = .ok (.slice (some ⟨W.heap.size,0,none⟩) 0 4) (W.alloc (.cells zw 5)):=by
 obtain ⟨i0,hi0,hz0,hz1,hz2⟩:=info_of u8_info
 refine ⟨madeCells (Value.int .u8 0).cells ((4 : Int).toNat * i0.size),?_,fun W=>run_make W 22 5 i0 (.int .u8 0) Tryz.underlying22 hi0 hz0 .i64 .i64 0 4 (by decide) (by decide) (by rw [hz2]; decide) (by decide)⟩
 rw [hz1]
 have:=zeros_eq 4
 show (madeCells #[.int .u8 0] 4).size = 4
 rw [this]; simp [bvals]
set_option maxRecDepth 100000 in
set_option maxHeartbeats 1000000 in
theorem newRing_any (w : World) : Calls Tryz.prog 144 #[] w fun e w'=>∃ gw,e = .returned (.agg #[.slice (some ⟨gw,0,none⟩) 32768 32768,.int .i64 0]) /\ w.heap.size <= gw /\ Rg w' gw [] /\ Only [] w w':=by
 obtain ⟨zr,hzr,hmk⟩:=mk_ring
 go_enter Tryz.func144,Tryz.ntmps144
 go_wp2_with fail
 have hr : Has ((w.alloc (.cells #[.slice (some ⟨w.heap.size + 1,0,none⟩) 32768 32768,.int .i64 0] 159)).alloc (.cells zr 5)) w.heap.size 159 #[.slice (some ⟨w.heap.size + 1,0,none⟩) 32768 32768,.int .i64 0]:=(Has.new w _ _).alloc _
 have hz : Has ((w.alloc (.cells #[.slice (some ⟨w.heap.size + 1,0,none⟩) 32768 32768,.int .i64 0] 159)).alloc (.cells zr 5)) (w.heap.size + 1) 5 zr:=by
  have:=Has.new (w.alloc (.cells #[.slice (some ⟨w.heap.size + 1,0,none⟩) 32768 32768,.int .i64 0] 159)) 5 zr
  simpa using this
 exact bodyPost_ret (results_cell_row Tryz.results144 _ _ w.heap.size 159 #[.slice (some ⟨w.heap.size + 1,0,none⟩) 32768 32768,.int .i64 0] (0,0) _ rfl hr Tryz.underlying159 rfl (by kernel_rfl)) rfl
  ⟨w.heap.size + 1,rfl,by omega,⟨zr,hz,hzr,fun i hi _=>absurd hi (by simp)⟩,((Only.refl [] w).alloc _).alloc _⟩
set_option maxRecDepth 100000 in
set_option maxHeartbeats 4000000 in
theorem newDec_any (most : Nat) (w : World) (hm : most <= 1073741824) : Calls Tryz.prog 125 #[.int .i64 (most : Int)] w fun e w' =>
 ∃ g gw gt,e = .returned (.tuple #[.pointer (some ⟨g,0,none⟩),.int .i64 0]) /\ w.heap.size <= g /\ w.heap.size <= gw /\ w.heap.size <= gt /\ gt ≠ gw /\ Dc w' g (DF.new most gw gt) /\ Rg w' gw [] /\ w'.ownsRow 0 5 1 (.slice (some ⟨gt,0,none⟩) 0 4) 0 [] /\ Only [] w w':=by
 obtain ⟨zw,hzw,hmk⟩:=mk_waits
 have hbd:=zero_decoder most
 have HNR:=hide newRing_any
 have hm1 : ¬ (1073741824 : Int) < (most : Int):=by omega
 have hm0 : ¬ (most : Int) < 0:=by omega
 go_enter Tryz.func125,Tryz.ntmps125
 go_wp2_with fail
 go_region_with (go_at_call 144; refine (HNR.out _).mono ?_; rintro e w1 ⟨gw,rfl,hgw,hrg,ho1⟩)
 all_goals
  go_wp2_with fail
  go_ret2
 ·obtain ⟨ws,hws,hwz⟩:=hrg
  have hlt:=hws.lt
  have hsz:=ho1.size
  have o1 : Only [] w w1:=((Only.refl [] w).drew).trans ho1 (by simp)
  have hg : Has ((w1.alloc (.cells zw 5)).alloc (.cells (DF.new most gw w1.heap.size).cells 165)) (w1.heap.size + 1) 165 (DF.new most gw w1.heap.size).cells:=by
   have:=Has.new (w1.alloc (.cells zw 5)) 165 (DF.new most gw w1.heap.size).cells
   simpa using this
  refine ⟨w1.heap.size + 1,gw,w1.heap.size,rfl,?_,hgw,?_,by omega,hg,⟨ws,(hws.alloc _).alloc _,hwz⟩,(World.ownsRow_made w1 zw 4 (Nat.zero_le _) (by decide) (by rw [hzw])).alloc _,(o1.alloc _).alloc _⟩
  ·have : w.drew.heap.size = w.heap.size:=rfl
   omega
  ·have : w.drew.heap.size = w.heap.size:=rfl
   omega
 ·obtain ⟨ws,hws,hwz⟩:=hrg
  have hlt:=hws.lt
  have hsz:=ho1.size
  have hs0 : (w.drew.alloc (.cells zw 5)).heap.size = w.heap.size + 1:=by simp
  have o1 : Only [] w w1:=(((Only.refl [] w).drew).alloc _).trans ho1 (by simp)
  have hg : Has (w1.alloc (.cells (DF.new most gw w.heap.size).cells 165)) w1.heap.size 165 (DF.new most gw w.heap.size).cells:=Has.new w1 _ _
  have how : (w.drew.alloc (.cells zw 5)).ownsRow 0 5 1 (.slice (some ⟨w.heap.size,0,none⟩) 0 4) 0 []:=World.ownsRow_made w.drew zw 4 (Nat.zero_le _) (by decide) (by rw [hzw])
  refine ⟨w1.heap.size,gw,w.heap.size,rfl,?_,?_,Nat.le_refl _,?_,hg,⟨ws,hws.alloc _,hwz⟩,(own_keep how ho1 (by simp)).alloc _,o1.alloc _⟩
  ·exact o1.size
  ·have h1 : (w.drew.alloc (.cells zw 5)).heap.size <= gw:=hgw
   omega
  ·have h1 : (w.drew.alloc (.cells zw 5)).heap.size <= gw:=hgw
   omega
def DF.newZ (most gw gt : Nat) : DF:={ DF.new most gw gt with z:=true,tail:=[.nilIface,.int .i64 0,.int .u8 0,.int .u8 0,.int .u8 0,.int .u8 0,.int .i64 0] }
set_option maxRecDepth 100000 in
theorem built_body (most gw gt : Nat) : Tryz.prog.built 169 [(0,.agg (DF.new most gw gt).cells)] = some ((DF.new most gw gt).cells.push .nilIface):=by kernel_rfl
set_option maxRecDepth 100000 in
theorem built_zlib (most gw gt : Nat) : Tryz.prog.built 172 [(0,.agg ((DF.new most gw gt).cells.push .nilIface))] = some (DF.newZ most gw gt).cells:=by kernel_rfl
set_option maxRecDepth 100000 in
set_option maxHeartbeats 4000000 in
theorem newZ_any (most : Nat) (w : World) (hm : most <= 1073741824) : Calls Tryz.prog 89 #[.int .i64 (most : Int)] w fun e w' =>
 ∃ g gw gt,e = .returned (.tuple #[.pointer (some ⟨g,0,none⟩),.int .i64 0]) /\ w.heap.size <= g /\ w.heap.size <= gw /\ w.heap.size <= gt /\ gt ≠ gw /\ Dc w' g (DF.newZ most gw gt) /\ Rg w' gw [] /\ w'.ownsRow 0 5 1 (.slice (some ⟨gt,0,none⟩) 0 4) 0 [] /\ Only [] w w':=by
 have HN:=hide (newDec_any most w hm)
 clear hm
 go_enter Tryz.func89,Tryz.ntmps89
 go_wp2_with fail
 refine (HN.out).mono ?_
 rintro e w1 ⟨g,gw,gt,rfl,hg,hgw,hgt,hne,hd,hr,ho,ho1⟩
 have hdH : w1.heap[g]? = some (.cells (DF.new most gw gt).cells 165 (0,0)):=hd
 have hb1:=built_body most gw gt
 have hb2:=built_zlib most gw gt
 have HO:=hide (aI hg (aI hgw (aI hgt (aI hne (aI hr (aI ho ho1))))))
 have hsz : (Tryz.prog.info? 165).map (·.size) = some (DF.new most gw gt).cells.size:=by rw [DF.cells_size]; kernel_rfl
 clear hg hgw hgt hne hr ho ho1 HN hd
 go_wp2_with (first
  | (refine wpList_load_row rfl 165 (.tmp 15) rfl g rfl 165 (DF.new most gw gt).cells (0,0) _ hdH Tryz.underlying165 rfl hsz ?_)
  | (refine list_build rfl 169 0 (.tmp 16) rfl (.agg (DF.new most gw gt).cells) rfl _ hb1 ?_)
  | (refine list_build rfl 172 0 (.tmp 17) rfl (.agg ((DF.new most gw gt).cells.push .nilIface)) rfl _ hb2 ?_))
 go_ret2
 have hO:=HO.out
 have hnew : Has (w1.alloc (.cells (DF.newZ most gw gt).cells 172)) w1.heap.size 172 (DF.newZ most gw gt).cells:=Has.new w1 _ _
 obtain ⟨ws,hws,hwz⟩:=hO.2.2.2.2.1
 exact ⟨w1.heap.size,gw,gt,rfl,hO.2.2.2.2.2.2.size,hO.2.1,hO.2.2.1,hO.2.2.2.1,hnew,⟨ws,hws.alloc _,hwz⟩,hO.2.2.2.2.2.1.alloc _,hO.2.2.2.2.2.2.alloc _⟩
def Newed (most : Nat) (w : World) (g gw gt : Nat) (w1 : World) : Prop :=
 w.heap.size <= g /\ w.heap.size <= gw /\ w.heap.size <= gt /\ gt ≠ gw /\ Dc w1 g (DF.newZ most gw gt) /\ Rg w1 gw [] /\ w1.ownsRow 0 5 1 (.slice (some ⟨gt,0,none⟩) 0 4) 0 [] /\ Only [] w w1
set_option maxRecDepth 100000 in
set_option maxHeartbeats 8000000 in
theorem unpack_gen (most : Nat) (A : Option Addr) (n cb : Nat) (w : World) (hm : most <= 1073741824) (R : Nat -> World -> Ending -> World -> Prop)
 (hW : ∀ g gw gt w1,Newed most w g gw gt w1 -> Calls Tryz.prog 90 #[.pointer (some ⟨g,0,none⟩),.slice A n cb] w1 (R g w1))
 (sh : ∀ g w1 e w2,R g w1 e w2 -> ∃ (v : Value) (c : Nat) (f : DF) (sm : Value) (part : Nat) (wb : List UInt8) (k : Nat),e = .returned (.tuple #[v,.int .i64 (c : Int)]) /\ Dc w2 g f /\ f.tail = tailZ sm part wb k /\ f.used <= 1000000000) :
 Calls Tryz.prog 52 #[.slice A n cb,.int .i64 (most : Int)] w fun e w' =>
  ∃ g gw gt w1,Newed most w g gw gt w1 /\ ∃ (v : Value) (c : Nat) (f : DF) (sm : Value) (part : Nat) (wb : List UInt8) (k : Nat),R g w1 (.returned (.tuple #[v,.int .i64 (c : Int)])) w' /\ Dc w' g f /\ f.tail = tailZ sm part wb k /\
    ((c ≠ 0 /\ e = .returned (.tuple #[.slice none 0 0,.int .i64 0,.int .i64 (c : Int)])) \/
      (c = 0 /\ part ≠ 3 /\ e = .returned (.tuple #[.slice none 0 0,.int .i64 0,.int .i64 2])) \/
      (c = 0 /\ part = 3 /\ e = .returned (.tuple #[v,.int .i64 ((2 + f.used + 4 : Nat) : Int),.int .i64 0]))):=by
 have HA:=hide (aI hW sh)
 have HN:=hide (newZ_any most w hm)
 clear hW sh hm
 go_enter Tryz.func52,Tryz.ntmps52
 go_wp2_with fail
 refine (HN.out).mono ?_
 rintro e w1 ⟨g,gw,gt,rfl,hnew⟩
 have HNW:=hide (show Newed most w g gw gt w1 from hnew)
 have HC:=hide (HA.out.1 g gw gt w1 hnew)
 clear hnew
 go_wp2_with fail
 refine (HC.out).mono ?_
 intro e w2 hr
 obtain ⟨v,c,f,sm,part,wb,k,rfl,hd,ht,hu⟩:=HA.out.2 _ _ _ _ hr
 have H2:=hide (aI hr (aI hd (aI ht hu)))
 clear hr
 by_cases hc : c = 0
 ·subst hc
  by_cases hp : part = 3
  ·have HD:=hide (zdone_any g f sm part k wb w2 hd ht true (decide_eq_true hp))
   have HU:=hide (used_any g f w2 hd)
   clear hd ht
   go_wp2_with fail
   refine (HD.out).mono ?_
   rintro e w3 ⟨rfl,rfl⟩
   go_wp2_with fail
   refine (HU.out).mono ?_
   rintro e w4 ⟨rfl,rfl⟩
   go_wp2_with fail
   go_ret3
   exact ⟨g,gw,gt,w1,HNW.out,v,0,f,sm,part,wb,k,H2.out.1,H2.out.2.1,H2.out.2.2.1,.inr (.inr ⟨rfl,hp,by
    have e1 : ((2 + f.used + 4 : Nat) : Int) = 2 + (f.used : Int) + 4:=by omega
    rw [e1]
    rfl⟩)⟩
  ·have HD:=hide (zdone_any g f sm part k wb w2 hd ht false (decide_eq_false hp))
   clear hd ht hu
   go_wp2_with fail
   refine (HD.out).mono ?_
   rintro e w3 ⟨rfl,rfl⟩
   go_wp2_with fail
   go_ret3
   exact ⟨g,gw,gt,w1,HNW.out,v,0,f,sm,part,wb,k,H2.out.1,H2.out.2.1,H2.out.2.2.1,.inr (.inl ⟨rfl,hp,rfl⟩)⟩
 ·have hcz : ¬ (c : Int) = 0:=by omega
  clear hd ht hu
  go_wp2_with fail
  go_ret3
  exact ⟨g,gw,gt,w1,HNW.out,v,c,f,sm,part,wb,k,H2.out.1,H2.out.2.1,H2.out.2.2.1,.inl ⟨hc,rfl⟩⟩
def storeB (last : Bool) (b : List UInt8) : List UInt8:=hdr last b.length ++ b
theorem storeB_length (last : Bool) (b : List UInt8) : (storeB last b).length = 5 + b.length:=by unfold storeB; rw [List.length_append]; rfl
theorem storeB_num (last : Bool) (b : List UInt8) (h : b.length < 65536) : num (storeB last b) = last.toNat + b.length % 65536 * 2 ^ 8 + (4294967295 - b.length) % 65536 * 2 ^ 24 + num b * 2 ^ 40:=by
 unfold storeB
 rw [num_append,num_hdr _ _ h,show (hdr last b.length).length = 5 from rfl]
 omega
set_option maxRecDepth 100000 in
set_option maxHeartbeats 4000000 in
theorem layStored_any (g : Nat) (v : Value) (A : Option Addr) (n c : Nat) (b : List UInt8) (w : World) (hW : Wr w g v 0 0) (hb : Holds w 1 A n (bvals b)) (hl : b.length = n) (hn : n < 65536)
 (hA : 0 < n -> ∀ ad,A = some ad -> ad.block ∉ g :: v.ownBlock.toList) :
 Calls Tryz.prog 79 #[.pointer (some ⟨g,0,none⟩),.slice A n c,.int .u32 1] w fun e w'=>e = .returned (.tuple #[]) /\ ∃ v',Wr w' g v' (num (storeB true b)) (8 * (5 + n)) /\ WSince w g v w' v':=by
 subst hl
 have b0 : bits .or .u32 1 0 = 1:=by decide
 have hn1 : (b.length : Int) < 65536:=by omega
 have e2:=flip32 b.length (by omega)
 have e5 : (if IntKind.u32.signed = true then -1 else IntKind.u32.max) = IntKind.u32.max:=by decide
 have H1:=hide (wBits g v 0 0 1 3 w hW (by decide) (by decide))
 have HB:=hide (aI hb (aI hA hn))
 have HNUM:=hide (storeB_num true b hn)
 clear hW hb hA hn
 obtain ⟨y,hy⟩ : ∃ y,y = 4294967295 - b.length:=⟨_,rfl⟩
 rw [<- hy] at e2
 have HY:=hide hy
 clear hy
 go_enter Tryz.func79,Tryz.ntmps79
 go_wp2_with fail
 refine (H1.out).mono ?_
 rintro e w1 ⟨rfl,v1,hw1,hs1⟩
 rw [show laidN 0 0 1 3 = 1 from rfl,show laidL 0 3 = 3 from rfl] at hw1
 have H2:=hide (aI hs1 (wAlign g v1 1 3 w1 hw1 (by decide)))
 clear hw1 hs1
 go_wp2_with fail
 refine (H2.out.2).mono ?_
 rintro e w2 ⟨rfl,v2,hw2,hs2⟩
 rw [show 3 + padOf 3 = 8 from rfl] at hw2
 have H3:=hide (aI (H2.out.1.trans hs2) (wBits g v2 1 8 b.length 16 w2 hw2 (by have:=HB.out.2.2; omega) (by decide)))
 clear hw2 hs2
 go_wp2_with fail
 refine (H3.out.2).mono ?_
 rintro e w3 ⟨rfl,v3,hw3,hs3⟩
 rw [show laidL 8 16 = 24 from rfl] at hw3
 have H4:=hide (aI (H3.out.1.trans hs3) (wBits g v3 _ 24 y 16 w3 hw3 (by have:=HY.out; omega) (by decide)))
 clear hw3 hs3
 go_wp2_with fail
 refine (H4.out.2).mono ?_
 rintro e w4 ⟨rfl,v4,hw4,hs4⟩
 rw [show laidL 24 16 = 40 from rfl] at hw4
 have hs04:=H4.out.1.trans hs4
 have H5:=hide (aI hs04 (wBytes g v4 _ 40 A b.length c b w4 hw4 (HB.out.1.keepPos hs04.1 (fun h0 ad ha _=>HB.out.2.1 h0 ad ha)) rfl (by have:=HB.out.2.2; omega) (fun h0 ad ha hlt hm=>by
  have h1:=HB.out.1.blk h0 ad ha
  have h2:=HB.out.2.1 h0 ad ha
  rcases List.mem_cons.1 hm with hm | hm
  ·exact h2 (by rw [hm]; exact List.mem_cons_self ..)
  ·have hb4 : v4.ownBlock = some ad.block:=by cases hv : v4.ownBlock with
    | none=>rw [hv] at hm; simp at hm
    | some j=>rw [hv] at hm; simp at hm; rw [hm]
   rcases hs04.2 _ hb4 with h | h
   ·exact h2 (List.mem_cons_of_mem _ (by rw [h]; simp))
   ·omega)))
 clear hw4 hs4 hs04
 go_wp2_with fail
 refine (H5.out.2).mono ?_
 rintro e w5 ⟨rfl,v5,hw5,hs5⟩
 have H6:=hide (aI hw5 (H5.out.1.trans hs5))
 clear hw5 hs5
 go_wp2_with fail
 go_end0
 refine ⟨rfl,v5,?_,H6.out.2⟩
 have h:=H6.out.1
 rw [HNUM.out]
 have hN : laidN (laidN 1 8 b.length 16) 24 y 16 + num b * 2 ^ (40 + padOf 40) = true.toNat + b.length % 65536 * 2 ^ 8 + (4294967295 - b.length) % 65536 * 2 ^ 24 + num b * 2 ^ 40:=by
  rw [HY.out]; rfl
 have hL : 40 + padOf 40 + 8 * b.length = 8 * (5 + b.length):=by
  rw [show padOf 40 = 0 from rfl]; omega
 rw [hN,hL] at h
 exact h
set_option maxRecDepth 100000 in
set_option maxHeartbeats 4000000 in
theorem store_any (A : Option Addr) (n c : Nat) (b : List UInt8) (w : World) (hb : Holds w 1 A n (bvals b)) (hl : b.length = n) (hn : n < 65536) :
 Calls Tryz.prog 44 #[.slice A n c] w fun e w'=>∃ v,e = .returned v /\ w'.ownsRow w.heap.size 5 1 v (storeB true b).length (bvals (storeB true b)) /\ Only [] w w':=by
 subst hl
 have hn1 : ¬ (65535 : Int) < (b.length : Int):=by omega
 have HB:=hide (aI hb hn)
 clear hb hn
 go_enter Tryz.func44,Tryz.ntmps44
 go_wp2_with fail
 refine (newWriter_any w).mono ?_
 rintro e w1 ⟨g,rfl,hg,hw1,ho1⟩
 have H1:=hide (aI hg (aI ho1 (layStored_any g _ A b.length c b w1 hw1 (HB.out.1.keep ho1 (by simp)) rfl HB.out.2 (fun h0 ad ha hm=>by
  have h1:=HB.out.1.blk h0 ad ha
  simp [Value.ownBlock] at hm
  omega))))
 clear hg ho1 hw1
 go_wp2_with fail
 go_loopw [0] (fun s wr=>s = .slice A b.length c /\ wr = w1) (fun _ _=>0)
 case atStart=>exact ⟨rfl,rfl⟩
 case round =>
  obtain ⟨rfl,rfl⟩:=hrel
  go_wp2_with fail
  refine (H1.out.2.2).mono ?_
  rintro e w2 ⟨rfl,v2,hw2,hs2⟩
  have H2:=hide (aI hs2 (wDone g v2 _ _ w2 hw2 (by have:=HB.out.2; omega)))
  clear hs2 hw2
  go_wp2_with fail
  refine (H2.out.2).mono ?_
  rintro e w3 ⟨rv,bs,rfl,hown,ho3,hlen,hnum⟩
  have hbs : bs = storeB true b:=num_inj (by rw [hlen,storeB_length]; omega) hnum
  subst hbs
  have o02 : Only [] w w2:=H1.out.2.1.trans H2.out.1.1 (fun i hi hlt=>by
   rcases List.mem_cons.1 hi with rfl | hi
   ·have:=H1.out.1; omega
   ·simp [Value.ownBlock] at hi)
  have H3:=hide (aI (own_mono hown o02.size) (o02.trans ho3 (by simp)))
  clear hown ho3 o02 hlen hnum
  go_wp2_with fail
  go_ret
  exact ⟨rv,rfl,H3.out.1,H3.out.2⟩
theorem run_arr4_all (g : Nat) (w : World) : (Instr.sliceAt 70 (.pointer (some ⟨g,0,none⟩)) none none none).run Tryz.prog w = .ok (.slice (some ⟨g,0,none⟩) 4 4) w:=by
 rw [run_sliceAt_array_all w 70 ⟨g,0,none⟩ arr4_elem,arr4_size]
 simp [slicedAt,Result.andThen,arr4_len,Addr.add]
def LayK (L : List UInt8 -> Prop) (w : World) (e : Ending) (w' : World) : Prop :=
 ∃ v bs,e = .returned v /\ L bs /\ w'.ownsRow w.heap.size 5 1 v bs.length (bvals bs) /\ Only [] w w'
theorem two_lit (w : World) : Holds (w.alloc (.cells #[.int .u8 120,.int .u8 1] 5)) 1 (some ⟨w.heap.size,0,none⟩) 2 (bvals [0x78,0x01]):=by
 have:=Holds.lit w #[.int .u8 120,.int .u8 1] 5
 simpa [bvals] using this
theorem pack_rows (s g q gq cv : Nat) (Av : Option Addr) (bs : List UInt8) (w : World) (hP : Holds w 1 (some ⟨g,0,none⟩) 3 [.slice (some ⟨q,0,none⟩) 2 2,.slice Av bs.length cv,.slice (some ⟨gq,0,none⟩) 4 4])
 (hA : Holds w 1 (some ⟨q,0,none⟩) 2 (bvals [0x78,0x01])) (hB : Holds w 1 Av bs.length (bvals bs)) (hC : Holds w 1 (some ⟨gq,0,none⟩) 4 (bvals (bigN s))) (hl : bs.length <= 90000) :
 Calls Tryz.prog 49 #[.slice (some ⟨g,0,none⟩) 3 3] w fun e w' =>
  ∃ v,e = .returned v /\ w'.ownsRow w.heap.size 5 1 v ([0x78,0x01] ++ bs ++ bigN s).length (bvals ([0x78,0x01] ++ bs ++ bigN s)) /\ Only [] w w':=by
 have hP : Holds w 1 (some ⟨g,0,none⟩) 3 ([(⟨some ⟨q,0,none⟩,2,[0x78,0x01]⟩ : CPart),⟨Av,cv,bs⟩,⟨some ⟨gq,0,none⟩,4,bigN s⟩].map CPart.val):=by
  simpa [CPart.val,bigN] using hP
 have hps : ∀ p ∈ [(⟨some ⟨q,0,none⟩,2,[0x78,0x01]⟩ : CPart),⟨Av,cv,bs⟩,⟨some ⟨gq,0,none⟩,4,bigN s⟩],Holds w 1 p.A p.l.length (bvals p.l):=by
  intro p hp
  simp only [List.mem_cons,List.not_mem_nil,or_false] at hp
  rcases hp with rfl | rfl | rfl
  ·exact hA
  ·exact hB
  ·exact hC
 have hall : CPart.all [(⟨some ⟨q,0,none⟩,2,[0x78,0x01]⟩ : CPart),⟨Av,cv,bs⟩,⟨some ⟨gq,0,none⟩,4,bigN s⟩] = [0x78,0x01] ++ bs ++ bigN s:=by
  simp [CPart.all]
 have hlen : ([0x78,0x01] ++ bs ++ bigN s).length = bs.length + 6:=by simp [bigN]
 have hcon:=concat_any (some ⟨g,0,none⟩) 3 _ _ hP (by simp) hps
 rw [hall] at hcon
 refine (hcon (by omega) (by omega)).mono ?_
 rintro e w6 ⟨v,rfl,ho,h1⟩
 exact ⟨v,rfl,ho,h1⟩
def sTwo : (Value -> Prop) × (Value -> World -> Prop):=(fun v=>∃ g,v = .slice (some ⟨g,0,none⟩) 2 2,fun v w=>∀ g,v = .slice (some ⟨g,0,none⟩) 2 2 -> Holds w 1 (some ⟨g,0,none⟩) 2 (bvals [0x78,0x01]))
def sLay (L : List UInt8 -> Prop) : (Value -> Prop) × (Value -> World -> Prop):=(fun v=>∃ A n c,v = .slice A n c,fun v w=>∃ bs A c,v = .slice A bs.length c /\ L bs /\ Holds w 1 A bs.length (bvals bs))
def sRows (L : List UInt8 -> Prop) (gq s : Nat) : (Value -> Prop) × (Value -> World -> Prop):=(fun v=>∃ g,v = .slice (some ⟨g,0,none⟩) 3 3,fun v w=>∀ g,v = .slice (some ⟨g,0,none⟩) 3 3 -> ∃ q Av cv bs,L bs /\
 Holds w 1 (some ⟨g,0,none⟩) 3 [.slice (some ⟨q,0,none⟩) 2 2,.slice Av (List.length bs) cv,.slice (some ⟨gq,0,none⟩) 4 4] /\ Holds w 1 (some ⟨q,0,none⟩) 2 (bvals [0x78,0x01]) /\ Holds w 1 Av bs.length (bvals bs) /\ Holds w 1 (some ⟨gq,0,none⟩) 4 (bvals (bigN s)))
def sPack (L : List UInt8 -> Prop) (B s : Nat) : (Value -> Prop) × (Value -> World -> Prop):=(fun _=>True,fun v w=>∃ bs,L bs /\ w.ownsRow B 5 1 v ([0x78,0x01] ++ bs ++ bigN s).length (bvals ([0x78,0x01] ++ bs ++ bigN s)))
theorem sTwo_later : ∀ v w w',Only [] w w' -> sTwo.2 v w -> sTwo.2 v w':=fun v w w' ho h g he=>(h g he).keep ho (by simp)
theorem sLay_later (L : List UInt8 -> Prop) : ∀ v w w',Only [] w w' -> (sLay L).2 v w -> (sLay L).2 v w':=fun v w w' ho ⟨bs,A,c,h1,h2,h3⟩=>⟨bs,A,c,h1,h2,h3.keep ho (by simp)⟩
theorem sRows_later (L : List UInt8 -> Prop) (gq s : Nat) : ∀ v w w',Only [] w w' -> (sRows L gq s).2 v w -> (sRows L gq s).2 v w':=fun v w w' ho h g he=>by
 obtain ⟨q,Av,cv,bs,h1,h2,h3,h4,h5⟩:=h g he
 exact ⟨q,Av,cv,bs,h1,h2.keep ho (by simp),h3.keep ho (by simp),h4.keep ho (by simp),h5.keep ho (by simp)⟩
theorem sPack_later (L : List UInt8 -> Prop) (B s : Nat) : ∀ v w w',Only [] w w' -> (sPack L B s).2 v w -> (sPack L B s).2 v w':=fun v w w' ho ⟨bs,h1,h2⟩=>⟨bs,h1,own_keep h2 ho (by simp)⟩
set_option maxRecDepth 100000 in
set_option maxHeartbeats 8000000 in
theorem pack_fixed (A : Option Addr) (n c : Nat) (b : List UInt8) (w : World) (hb : Holds w 1 A n (bvals b)) (hl : b.length = n) (hc : n <= c) (hn : n <= 1000000) (L : List UInt8 -> Prop) (hL : ∀ bs,L bs -> bs.length <= 90000)
 (hlay : ∀ w1,Only [] w w1 -> Calls Tryz.prog 45 #[.slice A n c] w1 (LayK L w1)) :
 Calls Tryz.prog 18 #[.slice A n c,.bool true] w fun e w'=>∃ v bs,e = .returned v /\ L bs /\ w'.ownsRow w.heap.size 5 1 v ([0x78,0x01] ++ bs ++ bigN (adWord (adOf b))).length (bvals ([0x78,0x01] ++ bs ++ bigN (adWord (adOf b)))) /\ Only [] w w':=by
 have HB:=hide (aI hb (aI hl (aI hc hn)))
 have HL:=hide (aI hL hlay)
 clear hb hl hc hn hL hlay
 go_enter Tryz.func18,Tryz.ntmps18
 go_wp2_with fail
 refine (newAdler_any w).mono ?_
 rintro e w1 ⟨ga,rfl,hga,had,ho1⟩
 have hp : Part.Ok ⟨A,c,b⟩ w1 ga:=⟨by
  have h:=HB.out.1.keep ho1 (by simp)
  rw [<- HB.out.2.1] at h
  exact h,by have:=HB.out.2.1; have:=HB.out.2.2.1; show b.length <= c; omega,by have:=HB.out.2.1; have:=HB.out.2.2.2; show b.length <= _; omega,fun h0 ad ha=>by
  obtain ⟨ad',h1,h2,_⟩:=HB.out.1.2 (by have:=HB.out.2.1; have h2 : 0 < b.length:=h0; omega)
  obtain rfl : ad = ad':=by rw [h1] at ha; exact (Option.some.inj ha).symm
  omega⟩
 have t3:=ofAdler_one ga [] A n c b w1 had hp HB.out.2.1 _ rfl
 have H1:=hide (aI ho1 (aI had hga))
 have HT:=hide t3
 clear ho1 had hga hp t3
 go_wp2_with fail
 refine (HT.out).mono ?_
 rintro e w2 ⟨rfl,ha2,ho2⟩
 have hlt : adWord (adOf b) < 4294967296:=by have:=adOf_lt b; unfold adWord; omega
 have HBg:=hide (big_any (adWord (adOf b)) hlt w2)
 have H2:=hide (aI ha2 ho2)
 clear ha2 ho2 hlt
 go_wp2_with fail
 refine (HBg.out).mono ?_
 rintro e w3 ⟨rfl,ho3⟩
 have hst : (storeCells ⟨w3.heap.size,0,none⟩ (bvals (bigN (adWord (adOf b))))).run Tryz.prog (w3.alloc (.cells #[.int .u8 0,.int .u8 0,.int .u8 0,.int .u8 0] 70)) = .ok () (w3.alloc (.cells (bvals (bigN (adWord (adOf b)))).toArray 70)) :=
  run_storeCells_new (P:=Tryz.prog) w3 70 #[.int .u8 0,.int .u8 0,.int .u8 0,.int .u8 0] (bvals (bigN (adWord (adOf b)))).toArray (by kernel_rfl) rfl (by simp [bvals,bigN,Value.oneCell'])
 have o4 : Only [] w (w3.alloc (.cells (bvals (bigN (adWord (adOf b)))).toArray 70)):=((H1.out.1.trans (S:=[]) (T:=[ga]) (H2.out.2.trans (ho3.weak (T:=[ga]) (by simp)) (by simp)) (by have:=H1.out.2.2; simp; omega))).alloc _
 have hg4 : Has (w3.alloc (.cells (bvals (bigN (adWord (adOf b)))).toArray 70)) w3.heap.size 70 (bvals (bigN (adWord (adOf b)))).toArray:=Has.new w3 _ _
 obtain ⟨w4,hw4⟩ : ∃ w4,w4 = w3.alloc (.cells (bvals (bigN (adWord (adOf b)))).toArray 70):=⟨_,rfl⟩
 rw [<- hw4] at hst o4 hg4
 obtain ⟨s,hs⟩ : ∃ s,s = adWord (adOf b):=⟨_,rfl⟩
 rw [<- hs] at hg4
 have hsum : Holds w4 1 (some ⟨w3.heap.size,0,none⟩) 4 (bvals (bigN s)):=hg4.holds (by simp [bigN])
 have H3:=hide (aI o4 (aI hsum hs))
 clear ho3 o4 hg4 hw4 hs hsum
 go_wp2_with fail
 have hslice:=fun w=>run_arr4_all w3.heap.size w
 refine region_loose 7 20 (fun i=>if i = 0 then some sTwo else if i = 3 then some (sLay L) else if i = 5 then some (sRows L w3.heap.size s) else if i = 6 then some (sPack L w4.heap.size s) else none) (by kernel_rfl) (by kernel_rfl) (by kernel_rfl) (by rfl) (by rfl) (fun i hi=>?_) (fun i S hS=>?_) ?_
 ·have hi : 8 <= i:=hi
  show (if i = 0 then _ else _) = none
  iterate 4 rw [if_neg (by omega)]
 ·repeat' split at hS
  all_goals first | (injection hS with hS; subst hS; first | exact sTwo_later | exact sLay_later _ | exact sRows_later _ _ _ | exact sPack_later _ _ _) | cases hS
 simp only [List.take_succ_cons,List.take_zero,List.drop_succ_cons,List.drop_zero]
 refine wpLoose_step sTwo rfl (by rfl) ⟨_,0,rfl⟩ (fun w' ho hk=>?_) (fun v hv=>?_)
 ·go_simp
  exact ⟨(Only.refl [] w').alloc _,⟨_,rfl⟩,fun g he=>by
   injection he with he; injection he with he; injection he with he; subst he
   exact two_lit w'⟩
 obtain ⟨q,rfl⟩:=hv
 go_simp
 refine wpLoose_chunk 2 (by kernel_rfl) (by rfl) ?_
 simp only [List.take_succ_cons,List.take_zero,List.drop_succ_cons,List.drop_zero,List.length_cons,List.length_nil,Nat.zero_add,Nat.reduceAdd]
 iterate 2 (go_big_quiet_step (fail))
 refine wpQuiet_nil ?_
 refine wpLoose_step (sLay L) rfl (by rfl) ⟨_,none,0,0,rfl⟩ (fun w' ho hk=>?_) (fun v hv=>?_)
 ·go_simp
  refine ⟨rfl,(HL.out.2 w' (H3.out.1.trans ho (S:=[]) (by simp))).mono ?_⟩
  rintro e w5 ⟨v,bs,rfl,hbs,how,hol⟩
  obtain ⟨Av,cv,rfl,hcv,_⟩:=own_shape how
  exact ⟨_,rfl,hol,⟨_,_,_,rfl⟩,⟨bs,Av,cv,rfl,hbs,Holds.of_own how⟩⟩
 obtain ⟨Av,nv,cv,rfl⟩:=hv
 go_simp
 refine wpLoose_chunk 1 (by kernel_rfl) (by rfl) ?_
 simp only [List.take_succ_cons,List.take_zero,List.drop_succ_cons,List.drop_zero,List.length_cons,List.length_nil,Nat.zero_add,Nat.reduceAdd]
 go_big_quiet_step (fail)
 refine wpQuiet_nil ?_
 refine wpLoose_step (sRows L w3.heap.size s) rfl (by rfl) ⟨_,0,rfl⟩ (fun w' ho hk=>?_) (fun v hv=>?_)
 ·have k0:=hk _ (Array.mem_of_getElem? (i:=0) (by rfl)) (by rfl)
  have k0 : sTwo.1 (.slice (some ⟨q,0,none⟩) 2 2) /\ sTwo.2 (.slice (some ⟨q,0,none⟩) 2 2) w':=k0
  have k3:=hk _ (Array.mem_of_getElem? (i:=1) (by rfl)) (by rfl)
  have k3 : (sLay L).1 (.slice Av nv cv) /\ (sLay L).2 (.slice Av nv cv) w':=k3
  obtain ⟨bs,A5,c5,he,hbs,hB⟩:=k3.2
  have hA:=k0.2 q rfl
  injection he with he1 he2 he3
  subst he1; subst he2; subst he3
  clear k0 k3 hk
  go_simp
  refine ⟨(Only.refl [] w').alloc _,⟨_,rfl⟩,fun g hg=>?_⟩
  injection hg with hg; injection hg with hg; injection hg with hg; subst hg
  refine ⟨q,Av,cv,bs,hbs,?_,hA.keep ((Only.refl [] w').alloc _) (by simp),hB.keep ((Only.refl [] w').alloc _) (by simp),(H3.out.2.1.keep ho (by simp)).keep ((Only.refl [] w').alloc _) (by simp)⟩
  have:=Holds.lit w' #[.slice (some ⟨q,0,none⟩) 2 2,.slice Av bs.length cv,.slice (some ⟨w3.heap.size,0,none⟩) 4 4] 22
  simpa using this
 obtain ⟨g,rfl⟩:=hv
 go_simp
 refine wpLoose_step (sPack L w4.heap.size s) rfl (by rfl) ⟨.bool true,trivial⟩ (fun w' ho hk=>?_) (fun v hv=>?_)
 ·have k5:=hk _ (Array.mem_of_getElem? (i:=0) (by rfl)) (by rfl)
  have k5 : (sRows L w3.heap.size s).1 (.slice (some ⟨g,0,none⟩) 3 3) /\ (sRows L w3.heap.size s).2 (.slice (some ⟨g,0,none⟩) 3 3) w':=k5
  obtain ⟨q',A5,c5,bs,hbs,hP,hA,hB,hC⟩:=k5.2 g rfl
  go_simp
  refine ⟨rfl,(pack_rows s g q' w3.heap.size c5 A5 bs w' hP hA hB hC (HL.out.1 _ hbs)).mono ?_⟩
  rintro e w6 ⟨vo,rfl,how6,ho6⟩
  exact ⟨vo,rfl,ho6,trivial,⟨bs,hbs,own_mono how6 ho.size⟩⟩
 clear hv
 go_simp
 intro w' ho hT
 have h6:=hT 6 (by omega)
 have h6 : (sPack L w4.heap.size s).1 v /\ (sPack L w4.heap.size s).2 v w':=h6
 obtain ⟨bs,hbs,how⟩:=h6.2
 have HE:=hide (aI hbs (aI how (H3.out.1.trans ho (S:=[]) (by simp))))
 clear hT h6 hbs how ho hslice
 go_wp2_with fail
 go_ret
 refine ⟨v,bs,rfl,HE.out.1,?_,HE.out.2.2⟩
 have h:=own_mono HE.out.2.1 H3.out.1.size
 rw [H3.out.2.2] at h
 exact h
set_option maxRecDepth 100000 in
set_option maxHeartbeats 8000000 in
theorem pack_store (A : Option Addr) (n c : Nat) (b : List UInt8) (w : World) (hb : Holds w 1 A n (bvals b)) (hl : b.length = n) (hc : n <= c) (hn : n <= 1000000) (L : List UInt8 -> Prop) (hL : ∀ bs,L bs -> bs.length <= 90000)
 (hlay : ∀ w1,Only [] w w1 -> Calls Tryz.prog 44 #[.slice A n c] w1 (LayK L w1)) :
 Calls Tryz.prog 18 #[.slice A n c,.bool false] w fun e w'=>∃ v bs,e = .returned v /\ L bs /\ w'.ownsRow w.heap.size 5 1 v ([0x78,0x01] ++ bs ++ bigN (adWord (adOf b))).length (bvals ([0x78,0x01] ++ bs ++ bigN (adWord (adOf b)))) /\ Only [] w w':=by
 have HB:=hide (aI hb (aI hl (aI hc hn)))
 have HL:=hide (aI hL hlay)
 clear hb hl hc hn hL hlay
 go_enter Tryz.func18,Tryz.ntmps18
 go_wp2_with fail
 refine (newAdler_any w).mono ?_
 rintro e w1 ⟨ga,rfl,hga,had,ho1⟩
 have hp : Part.Ok ⟨A,c,b⟩ w1 ga:=⟨by
  have h:=HB.out.1.keep ho1 (by simp)
  rw [<- HB.out.2.1] at h
  exact h,by have:=HB.out.2.1; have:=HB.out.2.2.1; show b.length <= c; omega,by have:=HB.out.2.1; have:=HB.out.2.2.2; show b.length <= _; omega,fun h0 ad ha=>by
  obtain ⟨ad',h1,h2,_⟩:=HB.out.1.2 (by have:=HB.out.2.1; have h2 : 0 < b.length:=h0; omega)
  obtain rfl : ad = ad':=by rw [h1] at ha; exact (Option.some.inj ha).symm
  omega⟩
 have t3:=ofAdler_one ga [] A n c b w1 had hp HB.out.2.1 _ rfl
 have H1:=hide (aI ho1 (aI had hga))
 have HT:=hide t3
 clear ho1 had hga hp t3
 go_wp2_with fail
 refine (HT.out).mono ?_
 rintro e w2 ⟨rfl,ha2,ho2⟩
 have hlt : adWord (adOf b) < 4294967296:=by have:=adOf_lt b; unfold adWord; omega
 have HBg:=hide (big_any (adWord (adOf b)) hlt w2)
 have H2:=hide (aI ha2 ho2)
 clear ha2 ho2 hlt
 go_wp2_with fail
 refine (HBg.out).mono ?_
 rintro e w3 ⟨rfl,ho3⟩
 have hst : (storeCells ⟨w3.heap.size,0,none⟩ (bvals (bigN (adWord (adOf b))))).run Tryz.prog (w3.alloc (.cells #[.int .u8 0,.int .u8 0,.int .u8 0,.int .u8 0] 70)) = .ok () (w3.alloc (.cells (bvals (bigN (adWord (adOf b)))).toArray 70)) :=
  run_storeCells_new (P:=Tryz.prog) w3 70 #[.int .u8 0,.int .u8 0,.int .u8 0,.int .u8 0] (bvals (bigN (adWord (adOf b)))).toArray (by kernel_rfl) rfl (by simp [bvals,bigN,Value.oneCell'])
 have o4 : Only [] w (w3.alloc (.cells (bvals (bigN (adWord (adOf b)))).toArray 70)):=((H1.out.1.trans (S:=[]) (T:=[ga]) (H2.out.2.trans (ho3.weak (T:=[ga]) (by simp)) (by simp)) (by have:=H1.out.2.2; simp; omega))).alloc _
 have hg4 : Has (w3.alloc (.cells (bvals (bigN (adWord (adOf b)))).toArray 70)) w3.heap.size 70 (bvals (bigN (adWord (adOf b)))).toArray:=Has.new w3 _ _
 obtain ⟨w4,hw4⟩ : ∃ w4,w4 = w3.alloc (.cells (bvals (bigN (adWord (adOf b)))).toArray 70):=⟨_,rfl⟩
 rw [<- hw4] at hst o4 hg4
 obtain ⟨s,hs⟩ : ∃ s,s = adWord (adOf b):=⟨_,rfl⟩
 rw [<- hs] at hg4
 have hsum : Holds w4 1 (some ⟨w3.heap.size,0,none⟩) 4 (bvals (bigN s)):=hg4.holds (by simp [bigN])
 have H3:=hide (aI o4 (aI hsum hs))
 clear ho3 o4 hg4 hw4 hs hsum
 go_wp2_with fail
 have hslice:=fun w=>run_arr4_all w3.heap.size w
 refine region_loose 7 20 (fun i=>if i = 0 then some sTwo else if i = 3 then some (sLay L) else if i = 5 then some (sRows L w3.heap.size s) else if i = 6 then some (sPack L w4.heap.size s) else none) (by kernel_rfl) (by kernel_rfl) (by kernel_rfl) (by rfl) (by rfl) (fun i hi=>?_) (fun i S hS=>?_) ?_
 ·have hi : 8 <= i:=hi
  show (if i = 0 then _ else _) = none
  iterate 4 rw [if_neg (by omega)]
 ·repeat' split at hS
  all_goals first | (injection hS with hS; subst hS; first | exact sTwo_later | exact sLay_later _ | exact sRows_later _ _ _ | exact sPack_later _ _ _) | cases hS
 simp only [List.take_succ_cons,List.take_zero,List.drop_succ_cons,List.drop_zero]
 refine wpLoose_step sTwo rfl (by rfl) ⟨_,0,rfl⟩ (fun w' ho hk=>?_) (fun v hv=>?_)
 ·go_simp
  exact ⟨(Only.refl [] w').alloc _,⟨_,rfl⟩,fun g he=>by
   injection he with he; injection he with he; injection he with he; subst he
   exact two_lit w'⟩
 obtain ⟨q,rfl⟩:=hv
 go_simp
 refine wpLoose_chunk 2 (by kernel_rfl) (by rfl) ?_
 simp only [List.take_succ_cons,List.take_zero,List.drop_succ_cons,List.drop_zero,List.length_cons,List.length_nil,Nat.zero_add,Nat.reduceAdd]
 iterate 2 (go_big_quiet_step (fail))
 refine wpQuiet_nil ?_
 refine wpLoose_step (sLay L) rfl (by rfl) ⟨_,none,0,0,rfl⟩ (fun w' ho hk=>?_) (fun v hv=>?_)
 ·go_simp
  refine ⟨rfl,(HL.out.2 w' (H3.out.1.trans ho (S:=[]) (by simp))).mono ?_⟩
  rintro e w5 ⟨v,bs,rfl,hbs,how,hol⟩
  obtain ⟨Av,cv,rfl,hcv,_⟩:=own_shape how
  exact ⟨_,rfl,hol,⟨_,_,_,rfl⟩,⟨bs,Av,cv,rfl,hbs,Holds.of_own how⟩⟩
 obtain ⟨Av,nv,cv,rfl⟩:=hv
 go_simp
 refine wpLoose_chunk 1 (by kernel_rfl) (by rfl) ?_
 simp only [List.take_succ_cons,List.take_zero,List.drop_succ_cons,List.drop_zero,List.length_cons,List.length_nil,Nat.zero_add,Nat.reduceAdd]
 go_big_quiet_step (fail)
 refine wpQuiet_nil ?_
 refine wpLoose_step (sRows L w3.heap.size s) rfl (by rfl) ⟨_,0,rfl⟩ (fun w' ho hk=>?_) (fun v hv=>?_)
 ·have k0:=hk _ (Array.mem_of_getElem? (i:=0) (by rfl)) (by rfl)
  have k0 : sTwo.1 (.slice (some ⟨q,0,none⟩) 2 2) /\ sTwo.2 (.slice (some ⟨q,0,none⟩) 2 2) w':=k0
  have k3:=hk _ (Array.mem_of_getElem? (i:=1) (by rfl)) (by rfl)
  have k3 : (sLay L).1 (.slice Av nv cv) /\ (sLay L).2 (.slice Av nv cv) w':=k3
  obtain ⟨bs,A5,c5,he,hbs,hB⟩:=k3.2
  have hA:=k0.2 q rfl
  injection he with he1 he2 he3
  subst he1; subst he2; subst he3
  clear k0 k3 hk
  go_simp
  refine ⟨(Only.refl [] w').alloc _,⟨_,rfl⟩,fun g hg=>?_⟩
  injection hg with hg; injection hg with hg; injection hg with hg; subst hg
  refine ⟨q,Av,cv,bs,hbs,?_,hA.keep ((Only.refl [] w').alloc _) (by simp),hB.keep ((Only.refl [] w').alloc _) (by simp),(H3.out.2.1.keep ho (by simp)).keep ((Only.refl [] w').alloc _) (by simp)⟩
  have:=Holds.lit w' #[.slice (some ⟨q,0,none⟩) 2 2,.slice Av bs.length cv,.slice (some ⟨w3.heap.size,0,none⟩) 4 4] 22
  simpa using this
 obtain ⟨g,rfl⟩:=hv
 go_simp
 refine wpLoose_step (sPack L w4.heap.size s) rfl (by rfl) ⟨.bool true,trivial⟩ (fun w' ho hk=>?_) (fun v hv=>?_)
 ·have k5:=hk _ (Array.mem_of_getElem? (i:=0) (by rfl)) (by rfl)
  have k5 : (sRows L w3.heap.size s).1 (.slice (some ⟨g,0,none⟩) 3 3) /\ (sRows L w3.heap.size s).2 (.slice (some ⟨g,0,none⟩) 3 3) w':=k5
  obtain ⟨q',A5,c5,bs,hbs,hP,hA,hB,hC⟩:=k5.2 g rfl
  go_simp
  refine ⟨rfl,(pack_rows s g q' w3.heap.size c5 A5 bs w' hP hA hB hC (HL.out.1 _ hbs)).mono ?_⟩
  rintro e w6 ⟨vo,rfl,how6,ho6⟩
  exact ⟨vo,rfl,ho6,trivial,⟨bs,hbs,own_mono how6 ho.size⟩⟩
 clear hv
 go_simp
 intro w' ho hT
 have h6:=hT 6 (by omega)
 have h6 : (sPack L w4.heap.size s).1 v /\ (sPack L w4.heap.size s).2 v w':=h6
 obtain ⟨bs,hbs,how⟩:=h6.2
 have HE:=hide (aI hbs (aI how (H3.out.1.trans ho (S:=[]) (by simp))))
 clear hT h6 hbs how ho hslice
 go_wp2_with fail
 go_ret
 refine ⟨v,bs,rfl,HE.out.1,?_,HE.out.2.2⟩
 have h:=own_mono HE.out.2.1 H3.out.1.size
 rw [H3.out.2.2] at h
 exact h
end Go.Proofs.YtjfjmkkkbcgohaaGreatDoor
