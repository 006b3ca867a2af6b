import Derived.Test.YtjfjmkkkbcgohaaGreatDoorMPgH
namespace Go.Proofs.YtjfjmkkkbcgohaaGreatDoor
open Go Go.RowKit
set_option maxRecDepth 100000 in
set_option maxHeartbeats 4000000 in
theorem next_dataless (A : Option Addr) (n c : Nat) (l : List UInt8) (w : World) (hb : Holds w 1 A n (bvals l)) (hl : l.length = n) (hc : n <= c) (hn : n <= 1000000000) (h : ¬ 2147483647 < bigOf l) (h8 : 8 <= n) (hk : ((l.drop 4).take 4).all lettB = true) (hs : n < 12 + bigOf l) :
 Calls Tryz.prog 30 #[.slice A n c] w (Nexted l A w):=by
 have he : nxE l = 2:=by unfold nxE; rw [if_neg (by omega),if_neg h,if_neg (by omega),if_neg (by rw [hk]; simp),if_pos (by omega)]
 have HE:=hide he
 have h4' : ¬ (n : Int) < 4:=by omega
 have HZ:=hide (Nx0.new (c:=c) hb)
 have HB:=hide (fun w1 (h : Nx0 A n c l w w1)=>h.big hl)
 obtain ⟨b0,o,rfl,_⟩:=hb.addr (by simpa using (show 0 < l.length by omega))
 have HL:=hide (fun (w1 : World) (h : Nx0 (some ⟨b0,o,none⟩) n c l w w1)=>by
  have h1:=(h.bytes.cut (f:=4) (m:=4) (by omega))
  rw [Nat.mul_one,<- bvals_drop,<- bvals_take] at h1
  have:=letters_any (some ⟨b0,o + 4,none⟩) 4 (c - 4) ((l.drop 4).take 4) w1 h1 (by simp; omega) (by omega)
  rw [hk] at this
  exact this)
 unfold noChunk at HZ
 clear he hb hl hk
 generalize bigOf l = b at h hs HB
 have h' : ¬ (2147483647 : Int) < (b : Int):=by omega
 obtain ⟨m,rfl⟩ : ∃ m,n = m + 4:=⟨n - 4,by omega⟩
 have h8' : ¬ (m : Int) < 4:=by omega
 have hs' : (m : Int) < 4 + (b : Int) + 4:=by omega
 have hc4 : ¬ c = 4:=by omega
 go_enter Tryz.func30,Tryz.ntmps30
 go_wp2_with fail
 refine (HB.out _ HZ.out).mono ?_
 rintro e w1 ⟨rfl,h1⟩
 have H1:=hide h1
 clear h1 HB
 go_wp2_with fail
 refine (HL.out _ H1.out).mono ?_
 rintro e w2 ⟨rfl,rfl⟩
 clear HL
 go_wp2_with (refine list_store_row' rfl 53 (.tmp 2) (.tmp 36) rfl w.heap.size noChunk rfl rfl 53 _ H1.out.row (by kernel_rfl) rfl noChunk_one ?_; intro w3 hT3 hO3)
 exact bodyPost_ret (results_row_three Tryz.results30 _ _ w.heap.size 53 _ _ rfl hT3 Tryz.underlying53 rfl (by kernel_rfl)) rfl ⟨H1.out.done hO3,.inl ⟨by rw [HE.out]; decide,by rw [HE.out]; rfl⟩⟩
def fsVal (u : Value) : FS:=⟨fun v=>v = u,fun _ _=>True,fun _=>[]⟩
def blkOf : Value -> List Nat
 | .pointer (some a)=>[a.block]
 | .slice (some a) _ _=>[a.block]
 | _=>[]
def fsCrc (B : Nat) : FS:=⟨fun v=>∃ g,v = .pointer (some ⟨g,0,none⟩),fun v w=>∀ g,v = .pointer (some ⟨g,0,none⟩) -> B <= g /\ Crc w g [],blkOf⟩
def fsRow (B k : Nat) (cs : Array Value) : FS:=⟨fun v=>∃ g,v = .slice (some ⟨g,0,none⟩) k k,fun v w=>∀ g,v = .slice (some ⟨g,0,none⟩) k k -> B <= g /\ Has w g 22 cs,blkOf⟩
def fsBox (B : Nat) (t : TypeId) (cs : Array Value) : FS:=⟨fun v=>∃ g,v = .pointer (some ⟨g,0,none⟩),fun v w=>∀ g,v = .pointer (some ⟨g,0,none⟩) -> B <= g /\ Has w g t cs,blkOf⟩
theorem fsBox_keep (B : Nat) (t : TypeId) (cs : Array Value) (v : Value) (w w' : World) (T : List Nat) (ho : Only T w w') (hT : ∀ j ∈ T,B <= j /\ j ∉ (fsBox B t cs).own v) (h : (fsBox B t cs).fact v w) : (fsBox B t cs).fact v w':=fun g he =>
 ⟨(h g he).1,(h g he).2.only ho fun hm=>(hT g hm).2 (by rw [he]; exact List.mem_singleton_self _)⟩
theorem fsBox_new {B : Nat} {t : TypeId} {cs : Array Value} {w : World} (hB : B <= w.heap.size) : Only [] w (w.alloc (.cells cs t)) /\ (fsBox B t cs).pure (.pointer (some ⟨w.heap.size,0,none⟩)) /\ (fsBox B t cs).fact (.pointer (some ⟨w.heap.size,0,none⟩)) (w.alloc (.cells cs t)) /\ ∀ k ∈ (fsBox B t cs).own (.pointer (some ⟨w.heap.size,0,none⟩)),w.heap.size <= k /\ k < (w.alloc (.cells cs t)).heap.size :=
 ⟨(Only.refl [] w).alloc _,⟨_,rfl⟩,fun g he=>by injection he with he; injection he with he; injection he with he; subst he; exact ⟨hB,Has.new w t cs⟩,fun k hk=>by
   have : k = w.heap.size:=by simpa [fsBox,blkOf] using hk
   subst this
   exact ⟨Nat.le_refl _,by simp⟩⟩
theorem fsCrc_keep (B : Nat) (v : Value) (w w' : World) (T : List Nat) (ho : Only T w w') (hT : ∀ k ∈ T,B <= k /\ k ∉ (fsCrc B).own v) (h : (fsCrc B).fact v w) : (fsCrc B).fact v w':=fun g he =>
 ⟨(h g he).1,(h g he).2.only ho fun hm=>(hT g hm).2 (by rw [he]; exact List.mem_singleton_self _)⟩
theorem fsRow_keep (B k : Nat) (cs : Array Value) (v : Value) (w w' : World) (T : List Nat) (ho : Only T w w') (hT : ∀ j ∈ T,B <= j /\ j ∉ (fsRow B k cs).own v) (h : (fsRow B k cs).fact v w) : (fsRow B k cs).fact v w':=fun g he =>
 ⟨(h g he).1,(h g he).2.only ho fun hm=>(hT g hm).2 (by rw [he]; exact List.mem_singleton_self _)⟩
theorem fsCrc_call (w : World) (B : Nat) (hB : B <= w.heap.size) : Calls Tryz.prog 43 #[] w fun e w'=>∃ v,e = .returned v /\ Only [] w w' /\ (fsCrc B).pure v /\ (fsCrc B).fact v w' /\ ∀ k ∈ (fsCrc B).own v,w.heap.size <= k /\ k < w'.heap.size :=
 (newCrc_any w).mono fun e w' ⟨g,he,hg,hc,ho⟩=>⟨_,he,ho,⟨g,rfl⟩,fun g' hg'=>by injection hg' with hg'; injection hg' with hg'; injection hg' with hg'; subst hg'; exact ⟨Nat.le_trans hB hg,hc⟩,fun k hk=>by
   have : k = g:=by simpa [fsCrc,blkOf] using hk
   subst this
   exact ⟨hg,hc.lt⟩⟩
theorem Nx0.later {A : Option Addr} {n c : Nat} {l : List UInt8} {w w1 w2 : World} (h : Nx0 A n c l w w1) (ho : Only [] w1 w2) : Nx0 A n c l w w2 :=
 ⟨h.row.only ho (by simp),h.only.trans ho (by simp),h.bytes.keep ho (by simp)⟩
theorem eat_one {a k m j : Nat} (h : (if j = a then some k else none) = some m) : j = a:=by
 by_cases e : j = a
 ·exact e
 ·rw [if_neg e] at h; cases h
theorem ofCrc_rows (g g' k B : Nat) (ps : List Part) (w : World) (h : Crc w g []) (hB : B <= g) (hrow : Has w g' 22 (ps.map Part.val).toArray) (hk : ps.length = k) (hk2 : k <= 1000)
 (hps : ∀ p ∈ ps,Holds w 1 p.A p.l.length (bvals p.l) /\ p.l.length <= p.c /\ p.l.length <= 140737488355328 /\ (0 < p.l.length -> ∀ ad,p.A = some ad -> ad.block < B)) :
 Calls Tryz.prog 42 #[.pointer (some ⟨g,0,none⟩),.slice (some ⟨g',0,none⟩) k k] w fun e w'=>e = .returned (.int .u32 (crcW (Part.all ps) : Nat)) /\ Only [g] w w':=by
 have hne : g ≠ g':=fun e=>by
  subst e
  have h1 : some (Obj.cells _ 139 (0,0)) = some (Obj.cells _ 22 (0,0)):=Eq.trans (Eq.symm h) hrow
  injection h1 with h1
  injection h1 with _ h2
  exact absurd h2 (by decide)
 refine (ofCrc_any g [] (some ⟨g',0,none⟩) k k ps w h ⟨by simp [hk],fun _=>⟨_,rfl,hrow.lt,fun j u hu=>by rw [add_zero_of,hrow.cell,List.getElem?_toArray]; exact hu⟩⟩ hk (by omega)
  (fun p hp=>⟨(hps p hp).1,(hps p hp).2.1,(hps p hp).2.2.1,fun h0 ad ha=>by have:=(hps p hp).2.2.2 h0 ad ha; omega⟩) (fun _ ad ha=>by injection ha with ha; subst ha; exact Ne.symm hne)).mono ?_
 rintro e w' ⟨he,_,ho⟩
 exact ⟨he,ho⟩
def rowP (A : Option Addr) (f k : Nat) : Value:=.slice (if k = 0 then A else A.map (·.add f)) k k
theorem run_rowP (A : Option Addr) (n c f k : Nat) (h : f + k <= c) (w : World) :
 (Instr.slice 22 (.slice A n c) (some (.int .i64 (f : Int))) (some (.int .i64 ((f + k : Nat) : Int))) (some (.int .i64 ((f + k : Nat) : Int)))).run Tryz.prog w = .ok (rowP A f k) w:=by
 rw [run_slice_lhm (w:=w) 22 A n c bytes_elem .i64 .i64 .i64 (f : Int) ((f + k : Nat) : Int) ((f + k : Nat) : Int) (by omega) (by omega) (by omega) (by omega),bytes_size]
 simp only [Result.andThen_ok,sliced,rowP,Int.toNat_natCast,Nat.mul_one]
 congr 1
 by_cases hk : k = 0
 ·subst hk; simp
 ·rw [if_neg (by omega),if_neg hk,show f + k - f = k by omega]
theorem run_row' (A : Option Addr) (n c f k : Nat) (h : f + k <= c) (zf z : Int) (hzf : zf = f) (hz : z = ((f + k : Nat) : Int)) (w : World) :
 (Instr.slice 22 (.slice A n c) (some (.int .i64 zf)) (some (.int .i64 z)) (some (.int .i64 z))).run Tryz.prog w = .ok (rowP A f k) w:=by
 subst hz hzf
 exact run_rowP A n c f k h w
theorem run_part {w : World} {A : Option Addr} {n c : Nat} {l : List UInt8} (h : Holds w 1 A n (bvals l)) (hn : n <= c) (f k : Nat) (hk : f + k <= n) (zf z : Int) (hzf : zf = f) (hz : z = ((f + k : Nat) : Int)) :
 ∃ D,(∀ w',(Instr.slice 22 (.slice A n c) (some (.int .i64 zf)) (some (.int .i64 z)) (some (.int .i64 z))).run Tryz.prog w' = .ok (.slice D k k) w') /\ Holds w 1 D k (bvals ((l.drop f).take k)) /\ (∀ ad',D = some ad' -> ∃ ad,A = some ad /\ ad'.block = ad.block):=by
 refine ⟨if k = 0 then A else A.map (·.add f),fun w'=>?_,?_,fun ad' he=>?_⟩
 ·have:=run_row' A n c f k (by omega) zf z hzf hz w'
  unfold rowP at this
  exact this
 ·by_cases h0 : k = 0
  ·subst h0; rw [List.take_zero]; exact Holds.empty _ _ _
  ·rw [if_neg h0]
   have:=h.cut (f:=f) (m:=k) hk
   rwa [Nat.mul_one,Nat.mul_one,<- bvals_drop,<- bvals_take] at this
 ·split at he
  ·exact ⟨ad',he,rfl⟩
  ·obtain ⟨ad,h1,h2⟩:=Option.map_eq_some_iff.1 he
   exact ⟨ad,h1,by rw [<- h2,add_block]⟩
theorem run_from2 {w : World} {A : Option Addr} {n c : Nat} {l : List UInt8} (h : Holds w 1 A n (bvals l)) (hl : l.length = n) (hn : n <= c) (k : Nat) (hk : k <= n) (z : Int) (hz : z = k) :
 ∃ A' d c',d + k = n /\ (∀ w',(Instr.slice 22 (.slice A n c) (some (.int .i64 z)) none none).run Tryz.prog w' = .ok (.slice A' d c') w') /\ Holds w 1 A' d (bvals (l.drop k)) /\ d <= c' /\ (∀ ad',A' = some ad' -> ∃ ad,A = some ad /\ ad'.block = ad.block):=by
 subst hz
 obtain ⟨A',c',h1,h2,h3,h4⟩:=run_from h hl hn k hk
 exact ⟨A',n - k,c',by omega,h1,h2,h3,h4⟩
theorem run_upto2 (A : Option Addr) (n c k : Nat) (hk : k <= c) (z : Int) (hz : z = k) (w : World) :
 (Instr.slice 22 (.slice A n c) none (some (.int .i64 z)) none).run Tryz.prog w = .ok (.slice A k c) w:=by
 subst hz
 exact run_upto A n c k hk w
set_option maxRecDepth 100000 in
set_option maxHeartbeats 8000000 in
theorem next_summed (A : Option Addr) (n c : Nat) (l : List UInt8) (w : World) (hb : Holds w 1 A n (bvals l)) (hl : l.length = n) (hc : n <= c) (hn : n <= 1000000000) (h : ¬ 2147483647 < bigOf l) (hk : ((l.drop 4).take 4).all lettB = true) (hs : 12 + bigOf l <= n) :
 Calls Tryz.prog 30 #[.slice A n c] w (Nexted l A w):=by
 have he : nxE l = if crcW ((l.drop 4).take (4 + bigOf l)) = bigOf (l.drop (8 + bigOf l)) then 0 else 4:=by unfold nxE; rw [if_neg (by omega),if_neg h,if_neg (by omega),if_neg (by rw [hk]; simp),if_neg (by omega)]
 have HE:=hide he
 have h4' : ¬ (n : Int) < 4:=by omega
 have HZ:=hide (Nx0.new (c:=c) hb)
 have HB:=hide (fun w1 (h : Nx0 A n c l w w1)=>h.big hl)
 obtain ⟨b0,o,rfl,_⟩:=hb.addr (by simpa using (show 0 < l.length by omega))
 have hblk:=hb.blk (show 0 < n by omega) _ rfl
 have HL:=hide (fun (w1 : World) (h : Nx0 (some ⟨b0,o,none⟩) n c l w w1)=>by
  have h1:=(h.bytes.cut (f:=4) (m:=4) (by omega))
  rw [Nat.mul_one,<- bvals_drop,<- bvals_take] at h1
  have:=letters_any (some ⟨b0,o + 4,none⟩) 4 (c - 4) ((l.drop 4).take 4) w1 h1 (by simp; omega) (by omega)
  rw [hk] at this
  exact this)
 have hb4 : Holds w 1 (some ⟨b0,o + 4,none⟩) (n - 4) (bvals (l.drop 4)):=by
  have h1:=hb.from hl hc 4 (by omega)
  rw [if_neg (by omega)] at h1
  exact h1
 unfold noChunk at HZ
 clear he hb hl hk
 obtain ⟨b,hbe⟩ : ∃ b,b = bigOf l:=⟨_,rfl⟩
 rw [<- hbe] at h hs HB HE
 have h' : ¬ (2147483647 : Int) < (b : Int):=by omega
 obtain ⟨m,rfl⟩ : ∃ m,n = m + 4:=⟨n - 4,by omega⟩
 rw [Nat.add_sub_cancel] at hb4
 have h8' : ¬ (m : Int) < 4:=by omega
 have hs' : ¬ (m : Int) < 4 + (b : Int) + 4:=by omega
 have hc4 : ¬ c = 4:=by omega
 have hcc : ¬ ((c - 4 : Nat) : Int) < 4:=by omega
 have hl4 : (l.drop 4).length = m:=by have:=hb4.1; simpa using this
 obtain ⟨A1,d1,c1,hd1,hfr1,hH1,hdc1,hbk1⟩:=run_from2 hb4 hl4 (c:=c - 4) (by omega) (4 + b) (by omega) (4 + (b : Int)) (by omega)
 obtain ⟨A2,d2,c2,hd2,hfr2,hH2,hdc2,hbk2⟩:=run_from2 hb4 hl4 (c:=c - 4) (by omega) (8 + b) (by omega) (4 + (b : Int) + 4) (by omega)
 have hup:=run_upto2 (some ⟨b0,o + 4,none⟩) m (c - 4) (4 + b) (by omega) (4 + (b : Int)) (by omega)
 have hup4:=run_upto2 (some ⟨b0,o + 4,none⟩) m (c - 4) 4 (by omega) 4 (by omega)
 obtain ⟨D,hrw,hHD,hbkD⟩:=run_part hb4 (c:=c - 4) (by omega) 4 b (by omega) 4 (4 + (b : Int)) rfl (by omega)
 rw [List.drop_drop] at hHD
 have HD:=hide (aI hHD hbkD)
 clear hHD hbkD
 have HR:=hide (aI hfr1 (aI hfr2 (aI hup (aI hup4 hrw))))
 have HH:=hide (aI hb4 (aI hH1 (aI hH2 (aI hbk1 (aI hbk2 (aI hd1 (aI hd2 (aI hdc2 hl4))))))))
 have HN:=hide (aI h (aI hs (aI hn (aI hc hbe))))
 clear hfr1 hfr2 hup hup4 hrw hb4 hH1 hH2 hbk1 hbk2 hd1 hd2 hdc1 hdc2 hl4 h hs hn hc hbe
 go_enter Tryz.func30,Tryz.ntmps30
 go_wp2_with fail
 refine (HB.out _ HZ.out).mono ?_
 rintro e w1 ⟨rfl,h1⟩
 have H1:=hide h1
 clear h1 HB
 go_wp2_with fail
 refine (HL.out _ H1.out).mono ?_
 rintro e w2 ⟨rfl,rfl⟩
 clear HL
 go_wp2_with fail
 obtain ⟨hfr1,hfr2,hup,hup4,hrw⟩:=HR.out
 obtain ⟨x,hx⟩ : ∃ x,x = crcW ((l.drop 4).take (4 + b)):=⟨_,rfl⟩
 obtain ⟨y,hy⟩ : ∃ y,y = bigOf (l.drop (8 + b)):=⟨_,rfl⟩
 rw [<- hx,<- hy] at HE
 have HX:=hide (aI hx hy)
 clear hx hy
 have hB0 : b0 < w2.heap.size:=Nat.lt_of_lt_of_le hblk H1.out.only.size
 have HB0:=hide hB0
 clear hblk hB0
 refine region_frm 10 62 (fun i=>if i = 0 then some (fsCrc w2.heap.size) else if i = 4 then some (fsRow w2.heap.size 1 #[.slice (some ⟨b0,o + 4,none⟩) (4 + b) (c - 4)]) else if i = 5 then some (fsVal (.int .u32 (x : Int))) else if i = 9 then some (fsVal (.int .u32 (y : Int))) else none) (fun i=>if i = 5 then some 0 else none) (by kernel_rfl) (by kernel_rfl) (by kernel_rfl) (by kernel_rfl) (by rfl) (by rfl) (fun i hi=>?_) (fun i S hS=>?_) ?_
 ·have hi : 11 <= i:=hi
  show (if i = 0 then _ else _) = none
  iterate 4 rw [if_neg (by omega)]
 ·repeat' split at hS
  all_goals first | (injection hS with hS; subst hS; first | exact fsCrc_keep _ | exact fsRow_keep _ _ _ | exact fun _ _ _ _ _ _ _=>trivial) | cases hS
 simp only [List.take_succ_cons,List.take_zero,List.drop_succ_cons,List.drop_zero]
 refine wpFrm_step (fsCrc w2.heap.size) rfl (by rfl) ⟨_,0,rfl⟩ (fun w' ho hk=>?_) (fun v hv=>?_)
 ·go_simp
  exact ⟨rfl,fsCrc_call w' _ ho.size⟩
 obtain ⟨g,rfl⟩:=hv
 go_simp
 refine wpFrm_chunk 3 (by kernel_rfl) (by rfl) ?_
 simp only [List.take_succ_cons,List.take_zero,List.drop_succ_cons,List.drop_zero,List.length_cons,List.length_nil,Nat.zero_add,Nat.reduceAdd]
 iterate 3 (go_big_quiet_step (fail))
 refine wpQuiet_nil ?_
 refine wpFrm_step (fsRow w2.heap.size 1 #[.slice (some ⟨b0,o + 4,none⟩) (4 + b) (c - 4)]) rfl (by rfl) ⟨_,0,rfl⟩ (fun w' ho hk=>?_) (fun v hv=>?_)
 ·clear hk
  go_simp
  exact ⟨(Only.refl [] w').alloc _,⟨_,rfl⟩,fun g he=>by
   injection he with he; injection he with he; injection he with he; subst he
   exact ⟨ho.size,Has.new w' _ _⟩,fun k hk=>by
   have : k = w'.heap.size:=by simpa [fsRow,blkOf] using hk
   subst this
   exact ⟨Nat.le_refl _,by simp⟩⟩
 obtain ⟨g',rfl⟩:=hv
 go_simp
 refine wpFrm_step (fsVal (.int .u32 (x : Int))) rfl (by rfl) ⟨_,rfl⟩ (fun w' ho hk=>?_) (fun v hv=>?_)
 ·have k0:=hk _ (Array.mem_of_getElem? (i:=0) (by rfl)) (by rfl) (fun j h=>eat_one h)
  have k0 : (fsCrc w2.heap.size).pure (.pointer (some ⟨g,0,none⟩)) /\ (fsCrc w2.heap.size).fact (.pointer (some ⟨g,0,none⟩)) w':=k0
  have k4:=hk _ (Array.mem_of_getElem? (i:=1) (by rfl)) (by rfl) (fun j h=>eat_one h)
  have k4 : (fsRow w2.heap.size 1 #[.slice (some ⟨b0,o + 4,none⟩) (4 + b) (c - 4)]).pure (.slice (some ⟨g',0,none⟩) 1 1) /\ (fsRow w2.heap.size 1 #[.slice (some ⟨b0,o + 4,none⟩) (4 + b) (c - 4)]).fact (.slice (some ⟨g',0,none⟩) 1 1) w':=k4
  obtain ⟨hg,hC⟩:=k0.2 g rfl
  obtain ⟨_,hR⟩:=k4.2 g' rfl
  clear k0 k4 hk
  have hlen : ((l.drop 4).take (4 + b)).length = 4 + b:=by rw [List.length_take,HH.out.2.2.2.2.2.2.2.2]; have:=HH.out.2.2.2.2.2.1; omega
  have hof:=ofCrc_rows g g' 1 w2.heap.size [⟨some ⟨b0,o + 4,none⟩,c - 4,(l.drop 4).take (4 + b)⟩] w' hC hg (by
   show Has w' g' _ #[.slice _ ((l.drop 4).take (4 + b)).length _]
   rw [hlen]; exact hR) rfl (by omega) (fun p hp=>by
   obtain rfl : p = _:=by simpa using hp
   refine ⟨?_,?_,?_,fun _ ad ha=>by injection ha with ha; subst ha; exact HB0.out⟩
   ·show Holds w' 1 _ ((l.drop 4).take (4 + b)).length _
    rw [hlen]
    exact ((HH.out.1.upto (4 + b) (by have:=HH.out.2.2.2.2.2.1; omega)).keep H1.out.only (by simp)).keep ho (by simp)
   ·show ((l.drop 4).take (4 + b)).length <= c - 4
    have:=HN.out; omega
   ·show ((l.drop 4).take (4 + b)).length <= _
    have:=HN.out; omega)
  rw [show Part.all [⟨some ⟨b0,o + 4,none⟩,c - 4,(l.drop 4).take (4 + b)⟩] = (l.drop 4).take (4 + b) by simp [Part.all],<- HX.out.1] at hof
  change frmUpon _ _ [g] _ _
  go_simp
  refine ⟨rfl,hof.mono ?_⟩
  rintro e w3 ⟨he,ho3⟩
  exact ⟨_,he,ho3,rfl,trivial,fun k hk=>absurd hk (by simp [fsVal])⟩
 cases hv
 go_simp
 refine wpFrm_chunk 3 (by kernel_rfl) (by rfl) ?_
 simp only [List.take_succ_cons,List.take_zero,List.drop_succ_cons,List.drop_zero,List.length_cons,List.length_nil,Nat.zero_add,Nat.reduceAdd]
 iterate 3 (go_big_quiet_step (fail))
 refine wpQuiet_nil ?_
 refine wpFrm_step (fsVal (.int .u32 (y : Int))) rfl (by rfl) ⟨_,rfl⟩ (fun w' ho hk=>?_) (fun v hv=>?_)
 ·clear hk
  change frmUpon _ _ [] _ _
  go_simp
  refine ⟨rfl,(bitsBig_any A1 d1 c1 _ w' ((HH.out.2.1.keep H1.out.only (by simp)).keep ho (by simp)) (by have:=HH.out.2.1.1; simpa using this)).mono ?_⟩
  rintro e w3 ⟨rfl,q,rfl⟩
  refine ⟨_,rfl,(Only.refl [] w').drewN q,?_,trivial,fun k hk=>absurd hk (by simp [fsVal])⟩
  show Value.int .u32 _ = .int .u32 (y : Int)
  rw [HX.out.2,List.drop_drop,show 4 + (4 + b) = 8 + b by omega]
 cases hv
 go_simp
 intro w3 ho3 hT
 clear hT
 have h3 : Nx0 (some ⟨b0,o,none⟩) (m + 4) c l w w3:=H1.out.later ho3
 have H3:=hide h3
 clear h3 ho3 H1 HB0 HZ
 by_cases hxy : x = y
 ·have hxy' : (x : Int) = (y : Int):=by rw [hxy]
  clear hup hfr1
  rw [if_pos hxy] at HE
  clear hxy
  go_wp2_with fail
  have hst:=fun X : Later w3=>run_string_of (((HH.out.1.upto 4 (by have:=HH.out.2.2.2.2.2.1; omega)).keep H3.out.only (by simp)).keep X.only (by simp)) (c - 4) 22 5 9 Tryz.underlying22 Tryz.underlying5 Tryz.underlying9
  refine region_frm 9 62 (fun i=>if i = 8 then some (fsBox w3.heap.size 53 noChunk) else none) (fun _=>none) (by kernel_rfl) (by kernel_rfl) (by kernel_rfl) (by kernel_rfl) (by rfl) (by rfl) (fun i hi=>?_) (fun i S hS=>?_) ?_
  ·have hi : 10 <= i:=hi
   show (if i = 8 then _ else _) = none
   rw [if_neg (by omega)]
  ·split at hS
   all_goals first | (injection hS with hS; subst hS; exact fsBox_keep _ _ _) | cases hS
  simp only [List.take_succ_cons,List.take_zero,List.drop_succ_cons,List.drop_zero]
  refine wpFrm_chunk 8 (by kernel_rfl) (by rfl) ?_
  simp only [List.take_succ_cons,List.take_zero,List.drop_succ_cons,List.drop_zero,List.length_cons,List.length_nil,Nat.zero_add,Nat.reduceAdd]
  iterate 8 (go_big_quiet_step (fail))
  refine wpQuiet_nil ?_
  clear hst
  refine wpFrm_step (fsBox w3.heap.size 53 noChunk) rfl (by rfl) ⟨_,0,rfl⟩ (fun w' ho hk=>?_) (fun v hv=>?_)
  ·clear hk
   change frmUpon _ _ [] _ _
   go_simp
   exact fsBox_new ho.size
  obtain ⟨g7,rfl⟩:=hv
  go_simp
  intro w4 ho4 hT
  have h8:=hT 8 (by omega)
  have h8 : (fsBox w3.heap.size 53 noChunk).pure (.pointer (some ⟨g7,0,none⟩)) /\ (fsBox w3.heap.size 53 noChunk).fact (.pointer (some ⟨g7,0,none⟩)) w4:=h8
  obtain ⟨hB7,h7⟩:=h8.2 g7 rfl
  clear hT h8
  have H4:=hide (aI (H3.out.later ho4) (aI hB7 (aI h7 ho4)))
  clear hB7 h7 ho4
  refine list_store_row' rfl 53 (.tmp 7) (.tmp 56) rfl g7 #[.string ⟨((l.drop 4).take 4).toArray⟩,.slice D b b] rfl rfl 53 _ H4.out.2.2.1 (by kernel_rfl) rfl (by simp [Value.oneCell']) ?_
  intro w5 hT5 hO5
  have hne : w.heap.size ≠ g7:=fun e=>by have:=H4.out.2.1; have:=H3.out.row.lt; omega
  have hT0 : Has w5 w.heap.size 53 noChunk:=H4.out.1.row.only hO5 (by simpa using hne)
  have h50 : Nx0 (some ⟨b0,o,none⟩) (m + 4) c l w w5:=⟨hT0,H4.out.1.only.trans hO5 (by intro i hi hlt; have:=H4.out.2.1; have:=H3.out.row.lt; simp at hi; omega),H4.out.1.bytes.keep hO5 (by
   intro ad ha _ hm
   injection ha with ha
   subst ha
   have h1:=H3.out.bytes.blk (by omega) _ rfl
   have h2:=H4.out.2.1
   have h3 : b0 = g7:=by simpa using hm
   have h1 : b0 < w3.heap.size:=h1
   omega)⟩
  have H5:=hide (aI hT5 (aI hO5 h50))
  have hc0:=later_cell (hT5.cell 0)
  have hc1:=later_cell (hT5.cell 1)
  clear hT5 hO5 hT0 h50
  go_wp2_with fail
  have d00 : w5.cell? ⟨w.heap.size,0,none⟩ = some (.string ⟨#[]⟩):=H5.out.2.2.row.cell 0
  have d01 : w5.cell? ⟨w.heap.size,1,none⟩ = some (.slice none 0 0):=H5.out.2.2.row.cell 1
  have e00:=H5.out.2.2.row.free 0
  have e01:=H5.out.2.2.row.free 1
  have d70:=H5.out.1.cell 0
  have d71:=H5.out.1.cell 1
  have hwr : IntKind.i64.wrap (4 + (b : Int) + 4) = 4 + (b : Int) + 4:=by
   rw [IntKind.wrap_i64]; omega
  clear hc0 hc1 hup4 hrw
  go_simp
  go_region
  have hfin:=((H5.out.2.2.row.set 0 (.string ⟨((l.drop 4).take 4).toArray⟩)).set 1 (.slice D b b)).drew
  have hF:=hide (show Has _ w.heap.size 53 #[.string ⟨((l.drop 4).take 4).toArray⟩,.slice D b b] from hfin)
  have hoF : Only [] w ((w5.setCell ⟨w.heap.size,0,none⟩ (.string ⟨((l.drop 4).take 4).toArray⟩)).setCell ⟨w.heap.size,1,none⟩ (.slice D b b)).drew:=((H5.out.2.2.only.setCell (fun h=>absurd h (Nat.lt_irrefl _)) _).setCell (fun h=>absurd h (Nat.lt_irrefl _)) _).drew
  have HO:=hide hoF
  clear hfin hoF
  generalize ((w5.setCell ⟨w.heap.size,0,none⟩ (.string ⟨((l.drop 4).take 4).toArray⟩)).setCell ⟨w.heap.size,1,none⟩ (.slice D b b)).drew = w6 at *
  clear d00 d01 e00 e01 d70 d71 hwr hfr2
  go_wp2_with fail
  refine bodyPost_ret (results_row_three Tryz.results30 _ _ w.heap.size 53 _ _ rfl hF.out Tryz.underlying53 rfl (by kernel_rfl)) rfl ⟨HO.out,.inr ⟨HE.out,by rw [<- HN.out.2.2.2.2]; have:=HH.out.2.2.2.2.2.2.1; have h9:=HH.out.2.2.2.2.2.2.2.2; rw [List.length_drop] at h9; omega,?_⟩⟩
  have hl4 : l.length - 4 = m:=by have:=HH.out.2.2.2.2.2.2.2.2; rwa [List.length_drop] at this
  have hd2 : d2 = l.length - (12 + bigOf l):=by rw [<- HN.out.2.2.2.2]; have:=HH.out.2.2.2.2.2.2.1; omega
  rw [<- hd2,<- HN.out.2.2.2.2]
  refine ⟨D,A2,c2,rfl,HD.out.1,?_,HH.out.2.2.2.2.2.2.2.1,fun ad' h=>?_,fun ad' h=>?_⟩
  ·have:=HH.out.2.2.1
   rwa [List.drop_drop,show 4 + (8 + b) = 12 + b by omega] at this
  ·obtain ⟨ad,h1,h2⟩:=HD.out.2 ad' h
   injection h1 with h1
   subst h1
   exact ⟨_,rfl,h2⟩
  ·obtain ⟨ad,h1,h2⟩:=HH.out.2.2.2.2.1 ad' h
   injection h1 with h1
   subst h1
   exact ⟨_,rfl,h2⟩
 ·have hxy' : ¬ (x : Int) = (y : Int):=by omega
  rw [if_neg hxy] at HE
  clear hxy hup hfr1 hup4 hrw hfr2 HR HH HX HN
  go_wp2_with (refine list_store_row' rfl 53 (.tmp 2) (.tmp 48) rfl w.heap.size noChunk rfl rfl 53 _ H3.out.row (by kernel_rfl) rfl noChunk_one ?_; intro w4 hT4 hO4)
  exact bodyPost_ret (results_row_three Tryz.results30 _ _ w.heap.size 53 _ _ rfl hT4 Tryz.underlying53 rfl (by kernel_rfl)) rfl ⟨H3.out.done hO4,.inl ⟨by rw [HE.out]; decide,by rw [HE.out]; rfl⟩⟩
theorem next_any (A : Option Addr) (n c : Nat) (l : List UInt8) (w : World) (hb : Holds w 1 A n (bvals l)) (hl : l.length = n) (hc : n <= c) (hn : n <= 1000000000) :
 Calls Tryz.prog 30 #[.slice A n c] w (Nexted l A w):=by
 by_cases h4 : n < 4
 ·exact next_few A n c l w hl h4
 by_cases h : 2147483647 < bigOf l
 ·exact next_wide A n c l w hb hl (by omega) h
 by_cases h8 : n < 8
 ·exact next_kindless A n c l w hb hl (by omega) h h8
 cases hk : ((l.drop 4).take 4).all lettB with
 | false=>exact next_wrong A n c l w hb hl hc h (by omega) hk
 | true =>
   by_cases hs : n < 12 + bigOf l
   ·exact next_dataless A n c l w hb hl hc hn h (by omega) hk hs
   ·exact next_summed A n c l w hb hl hc hn h hk (by omega)
structure Ck where
 k : List UInt8
 d : List UInt8
def ckOf (l : List UInt8) : Ck:=⟨(l.drop 4).take 4,(l.drop 8).take (bigOf l)⟩
def iend : List UInt8:=[73,69,78,68]
theorem nxE_ok {l : List UInt8} (h : nxE l = 0) : 12 + bigOf l <= l.length:=by
 unfold nxE at h
 repeat' split at h
 all_goals first | omega | (exact absurd h (by decide))
def cks (l : List UInt8) : Nat × List Ck :=
 if h : nxE l = 0 then
  if (ckOf l).k = iend then (0,[ckOf l])
  else if (cks (l.drop (12 + bigOf l))).1 = 0 then (0,ckOf l :: (cks (l.drop (12 + bigOf l))).2) else ((cks (l.drop (12 + bigOf l))).1,[])
 else (nxE l,[])
termination_by l.length
decreasing_by all_goals (have:=nxE_ok h; rw [List.length_drop]; omega)
def glue (cs : List Ck) (r : Nat × List Ck) : Nat × List Ck:=if r.1 = 0 then (0,cs ++ r.2) else (r.1,[])
theorem cks_bad {l : List UInt8} (h : nxE l ≠ 0) : cks l = (nxE l,[]):=by rw [cks,dif_neg h]
theorem cks_end {l : List UInt8} (h : nxE l = 0) (hk : (ckOf l).k = iend) : cks l = (0,[ckOf l]):=by rw [cks,dif_pos h,if_pos hk]
theorem cks_more {l : List UInt8} (h : nxE l = 0) (hk : (ckOf l).k ≠ iend) : cks l = glue [ckOf l] (cks (l.drop (12 + bigOf l))):=by rw [cks,dif_pos h,if_neg hk]; rfl
theorem glue_nil (r : Nat × List Ck) (h : r.1 = 0 \/ r.2 = []) : glue [] r = r:=by
 obtain ⟨a,b⟩:=r
 unfold glue
 simp only at h ⊢
 split
 ·rename_i h0; subst h0; rfl
 ·rcases h with h | h
  ·exact absurd h (by assumption)
  ·rw [h]
theorem glue_glue (a b : List Ck) (r : Nat × List Ck) : glue a (glue b r) = glue (a ++ b) r:=by
 unfold glue
 by_cases h : r.1 = 0
 ·simp [h]
 ·simp [h]
theorem cks_none {l : List UInt8} (h : (cks l).1 ≠ 0) : (cks l).2 = []:=by
 rw [cks] at h ⊢
 repeat' split
 all_goals simp_all
structure Cv where
 ck : Ck
 A : Option Addr
 c : Nat
def ckv (p : Cv) : List Value:=[.string ⟨p.ck.k.toArray⟩,.slice p.A p.ck.d.length p.c]
def CvOk (w : World) (A : Option Addr) (p : Cv) : Prop:=(Holds w 1 p.A p.ck.d.length (bvals p.ck.d) /\ p.ck.d.length = p.c) /\ (∀ ad',p.A = some ad' -> ∃ ad,A = some ad /\ ad'.block = ad.block)
def ckvs (ps : List Cv) : List Value:=ps.flatMap ckv
theorem ckvs_snoc (ps : List Cv) (p : Cv) : ckvs (ps ++ [p]) = ckvs ps ++ ckv p:=by simp [ckvs]
structure SpSt (w : World) (A : Option Addr) (l0 : List UInt8) (ps : List Cv) (r : List UInt8) (Ab : Option Addr) (nb cb : Nat) (Al : Option Addr) (cl : Nat) (wr : World) : Prop where
 ran : cks l0 = glue (ps.map Cv.ck) (cks r)
 bytes : Holds w 1 Ab nb (bvals r)
 len : r.length = nb
 cap : nb <= cb
 few : ps.length + nb <= 1000000000
 blk : ∀ ad',Ab = some ad' -> ∃ ad,A = some ad /\ ad'.block = ad.block
 own : wr.ownsRow w.heap.size 53 2 (.slice Al ps.length cl) ps.length (ckvs ps)
 parts : ∀ p ∈ ps,CvOk w A p
 only : Only [] w wr
theorem Holds.back {w w' : World} {size n : Nat} {A : Option Addr} {xs : List Value} (h : Holds w' size A n xs) (ho : Only [] w w') (hb : 0 < n -> ∀ ad,A = some ad -> ad.block < w.heap.size) : Holds w size A n xs:=by
 refine ⟨h.1,fun h0=>?_⟩
 obtain ⟨ad,e,_,hc⟩:=h.2 h0
 have hlt:=hb h0 ad e
 refine ⟨ad,e,hlt,fun j u hu=>?_⟩
 rw [<- ho.cell (by rw [add_block]; exact hlt) (by simp)]
 exact hc j u hu
theorem SpSt.push {w w3 w5 wr : World} {A Ab Al D A2 A5 : Option Addr} {l0 r : List UInt8} {ps : List Cv} {nb cb cl c2 c5 : Nat} (S : SpSt w A l0 ps r Ab nb cb Al cl wr) (h : nxE r = 0)
 (ho : Only [] wr w3) (hD : Holds wr 1 D (bigOf r) (bvals ((r.drop 8).take (bigOf r)))) (hA2 : Holds wr 1 A2 (r.length - (12 + bigOf r)) (bvals (r.drop (12 + bigOf r))))
 (hbD : ∀ ad',D = some ad' -> ∃ ad,Ab = some ad /\ ad'.block = ad.block) (hbA : ∀ ad',A2 = some ad' -> ∃ ad,Ab = some ad /\ ad'.block = ad.block) (hc2 : r.length - (12 + bigOf r) <= c2)
 (hown : w5.ownsRow w.heap.size 53 2 (.slice A5 (ps.length + 1) c5) (ps.length + 1) (ckvs ps ++ [.string ⟨((r.drop 4).take 4).toArray⟩,.slice D (bigOf r) (bigOf r)]))
 (hgrow : w3.grownBy w5 (Value.slice Al ps.length cl).ownBlock) :
 (∃ v,v = Value.slice A5 (ps.length + 1) c5 /\ (ps ++ [Cv.mk (ckOf r) D (bigOf r)]).map Cv.ck = ps.map Cv.ck ++ [ckOf r] /\ w5.ownsRow w.heap.size 53 2 v (ps ++ [Cv.mk (ckOf r) D (bigOf r)]).length (ckvs (ps ++ [Cv.mk (ckOf r) D (bigOf r)])) /\
   (∀ p ∈ ps ++ [Cv.mk (ckOf r) D (bigOf r)],CvOk w A p) /\ Only [] w w5) /\
 ((ckOf r).k ≠ iend -> SpSt w A l0 (ps ++ [Cv.mk (ckOf r) D (bigOf r)]) (r.drop (12 + bigOf r)) A2 (r.length - (12 + bigOf r)) c2 A5 c5 w5):=by
 have h12:=nxE_ok h
 have hb0 : ∀ ad,Ab = some ad -> ad.block < w.heap.size:=S.bytes.blk (by have:=S.len; omega)
 have hrD:=hD.back S.only (fun _ ad ha=>by obtain ⟨a,h1,h2⟩:=hbD ad ha; rw [h2]; exact hb0 a h1)
 have hrA:=hA2.back S.only (fun _ ad ha=>by obtain ⟨a,h1,h2⟩:=hbA ad ha; rw [h2]; exact hb0 a h1)
 have hdl : ((r.drop 8).take (bigOf r)).length = bigOf r:=by rw [List.length_take,List.length_drop]; omega
 have o5 : Only [] w w5:=(S.only.trans ho (S:=[]) (by simp)).grown hgrow (fun k hk hlt=>by have:=(own_at S.own hk).1; omega)
 have hv : ckvs (ps ++ [Cv.mk (ckOf r) D (bigOf r)]) = ckvs ps ++ [.string ⟨((r.drop 4).take 4).toArray⟩,.slice D (bigOf r) (bigOf r)]:=by
  rw [ckvs_snoc]; unfold ckv ckOf; simp only [hdl]
 have hlen : (ps ++ [Cv.mk (ckOf r) D (bigOf r)]).length = ps.length + 1:=by simp
 have hp : ∀ p ∈ ps ++ [Cv.mk (ckOf r) D (bigOf r)],CvOk w A p:=fun p hp=>by
  rcases List.mem_append.1 hp with hp | hp
  ·exact S.parts p hp
  ·obtain rfl : p = _:=by simpa using hp
   refine ⟨⟨?_,hdl⟩,fun ad' ha=>?_⟩
   ·show Holds w 1 D ((r.drop 8).take (bigOf r)).length (bvals ((r.drop 8).take (bigOf r)))
    rw [hdl]; exact hrD
   ·obtain ⟨ad,h1,h2⟩:=hbD ad' ha
    obtain ⟨ad0,h3,h4⟩:=S.blk ad h1
    exact ⟨ad0,h3,h2.trans h4⟩
 have hmap : (ps ++ [Cv.mk (ckOf r) D (bigOf r)]).map Cv.ck = ps.map Cv.ck ++ [ckOf r]:=by simp
 refine ⟨⟨_,rfl,hmap,by rw [hlen,hv]; exact hown,hp,o5⟩,fun hk=>⟨?_,hrA,by simp,hc2,?_,fun ad' ha=>?_,by rw [hlen,hv]; exact hown,hp,o5⟩⟩
 ·rw [S.ran,cks_more h hk,glue_glue,hmap]
 ·have:=S.few; have:=S.len; rw [hlen]; omega
 ·obtain ⟨ad,h1,h2⟩:=hbA ad' ha
  obtain ⟨ad0,h3,h4⟩:=S.blk ad h1
  exact ⟨ad0,h3,h2.trans h4⟩
def chE (l : List UInt8) : Nat:=if begE l = 0 then (cks (l.drop 8)).1 else begE l
def chL (l : List UInt8) : List Ck:=if begE l = 0 then (cks (l.drop 8)).2 else []
def Splitted (l : List UInt8) (A : Option Addr) (w : World) (e : Ending) (w' : World) : Prop :=
 Only [] w w' /\ ((0 < chE l /\ e = .returned (.tuple #[.slice none 0 0,.int .i64 (chE l : Nat)])) \/
  (chE l = 0 /\ ∃ ps v,e = .returned (.tuple #[v,.int .i64 0]) /\ ps.map Cv.ck = chL l /\ w'.ownsRow w.heap.size 53 2 v ps.length (ckvs ps) /\
    ∀ p ∈ ps,CvOk w A p))
theorem ck_info : (Tryz.prog.info? 53).map (fun i=>(i.zero,i.size,i.bytes)) = some (some (.agg #[.string ⟨#[]⟩,.slice none 0 0]),2,40):=by kernel_rfl
set_option maxRecDepth 100000 in
set_option maxHeartbeats 8000000 in
theorem split_any (A : Option Addr) (n c : Nat) (l : List UInt8) (w : World) (hb : Holds w 1 A n (bvals l)) (hl : l.length = n) (hc : n <= c) (hn : n <= 1000000000) :
 Calls Tryz.prog 50 #[.slice A n c] w (Splitted l A w):=by
 obtain ⟨i0,hi0,hz0,hz1,hz2⟩:=info_of ck_info
 have HB:=hide (begin_any A n c l w hb hl hc hn)
 have HL:=hide (aI hl (aI hc hn))
 clear hb hl hc hn
 go_enter Tryz.func50,Tryz.ntmps50
 go_wp2_with fail
 refine (HB.out).mono ?_
 rintro e w1 ⟨rfl,(⟨h1,rfl⟩ | ⟨h1,h8,A',c',rfl,hH,hcc,hbk⟩)⟩
 ·have h1' : ¬ ((begE l : Nat) : Int) = 0:=by omega
  have HE:=hide (show chE l = begE l by unfold chE; rw [if_neg (by omega)])
  have H1:=hide h1
  clear h1 HB
  go_wp2_with fail
  go_ret2
  exact ⟨Only.refl _ _,.inl ⟨by rw [HE.out]; exact H1.out,by rw [HE.out]; rfl⟩⟩
 ·have hE : chE l = (cks (l.drop 8)).1:=by unfold chE; rw [if_pos h1]
  have hL : chL l = (cks (l.drop 8)).2:=by unfold chL; rw [if_pos h1]
  have S0 : SpSt w1 A (l.drop 8) [] (l.drop 8) A' (l.length - 8) c' none 0 w1:=⟨(glue_nil _ (by
   by_cases h : (cks (l.drop 8)).1 = 0
   ·exact .inl h
   ·exact .inr (cks_none h))).symm,hH,by simp,hcc,by have:=HL.out; simp; omega,hbk,World.ownsRow_nil _ _ _ _,by simp,Only.refl _ _⟩
  have HS:=hide (aI S0 (aI hE hL))
  clear h1 h8 hH hcc hbk hE hL S0 HB
  go_wp2_with fail
  go_loopw [0,5] (fun vb vl wr=>∃ ps r Ab nb cb Al cl,vb = .slice Ab nb cb /\ vl = .slice Al (List.length ps) cl /\ SpSt w1 A (l.drop 8) ps r Ab nb cb Al cl wr) (fun vb _ _=>fiSlen vb)
  case atStart=>exact ⟨[],_,_,_,_,_,_,rfl,rfl,HS.out.1⟩
  case round =>
   obtain ⟨ps,r,Ab,nb,cb,Al,cl,rfl,rfl,S⟩:=hrel
   have HN:=hide (next_any Ab nb cb r wr (S.bytes.keep S.only (by simp)) S.len S.cap (by have:=S.few; omega))
   have HS2:=hide S
   clear S
   go_wp2_with fail
   refine (HN.out).mono ?_
   rintro e w2 ⟨ho2,(⟨h2,rfl⟩ | ⟨h2,h12,D,A2,c2,rfl,hD,hA2,hc2,hbD,hb2⟩)⟩
   ·have h2' : ¬ ((nxE r : Nat) : Int) = 0:=by omega
    have H2:=hide (aI h2 ho2)
    clear h2 ho2 HN
    unfold noChunk
    go_wp2_with fail
    go_ret2
    refine ⟨HS2.out.only.trans (H2.out.2.alloc _) (by simp),.inl ?_⟩
    have e1 : chE l = nxE r:=by rw [HS.out.2.1,HS2.out.ran,cks_bad (by have:=H2.out.1; omega)]; unfold glue; rw [if_neg (by have:=H2.out.1; simp; omega)]
    rw [e1]
    exact ⟨H2.out.1,rfl⟩
   ·have H2:=hide (aI ho2 (aI hD (aI hA2 (aI hc2 (aI hbD hb2)))))
    have HN2:=hide (aI h2 h12)
    clear ho2 hD hA2 hc2 hbD hb2 HN h2 h12
    have W3 : ∃ w3,w3 = (w2.alloc (.cells #[.string ⟨((r.drop 4).take 4).toArray⟩,.slice D (bigOf r) (bigOf r)] 53)).alloc (.cells #[.string ⟨((r.drop 4).take 4).toArray⟩,.slice D (bigOf r) (bigOf r)] 53):=⟨_,rfl⟩
    have hlit : Holds ((w2.alloc (.cells #[.string ⟨((r.drop 4).take 4).toArray⟩,.slice D (bigOf r) (bigOf r)] 53)).alloc (.cells #[.string ⟨((r.drop 4).take 4).toArray⟩,.slice D (bigOf r) (bigOf r)] 53)) 2 (some ⟨w2.heap.size + 1,0,none⟩) 1 [.string ⟨((r.drop 4).take 4).toArray⟩,.slice D (bigOf r) (bigOf r)]:=by
     refine ⟨rfl,fun _=>⟨_,rfl,by simp,fun j u hu=>?_⟩⟩
     have:=Has.cell (Has.new (w2.alloc (.cells #[.string ⟨((r.drop 4).take 4).toArray⟩,.slice D (bigOf r) (bigOf r)] 53)) 53 #[.string ⟨((r.drop 4).take 4).toArray⟩,.slice D (bigOf r) (bigOf r)]) j
     rw [World.size_alloc] at this
     rw [add_zero_of,this,List.getElem?_toArray]
     exact hu
    have hbox : Has ((w2.alloc (.cells #[.string ⟨((r.drop 4).take 4).toArray⟩,.slice D (bigOf r) (bigOf r)] 53)).alloc (.cells #[.string ⟨((r.drop 4).take 4).toArray⟩,.slice D (bigOf r) (bigOf r)] 53)) w2.heap.size 53 #[.string ⟨((r.drop 4).take 4).toArray⟩,.slice D (bigOf r) (bigOf r)]:=(Has.new w2 _ _).alloc _
    have ho3 : Only [] wr ((w2.alloc (.cells #[.string ⟨((r.drop 4).take 4).toArray⟩,.slice D (bigOf r) (bigOf r)] 53)).alloc (.cells #[.string ⟨((r.drop 4).take 4).toArray⟩,.slice D (bigOf r) (bigOf r)] 53)):=(H2.out.1.alloc _).alloc _
    have how:=own_keep HS2.out.own ho3 (by simp)
    have hbase : w1.heap.size <= ((w2.alloc (.cells #[.string ⟨((r.drop 4).take 4).toArray⟩,.slice D (bigOf r) (bigOf r)] 53)).alloc (.cells #[.string ⟨((r.drop 4).take 4).toArray⟩,.slice D (bigOf r) (bigOf r)] 53)).heap.size:=Nat.le_trans HS2.out.only.size ho3.size
    have H3:=hide (aI hlit (aI hbox (aI ho3 (aI how hbase))))
    have hfw:=hide HS2.out.few
    clear hlit hbox ho3 how hbase W3
    go_wp2_with (at_builtin; refine list_append _ rfl (.tmp 26) (.tmp 28) 90 rfl w1.heap.size 2 40 Tryz.underlying90 hi0 hz0 hz1 hz2 rfl (by omega) H3.out.2.2.2.1 rfl H3.out.1 rfl (by simp [Value.oneCell']) (by have:=hfw.out; omega) (by omega) H3.out.2.2.2.2 ?_; intro A5 c5 w5 hown hgrow hat; have hh:=H3.out.2.1.grown hgrow (fun e=>by have:=(own_at HS2.out.own e.symm).2; have:=H2.out.1.size; omega); have d0:=hh.cell 0; simp only [List.getElem?_toArray,List.getElem?_cons_zero] at d0; have H5:=hide (aI hown hgrow); clear hown hgrow hat hh)
    all_goals
     rename_i hkb
     have hP:=HS2.out.push HN2.out.1 H3.out.2.2.1 H2.out.2.1 H2.out.2.2.1 H2.out.2.2.2.2.1 H2.out.2.2.2.2.2 H2.out.2.2.2.1 H5.out.1 H5.out.2
     first
      | (have hk : (ckOf r).k = iend:=by simpa [ckOf,iend] using hkb
         obtain ⟨⟨v,rfl,h1,h2,h3,h4⟩,_⟩:=hP
         go_ret2
         have e0 : cks (l.drop 8) = (0,ps.map Cv.ck ++ [ckOf r]):=by rw [HS2.out.ran,cks_end HN2.out.1 hk]; rfl
         refine ⟨h4,.inr ⟨by rw [HS.out.2.1,e0],ps ++ [Cv.mk (ckOf r) D (bigOf r)],_,rfl,by rw [HS.out.2.2,e0,h1],h2,h3⟩⟩)
      | (have hk : (ckOf r).k ≠ iend:=by simpa [ckOf,iend] using hkb
         refine ⟨⟨ps ++ [Cv.mk (ckOf r) D (bigOf r)],_,_,_,_,_,_,rfl,by simp,hP.2 hk⟩,?_⟩
         have h9:=HS2.out.len
         have h10:=HN2.out.2
         show r.length - (12 + bigOf r) < nb
         omega)
theorem ckvs_len (ps : List Cv) : (ckvs ps).length = ps.length * 2:=by
 induction ps with
 | nil=>rfl
 | cons p ps ih=>show (ckv p ++ ckvs ps).length = _; rw [List.length_append,ih]; simp [ckv]; omega
theorem ckvs_get (ps : List Cv) (i : Nat) (h : i < ps.length) : (ckvs ps)[i * 2]? = some (.string ⟨ps[i].ck.k.toArray⟩) /\ (ckvs ps)[i * 2 + 1]? = some (.slice ps[i].A ps[i].ck.d.length ps[i].c):=by
 induction ps generalizing i with
 | nil=>simp at h
 | cons p ps ih =>
   show (ckv p ++ ckvs ps)[i * 2]? = _ /\ (ckv p ++ ckvs ps)[i * 2 + 1]? = _
   cases i with
   | zero=>exact ⟨rfl,rfl⟩
   | succ i =>
     have:=ih i (by simpa using h)
     rw [show (i + 1) * 2 = (ckv p).length + i * 2 by simp [ckv]; omega,show (ckv p).length + i * 2 + 1 = (ckv p).length + (i * 2 + 1) by omega,List.getElem?_append_right (by omega),List.getElem?_append_right (by omega),Nat.add_sub_cancel_left,Nat.add_sub_cancel_left]
     exact this
def CvHas (w : World) (p : Cv) : Prop:=Holds w 1 p.A p.ck.d.length (bvals p.ck.d) /\ p.ck.d.length <= p.c /\ (p.A = none -> p.c = 0)
theorem CvHas.only {w w' : World} {p : Cv} {S : List Nat} (h : CvHas w p) (ho : Only S w w') (hS : 0 < p.ck.d.length -> ∀ ad,p.A = some ad -> ad.block < w.heap.size -> ad.block ∉ S) : CvHas w' p:=⟨h.1.keepPos ho hS,h.2⟩
theorem sum_len (cs : List Ck) : cs.length <= (cs.map fun c=>c.d.length + 12).sum:=by
 induction cs with
 | nil=>simp
 | cons a cs ih=>simp at ih ⊢; omega
def chkV (W H d c l : Int) : Nat:=if pgSide W = true /\ pgSide H = true then (if pgMay c d = true /\ (l = 0 \/ l = 1) then 0 else 8) else 1
set_option maxRecDepth 100000 in
theorem pCheck_any (W H d c l : Int) (w : World) : Calls Tryz.prog 68 #[.agg #[.int .i64 W,.int .i64 H,.int .i64 d,.int .i64 c,.int .i64 l]] w fun e w'=>e = .returned (.int .i64 (chkV W H d c l : Nat)) /\ Only [] w w':=by
 have hs1:=hide (fun w=>pSide_any W w)
 have hs2:=hide (fun w=>pSide_any H w)
 have hm:=hide (fun w=>pMay_any c d w)
 unfold chkV
 generalize pgSide W = a at *
 generalize pgSide H = b at *
 generalize pgMay c d = y at *
 cases a
 ·rw [if_neg (by simp)]
  go_enter Tryz.func68,Tryz.ntmps68
  go_wp2_with first | (go_at_call 113; refine ((hs1.out) _).mono ?_; rintro e w' ⟨rfl,rfl⟩)
  go_ret
  exact ⟨rfl,Only.alloc (Only.refl _ _) _⟩
 cases b
 ·rw [if_neg (by simp)]
  go_enter Tryz.func68,Tryz.ntmps68
  go_wp2_with first | (go_at_call 113; refine ((hs1.out) _).mono ?_; clear hs1; rintro e w' ⟨rfl,rfl⟩) | (go_at_call 113; refine ((hs2.out) _).mono ?_; rintro e w' ⟨rfl,rfl⟩)
  go_ret
  exact ⟨rfl,Only.alloc (Only.refl _ _) _⟩
 rw [if_pos ⟨rfl,rfl⟩]
 cases y
 ·rw [if_neg (by simp)]
  go_enter Tryz.func68,Tryz.ntmps68
  go_wp2_with first | (go_at_call 113; refine ((hs1.out) _).mono ?_; clear hs1; rintro e w' ⟨rfl,rfl⟩) | (go_at_call 113; refine ((hs2.out) _).mono ?_; rintro e w' ⟨rfl,rfl⟩) | (go_at_call 114; refine ((hm.out) _).mono ?_; rintro e w' ⟨rfl,rfl⟩)
  go_ret
  exact ⟨rfl,Only.alloc (Only.refl _ _) _⟩
 by_cases h0 : l = 0
 ·rw [if_pos ⟨rfl,.inl h0⟩]
  subst h0
  go_enter Tryz.func68,Tryz.ntmps68
  go_wp2_with first | (go_at_call 113; refine ((hs1.out) _).mono ?_; clear hs1; rintro e w' ⟨rfl,rfl⟩) | (go_at_call 113; refine ((hs2.out) _).mono ?_; rintro e w' ⟨rfl,rfl⟩) | (go_at_call 114; refine ((hm.out) _).mono ?_; rintro e w' ⟨rfl,rfl⟩)
  go_ret
  exact ⟨rfl,Only.alloc (Only.refl _ _) _⟩
 by_cases h1 : l = 1
 ·rw [if_pos ⟨rfl,.inr h1⟩]
  subst h1
  clear h0
  go_enter Tryz.func68,Tryz.ntmps68
  go_wp2_with first | (go_at_call 113; refine ((hs1.out) _).mono ?_; clear hs1; rintro e w' ⟨rfl,rfl⟩) | (go_at_call 113; refine ((hs2.out) _).mono ?_; rintro e w' ⟨rfl,rfl⟩) | (go_at_call 114; refine ((hm.out) _).mono ?_; rintro e w' ⟨rfl,rfl⟩)
  go_ret
  exact ⟨rfl,Only.alloc (Only.refl _ _) _⟩
 rw [if_neg (fun h=>h.2.elim h0 h1)]
 have e0 : (l != 0) = true:=by simp [h0]
 have e1 : (l != 1) = true:=by simp [h1]
 go_enter Tryz.func68,Tryz.ntmps68
 go_wp2_with first | (go_at_call 113; refine ((hs1.out) _).mono ?_; clear hs1; rintro e w' ⟨rfl,rfl⟩) | (go_at_call 113; refine ((hs2.out) _).mono ?_; rintro e w' ⟨rfl,rfl⟩) | (go_at_call 114; refine ((hm.out) _).mono ?_; rintro e w' ⟨rfl,rfl⟩)
 go_ret
 exact ⟨rfl,Only.alloc (Only.refl _ _) _⟩
end Go.Proofs.YtjfjmkkkbcgohaaGreatDoor
