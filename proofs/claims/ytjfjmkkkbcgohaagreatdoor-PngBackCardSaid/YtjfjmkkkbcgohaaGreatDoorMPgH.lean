import Derived.Test.YtjfjmkkkbcgohaaGreatDoorMPgD
import Derived.Test.YtjfjmkkkbcgohaaGreatDoorMSumM
import Derived.Laws.ResultCell
namespace Go.Proofs.YtjfjmkkkbcgohaaGreatDoor
open Go Go.RowKit
theorem results_cell_three {fn : Func} {p u v : Tmp} {ty : TypeId} (h : fn.results = #[.cell p ty,.tmp u,.tmp v]) (tmps : Array Value) (P : Program) (w : World) :
 (results fn tmps).run P w =
   ((asAddr (tmps.getD p undef)).run P w).andThen fun a w1=>((loadVar ty a).run P w1).andThen fun x w2=>.ok (.tuple #[x,tmps.getD u undef,tmps.getD v undef]) w2:=by
 simp only [results,h]
 simp [Sem.run_bind,Result.andThen]
theorem results_row_three {P : Program} {fn : Func} {p u v : Tmp} {ty : TypeId} (h : fn.results = #[.cell p ty,.tmp u,.tmp v]) (tmps : Array Value) (w : World) (g : Nat) (t : TypeId) (cs : Array Value) (d : TypeDesc)
 (hp : tmps.getD p undef = .pointer (some ⟨g,0,none⟩)) (hg : Has w g t cs)
 (hu : P.underlying ty = some d) (hd : (match d with | .struct _ | .array _ _=>true | _=>false) = true) (hi : (P.info? ty).map (·.size) = some cs.size) :
 (results fn tmps).run P w = .ok (.tuple #[.agg cs,tmps.getD u undef,tmps.getD v undef]) w:=by
 rw [results_cell_three h,hp]
 simp [asAddr,Result.andThen,run_loadVar_row w g t ty cs (0,0) d hg hu hd hi]
def crcW (l : List UInt8) : Nat:=4294967295 - crcList 4294967295 l
def nxE (l : List UInt8) : Nat :=
 if l.length < 4 then 2 else if 2147483647 < bigOf l then 3 else if l.length < 8 then 2 else if ((l.drop 4).take 4).all lettB = false then 3 else if l.length < 12 + bigOf l then 2
 else if crcW ((l.drop 4).take (4 + bigOf l)) = bigOf (l.drop (8 + bigOf l)) then 0 else 4
def noChunk : Array Value:=#[.string ⟨#[]⟩,.slice none 0 0]
theorem noChunk_one : noChunk.all (·.oneCell') = true:=by simp [noChunk,Value.oneCell']
def Nexted (l : List UInt8) (A : Option Addr) (w : World) (e : Ending) (w' : World) : Prop :=
 Only [] w w' /\ ((0 < nxE l /\ e = .returned (.tuple #[.agg noChunk,.slice none 0 0,.int .i64 (nxE l : Nat)])) \/
  (nxE l = 0 /\ 12 + bigOf l <= l.length /\ ∃ D A' c',e = .returned (.tuple #[.agg #[.string ⟨((l.drop 4).take 4).toArray⟩,.slice D (bigOf l) (bigOf l)],.slice A' (l.length - (12 + bigOf l)) c',.int .i64 0]) /\
    Holds w 1 D (bigOf l) (bvals ((l.drop 8).take (bigOf l))) /\ Holds w 1 A' (l.length - (12 + bigOf l)) (bvals (l.drop (12 + bigOf l))) /\ l.length - (12 + bigOf l) <= c' /\
    (∀ ad',D = some ad' -> ∃ ad,A = some ad /\ ad'.block = ad.block) /\ (∀ ad',A' = some ad' -> ∃ ad,A = some ad /\ ad'.block = ad.block)))
set_option maxRecDepth 100000 in
set_option maxHeartbeats 4000000 in
theorem next_few (A : Option Addr) (n c : Nat) (l : List UInt8) (w : World) (hl : l.length = n) (h4 : n < 4) :
 Calls Tryz.prog 30 #[.slice A n c] w (Nexted l A w):=by
 have he : nxE l = 2:=by unfold nxE; rw [if_pos (by omega)]
 have HE:=hide he
 have h4' : (n : Int) < 4:=by omega
 have hz:=Has.new w 53 noChunk
 have o1 : Only [] w (w.alloc (.cells noChunk 53)):=(Only.refl [] w).alloc _
 have HZ:=hide (aI hz o1)
 clear he hz o1 hl
 unfold noChunk at HZ
 go_enter Tryz.func30,Tryz.ntmps30
 go_wp2_with (refine list_store_row' rfl 53 (.tmp 2) (.tmp 11) rfl w.heap.size noChunk rfl rfl 53 _ HZ.out.1 (by kernel_rfl) rfl noChunk_one ?_; intro w3 hT3 hO3)
 exact bodyPost_ret (results_row_three Tryz.results30 _ _ w.heap.size 53 _ _ rfl hT3 Tryz.underlying53 rfl (by kernel_rfl)) rfl ⟨HZ.out.2.trans hO3 (by intro i hi hlt; simp at hi; omega),.inl ⟨by rw [HE.out]; decide,by rw [HE.out]; rfl⟩⟩
theorem bigOf_lt (l : List UInt8) : bigOf l < 4294967296:=by
 match l with
 | []=>exact Nat.zero_lt_succ _
 | [_]=>exact Nat.zero_lt_succ _
 | [_,_]=>exact Nat.zero_lt_succ _
 | [_,_,_]=>exact Nat.zero_lt_succ _
 | a :: b :: c :: d :: _ =>
   have h1:=a.toNat_lt
   have h2:=b.toNat_lt
   have h3:=c.toNat_lt
   have h4:=d.toNat_lt
   show a.toNat * 16777216 + b.toNat * 65536 + c.toNat * 256 + d.toNat < 4294967296
   omega
structure Nx0 (A : Option Addr) (n c : Nat) (l : List UInt8) (w w1 : World) : Prop where
 row : Has w1 w.heap.size 53 noChunk
 only : Only [] w w1
 bytes : Holds w1 1 A n (bvals l)
theorem Nx0.new {A : Option Addr} {n c : Nat} {l : List UInt8} {w : World} (hb : Holds w 1 A n (bvals l)) : Nx0 A n c l w (w.alloc (.cells noChunk 53)) :=
 ⟨Has.new w 53 noChunk,(Only.refl [] w).alloc _,hb.keep ((Only.refl [] w).alloc _) (by simp)⟩
theorem Nx0.drewN {A : Option Addr} {n c : Nat} {l : List UInt8} {w w1 : World} (h : Nx0 A n c l w w1) (m : Nat) : Nx0 A n c l w (w1.drewN m) :=
 ⟨h.row.drewN m,h.only.drewN m,h.bytes.keep ((Only.refl [] w1).drewN m) (by simp)⟩
theorem Nx0.done {A : Option Addr} {n c : Nat} {l : List UInt8} {w w1 w3 : World} (h : Nx0 A n c l w w1) (ho : Only [w.heap.size] w1 w3) : Only [] w w3 :=
 h.only.trans ho (by intro i hi hlt; simp at hi; omega)
theorem Nx0.big {A : Option Addr} {n c : Nat} {l : List UInt8} {w w1 : World} (h : Nx0 A n c l w w1) (hl : l.length = n) :
 Calls Tryz.prog 66 #[.slice A n c] w1 fun e w'=>e = .returned (.int .u32 (bigOf l : Nat)) /\ Nx0 A n c l w w' :=
 (bitsBig_any A n c l w1 h.bytes hl).mono fun _ _ ⟨he,m,hw⟩=>⟨he,by rw [hw]; exact h.drewN m⟩
set_option maxRecDepth 100000 in
set_option maxHeartbeats 4000000 in
theorem next_wide (A : Option Addr) (n c : Nat) (l : List UInt8) (w : World) (hb : Holds w 1 A n (bvals l)) (hl : l.length = n) (h4 : 4 <= n) (h : 2147483647 < bigOf l) :
 Calls Tryz.prog 30 #[.slice A n c] w (Nexted l A w):=by
 have he : nxE l = 3:=by unfold nxE; rw [if_neg (by omega),if_pos h]
 have HE:=hide he
 have h4' : ¬ (n : Int) < 4:=by omega
 have HZ:=hide (Nx0.new (c:=c) hb)
 have HB:=hide (fun w1 (h : Nx0 A n c l w w1)=>h.big hl)
 have hbl:=bigOf_lt l
 unfold noChunk at HZ
 clear he hb hl h4
 generalize bigOf l = b at h HB hbl
 have h' : (2147483647 : Int) < (b : Int):=by omega
 go_enter Tryz.func30,Tryz.ntmps30
 go_wp2_with fail
 refine (HB.out _ HZ.out).mono ?_
 rintro e w1 ⟨rfl,h1⟩
 have H1:=hide h1
 clear h1 HB
 go_wp2_with (refine list_store_row' rfl 53 (.tmp 2) (.tmp 17) rfl w.heap.size noChunk rfl rfl 53 _ H1.out.row (by kernel_rfl) rfl noChunk_one ?_; intro w3 hT3 hO3)
 exact bodyPost_ret (results_row_three Tryz.results30 _ _ w.heap.size 53 _ _ rfl hT3 Tryz.underlying53 rfl (by kernel_rfl)) rfl ⟨H1.out.done hO3,.inl ⟨by rw [HE.out]; decide,by rw [HE.out]; rfl⟩⟩
set_option maxRecDepth 100000 in
set_option maxHeartbeats 4000000 in
theorem next_kindless (A : Option Addr) (n c : Nat) (l : List UInt8) (w : World) (hb : Holds w 1 A n (bvals l)) (hl : l.length = n) (h4 : 4 <= n) (h : ¬ 2147483647 < bigOf l) (h8 : n < 8) :
 Calls Tryz.prog 30 #[.slice A n c] w (Nexted l A w):=by
 have he : nxE l = 2:=by unfold nxE; rw [if_neg (by omega),if_neg h,if_pos (by omega)]
 have HE:=hide he
 have h4' : ¬ (n : Int) < 4:=by omega
 have HZ:=hide (Nx0.new (c:=c) hb)
 have HB:=hide (fun w1 (h : Nx0 A n c l w w1)=>h.big hl)
 have hbl:=bigOf_lt l
 obtain ⟨b0,o,rfl,_⟩:=hb.addr (by simpa using (show 0 < l.length by omega))
 unfold noChunk at HZ
 clear he hb hl
 generalize bigOf l = b at h HB hbl
 have h' : ¬ (2147483647 : Int) < (b : Int):=by omega
 have h8' : ((n - 4 : Nat) : Int) < 4:=by omega
 go_enter Tryz.func30,Tryz.ntmps30
 go_wp2_with fail
 refine (HB.out _ HZ.out).mono ?_
 rintro e w1 ⟨rfl,h1⟩
 have H1:=hide h1
 clear h1 HB
 go_wp2_with (refine list_store_row' rfl 53 (.tmp 2) (.tmp 23) rfl w.heap.size noChunk rfl rfl 53 _ H1.out.row (by kernel_rfl) rfl noChunk_one ?_; intro w3 hT3 hO3)
 all_goals
  exact bodyPost_ret (results_row_three Tryz.results30 _ _ w.heap.size 53 _ _ rfl hT3 Tryz.underlying53 rfl (by kernel_rfl)) rfl ⟨H1.out.done hO3,.inl ⟨by rw [HE.out]; decide,by rw [HE.out]; rfl⟩⟩
set_option maxRecDepth 100000 in
set_option maxHeartbeats 4000000 in
theorem next_wrong (A : Option Addr) (n c : Nat) (l : List UInt8) (w : World) (hb : Holds w 1 A n (bvals l)) (hl : l.length = n) (hc : n <= c) (h : ¬ 2147483647 < bigOf l) (h8 : 8 <= n) (hk : ((l.drop 4).take 4).all lettB = false) :
 Calls Tryz.prog 30 #[.slice A n c] w (Nexted l A w):=by
 have he : nxE l = 3:=by unfold nxE; rw [if_neg (by omega),if_neg h,if_neg (by omega),if_pos hk]
 have HE:=hide he
 have h4' : ¬ (n : Int) < 4:=by omega
 have HZ:=hide (Nx0.new (c:=c) hb)
 have HB:=hide (fun w1 (h : Nx0 A n c l w w1)=>h.big hl)
 have hbl:=bigOf_lt l
 obtain ⟨b0,o,rfl,_⟩:=hb.addr (by simpa using (show 0 < l.length by omega))
 have HL:=hide (fun (w1 : World) (h : Nx0 (some ⟨b0,o,none⟩) n c l w w1)=>by
  have h1:=(h.bytes.cut (f:=4) (m:=4) (by omega))
  rw [Nat.mul_one,<- bvals_drop,<- bvals_take] at h1
  have:=letters_any (some ⟨b0,o + 4,none⟩) 4 (c - 4) ((l.drop 4).take 4) w1 h1 (by simp; omega) (by omega)
  rw [hk] at this
  exact this)
 unfold noChunk at HZ
 clear he hb hl hk
 generalize bigOf l = b at h HB hbl
 have h' : ¬ (2147483647 : Int) < (b : Int):=by omega
 have h8' : ¬ ((n - 4 : Nat) : Int) < 4:=by omega
 have hc4 : ¬ c = 4:=by omega
 go_enter Tryz.func30,Tryz.ntmps30
 go_wp2_with fail
 refine (HB.out _ HZ.out).mono ?_
 rintro e w1 ⟨rfl,h1⟩
 have H1:=hide h1
 clear h1 HB
 go_wp2_with fail
 refine (HL.out _ H1.out).mono ?_
 rintro e w2 ⟨rfl,rfl⟩
 clear HL
 go_wp2_with (refine list_store_row' rfl 53 (.tmp 2) (.tmp 28) rfl w.heap.size noChunk rfl rfl 53 _ H1.out.row (by kernel_rfl) rfl noChunk_one ?_; intro w3 hT3 hO3)
 exact bodyPost_ret (results_row_three Tryz.results30 _ _ w.heap.size 53 _ _ rfl hT3 Tryz.underlying53 rfl (by kernel_rfl)) rfl ⟨H1.out.done hO3,.inl ⟨by rw [HE.out]; decide,by rw [HE.out]; rfl⟩⟩
end Go.Proofs.YtjfjmkkkbcgohaaGreatDoor
