import Derived.Test.YtjfjmkkkbcgohaaGreatDoorMPgY
import Derived.Test.YtjfjmkkkbcgohaaGreatDoorMFrmW
import Derived.Laws.EntriesVeiled
namespace Go.Proofs.YtjfjmkkkbcgohaaGreatDoor
open Go Go.RowKit Go.Shelf
attribute [local go_sem] Oper.semAt_some
theorem own_cellsOf {w : World} {B e size n b : Nat} {v : Value} {xs : List Value} (h : w.ownsRow B e size v n xs) (hb : v.ownBlock = some b) : ∃ cs,Has w b e cs:=by
 rcases h.2 with ⟨hv,_⟩ | ⟨g,cap,cur,hv,_,hg,_⟩
 ·rw [hv] at hb; simp [Value.ownBlock] at hb
 ·rw [hv] at hb
  obtain rfl : g = b:=by simpa [Value.ownBlock] using hb
  exact ⟨cur,hg⟩
theorem cells_of_cell {w : World} {p : Addr} {u : Value} (h : w.cell? p = some u) : ∃ o,w.heap[p.block]? = some o /\ o.isCells = true:=by
 unfold World.cell? at h
 split at h
 ·rename_i c e m hh
  exact ⟨_,hh,rfl⟩
 ·cases h
theorem holds_cells {w : World} {n : Nat} {A : Option Addr} {xs : List Value} (h : Holds w 1 A n xs) (hn : 0 < n) : ∀ ad,A = some ad -> ∃ o,w.heap[ad.block]? = some o /\ o.isCells = true:=fun ad ha=>by
 obtain ⟨b,o,rfl,hc⟩:=h.addr (by rw [h.1]; omega)
 injection ha with ha
 subst ha
 have hlt : 0 < xs.length:=by rw [h.1]; omega
 have:=hc 0 xs[0] (List.getElem?_eq_getElem hlt)
 exact cells_of_cell this
theorem has_row {B g : Nat} {t : TypeId} {cs : Array Value} {X Y : World} {row : Option Nat} (h : Has X g t cs) (hg : X.grownBy Y row) (hr : ∀ r,row = some r -> B <= r /\ ∃ o : Obj,X.heap[r]? = some o /\ o.isCells = false) : Has Y g t cs:=ownFrom_has (fun _ : Unit=>g) (fun _=>t) (fun _=>cs) () X Y row h hg hr
theorem ownFrom_row {β : Type} {B : Nat} (B0 e size : Nat) (v : β -> Value) (n : β -> Nat) (xs : β -> List Value) : OwnFrom B (fun (s : β) W=>W.ownsRow B0 e size (v s) (n s) (xs s)):=fun s X Y row hs hg hr =>
 own_keep hs (only_of_grown hg) fun b hb hm=>by
  obtain ⟨cs,hc⟩:=own_cellsOf hs hb
  have hm : row = some b:=by simpa using hm
  obtain ⟨_,o,ho,h2⟩:=hr b hm
  unfold Has at hc
  rw [hc] at ho
  injection ho with ho
  subst ho
  cases h2
theorem ownFrom_holds {β : Type} {B : Nat} (A : β -> Option Addr) (n : β -> Nat) (xs : β -> List Value) : OwnFrom B (fun (s : β) W=>Holds W 1 (A s) (n s) (xs s)):=fun s X Y row hs hg hr =>
 Holds.keepPos hs (only_of_grown hg) fun hn ad ha _ hm=>by
  obtain ⟨o,ho,h1⟩:=holds_cells hs hn ad ha
  have hm : row = some ad.block:=by simpa using hm
  obtain ⟨_,o',ho',h2⟩:=hr _ hm
  rw [ho] at ho'
  injection ho' with ho'
  subst ho'
  rw [h1] at h2
  cases h2
theorem ownFrom_box {Z : List Nat} {B ga gm gk gh : Nat} {W H kind l : Int} {A : Addr} {n c : Nat} : OwnFrom B (fun (al : List UInt8) X=>DoBox Z ga gm gk gh W H kind l A n c al X):=fun s X Y row hs hg hr =>
 ⟨by
   obtain ⟨Aa,ca,h1,h2,h3⟩:=hs.ahead
   exact ⟨Aa,ca,has_row h1 hg hr,ownFrom_holds (fun _ : Unit=>Aa) (fun _=>s.length) (fun _=>bvals s) () X Y row h2 hg hr,h3⟩,
  has_row hs.mat hg hr,has_row hs.kind hg hr,has_row hs.head hg hr⟩
theorem has_ne {X : World} {a b : Nat} {t t' : TypeId} {cs cs' : Array Value} (h : Has X a t cs) (h' : Has X b t' cs') (hne : t ≠ t') : a ≠ b:=fun e=>by
 subst e
 unfold Has at h h'
 rw [h] at h'
 injection h' with h'
 injection h' with _ h'
 exact hne h'
theorem DoBox.keep0 {Z : List Nat} {ga gm gk gh : Nat} {W H kind l : Int} {A : Addr} {n c : Nat} {al : List UInt8} {X Y : World} (h : DoBox Z ga gm gk gh W H kind l A n c al X) (ho : Only [] X Y) : DoBox Z ga gm gk gh W H kind l A n c al Y :=
 ⟨by
   obtain ⟨Aa,ca,h1,h2,h3⟩:=h.ahead
   exact ⟨Aa,ca,h1.only ho (by simp),h2.keep ho (by simp),h3⟩,h.mat.only ho (by simp),h.kind.only ho (by simp),h.head.only ho (by simp)⟩
def fsDo (Z : List Nat) (B ga gm gk gh : Nat) (W H kind l : Int) (A : Addr) (n c : Nat) (z : List UInt8 × List UInt8) : FS:=⟨fun v=>∃ Av cv,v = .slice Av z.1.length cv,fun v w=>∀ Av cv,v = .slice Av z.1.length cv -> w.ownsRow B 5 1 (.slice Av z.1.length cv) z.1.length (bvals z.1) /\ DoBox Z ga gm gk gh W H kind l A n c z.2 w,blkOf⟩
theorem fsDo_keep {Z : List Nat} {B ga gm gk gh : Nat} {W H kind l : Int} {A : Addr} {n c : Nat} {z : List UInt8 × List UInt8} (v : Value) (w w' : World) (T : List Nat) (ho : Only T w w') (hT : ∀ k,k ∉ T) (h : (fsDo Z B ga gm gk gh W H kind l A n c z).fact v w) : (fsDo Z B ga gm gk gh W H kind l A n c z).fact v w':=fun Av cv he=>by
 have hT : T = []:=List.eq_nil_iff_forall_not_mem.2 hT
 subst hT
 exact ⟨own_keep (h Av cv he).1 ho (by simp),(h Av cv he).2.keep0 ho⟩
def EncFr (g7 g8 g9 Bx : Nat) (a : Act) : Prop:=∃ u0 u1 u2 u3 u4 u5 u6 u11 u12 u13 u14 u15 u16 u17 u18 u19 u20 u21 u22 u23 u24 u25 u26 u27 u28 u29 u30 u31 u32 u33 u34 u35 u36 u37 u38 u39 u40 u41 u42 u43 u44 u45 u46 u47 u48 u49 u50 u51 u52 u53 u54 u55 : Value,a = { tmps:=#[u0,u1,u2,u3,u4,u5,u6,.pointer (some ⟨g7,0,none⟩),.pointer (some ⟨g8,0,none⟩),.pointer (some ⟨g9,0,none⟩),.pointer (some ⟨Bx,0,none⟩),u11,u12,u13,u14,u15,u16,u17,u18,u19,u20,u21,u22,u23,u24,u25,u26,u27,u28,u29,u30,u31,u32,u33,u34,u35,u36,u37,u38,u39,u40,u41,u42,u43,u44,u45,u46,u47,u48,u49,u50,u51,u52,u53,u54,u55],defers:=[] }
structure EnI (w : World) (W H : Nat) (q : Nat) (A : Addr) (n c : Nat) (M : List UInt8) (l : Int) (g7 g8 g9 ga gm gk gh : Nat) (rs : List Rw) (X : World) : Prop where
 raw : ∃ Ar cr,Has X g8 22 #[.slice Ar (doL q M W rs).1.length cr] /\ X.ownsRow w.heap.size 5 1 (.slice Ar (doL q M W rs).1.length cr) (doL q M W rs).1.length (bvals (doL q M W rs).1) /\ DoBox (g8 :: (Value.slice Ar (doL q M W rs).1.length cr).ownBlock.toList) ga gm gk gh W H q l A n c (doL q M W rs).2 X
 fn : Has X g9 41 #[.func (.func 34) #[] #[.pointer (some ⟨ga,0,none⟩),.pointer (some ⟨gm,0,none⟩),.pointer (some ⟨gk,0,none⟩),.pointer (some ⟨gh,0,none⟩)]]
 head : Has X g7 36 #[.int .i64 W,.int .i64 H,.int .i64 8,.int .i64 6,.int .i64 l]
 only : Only [] w X
theorem ownFrom_enI {w : World} {B : Nat} (hB : w.heap.size <= B) {W H q : Nat} {A : Addr} {n c : Nat} {M : List UInt8} {l : Int} {g7 g8 g9 ga gm gk gh : Nat} : OwnFrom B (EnI w W H q A n c M l g7 g8 g9 ga gm gk gh):=fun s X Y row hs hg hr =>
 ⟨by
   obtain ⟨Ar,cr,h1,h2,h3⟩:=hs.raw
   exact ⟨Ar,cr,has_row h1 hg hr,ownFrom_row (β:=Unit) _ _ _ (fun _=>.slice Ar (doL q M W s).1.length cr) (fun _=>(doL q M W s).1.length) (fun _=>bvals (doL q M W s).1) () X Y row h2 hg hr,ownFrom_box _ X Y row h3 hg hr⟩,
  has_row hs.fn hg hr,has_row hs.head hg hr,ownFrom_only (β:=Unit) hB () X Y row hs.only hg hr⟩
theorem enI_call {w : World} {W H q : Nat} {A : Addr} {n c : Nat} {M : List UInt8} {l : Int} {g7 g8 g9 ga gm gk gh : Nat} {pre : List Rw} {x : Rw} {X : World} (S : EnI w W H q A n c M l g7 g8 g9 ga gm gk gh pre X)
 (hpre : pre ++ [x] <+: rowsL W H l) (HB : Hid (Holds w 1 (some A) n (bvals M) /\ M.length = n /\ n = 4 * (W * H) /\ n <= c /\ (1 <= W /\ W <= 64) /\ (1 <= H /\ H <= 64) /\ q <= 4)) (hnw : w.heap.size <= ga) :
 ∃ (s z : List UInt8 × List UInt8) (Ar : Option Addr) (cr : Nat) (Z : List Nat),Z = g8 :: (Value.slice Ar s.1.length cr).ownBlock.toList /\ s = doL q M W pre /\ doL q M W (pre ++ [x]) = (s.1 ++ z.1,z.2) /\ s.1.length + z.1.length <= 200000 /\ Has X g8 22 #[.slice Ar s.1.length cr] /\ X.ownsRow w.heap.size 5 1 (.slice Ar s.1.length cr) s.1.length (bvals s.1) /\ DoBox Z ga gm gk gh W H q l A n c s.2 X /\
   ∀ X1,Only [] X X1 -> Calls Tryz.prog 34 #[x.val,.pointer (some ⟨ga,0,none⟩),.pointer (some ⟨gm,0,none⟩),.pointer (some ⟨gk,0,none⟩),.pointer (some ⟨gh,0,none⟩)] X1 fun e w' =>
     ∃ Av cv,e = .returned (.slice Av z.1.length cv) /\ w'.ownsRow X1.heap.size 5 1 (.slice Av z.1.length cv) z.1.length (bvals z.1) /\ DoBox Z ga gm gk gh W H q l A n c z.2 w' /\ Only [ga] X1 w':=by
 have hxr : x ∈ rowsL W H l:=hpre.subset (by simp)
 have hok:=rows_ok W H l x hxr
 have hsm:=doL_small q M W H l (by have:=HB.out.2.2.2.2.1; omega) (by have:=HB.out.2.2.2.2.2.1; omega) pre ((List.prefix_append pre [x]).trans hpre)
 have hsn:=doL_snoc q M W pre x
 unfold doG at hsn
 obtain ⟨s,hs⟩ : ∃ s,s = doL q M W pre:=⟨_,rfl⟩
 obtain ⟨z,hz⟩ : ∃ z,z = doStep q (pickL M x W x.w.toNat) s.2 x.y:=⟨_,rfl⟩
 have hzl : z.1.length <= 1 + 256:=by
  have h1:=doStep_len q (pickL M x W x.w.toNat) s.2 x.y
  have h2:=pickL_le M x W x.w.toNat
  have h3:=rows_wide W H l 64 (by have:=HB.out.2.2.2.2.1; omega) x hxr
  rw [<- hz] at h1
  omega
 rw [<- hs] at hsm hsn
 rw [<- hz] at hsn
 obtain ⟨Ar,cr,hraw,hown,hbox⟩:=S.raw
 rw [<- hs] at hraw hown hbox
 have hbX : Holds X 1 (some A) n (bvals M):=HB.out.1.keep S.only (by simp)
 have hAg : 0 < n -> A.block ≠ ga:=fun h0=>by have:=HB.out.1.blk h0 A rfl; omega
 have hnee : ga ≠ gm /\ ga ≠ gk /\ ga ≠ gh:=by
  obtain ⟨Aa,ca,h1,_,_⟩:=hbox.ahead
  exact ⟨has_ne h1 hbox.mat (by decide),has_ne h1 hbox.kind (by decide),has_ne h1 hbox.head (by decide)⟩
 have hZ : ∀ k ∈ g8 :: (Value.slice Ar s.1.length cr).ownBlock.toList,k < X.heap.size:=fun k hk=>by
  rcases List.mem_cons.1 hk with rfl | hk
  ·exact hraw.lt
  ·exact (own_at hown (by simpa using hk)).2
 refine ⟨s,z,Ar,cr,_,rfl,hs,hsn,by omega,hraw,hown,hbox,fun X1 hx1=>?_⟩
 have hnn : (n : Int) = 4 * ((W : Int) * (H : Int)):=by have:=HB.out.2.2.1; rw [this]; push_cast; rfl
 have hW2 : (W : Int) <= 16384:=by have:=HB.out.2.2.2.2.1; omega
 have hH2 : (H : Int) <= 16384:=by have:=HB.out.2.2.2.2.2.1; omega
 have:=doIt_any _ x ga gm gk gh W H l q A n c M s.2 X1 hok hW2 hH2 HB.out.2.2.2.2.2.2 (hbX.keep hx1 (by simp)) HB.out.2.1 hnn HB.out.2.2.2.1 (by omega) hAg (hbox.keep0 hx1) hnee (fun k hk=>Nat.lt_of_lt_of_le (hZ k hk) hx1.size)
 rw [<- hz] at this
 exact this
theorem DoBox.grown {Z : List Nat} {ga gm gk gh : Nat} {W H kind l : Int} {A : Addr} {n c : Nat} {al : List UInt8} {X Y : World} (h : DoBox Z ga gm gk gh W H kind l A n c al X) {B n1 c1 : Nat} {A1 : Option Addr} {xs : List Value}
 (hown : X.ownsRow B 5 1 (.slice A1 n1 c1) n1 xs) (hg : X.grownBy Y (Value.slice A1 n1 c1).ownBlock) (hZ : ∀ b,(Value.slice A1 n1 c1).ownBlock = some b -> b ∈ Z) : DoBox Z ga gm gk gh W H kind l A n c al Y :=
 ⟨by
   obtain ⟨Aa,ca,h1,h2,h3⟩:=h.ahead
   refine ⟨Aa,ca,h1.grown hg (own_ne hown h1 (by decide)),h2.keepPos (only_of_grown hg) (fun h0 ad ha _ hm=>h3 h0 ad ha (hZ _ (by simpa using hm))),h3⟩,
  h.mat.grown hg (own_ne hown h.mat (by decide)),h.kind.grown hg (own_ne hown h.kind (by decide)),h.head.grown hg (own_ne hown h.head (by decide))⟩
theorem DoBox.set8 {Z : List Nat} {ga gm gk gh g8 : Nat} {W H kind l : Int} {A : Addr} {n c : Nat} {al : List UInt8} {X : World} (h : DoBox Z ga gm gk gh W H kind l A n c al X) {cs : Array Value} (h8 : Has X g8 22 cs) (hne : ga ≠ g8) (hZ : g8 ∈ Z) (u : Value) :
 DoBox Z ga gm gk gh W H kind l A n c al (X.setCell ⟨g8,0,none⟩ u):=by
 have ho : Only [g8] X (X.setCell ⟨g8,0,none⟩ u):=(Only.refl _ X).setCell (by simp) u
 refine ⟨?_,h.mat.only ho (by simpa using has_ne h.mat h8 (by decide)),h.kind.only ho (by simpa using has_ne h.kind h8 (by decide)),h.head.only ho (by simpa using has_ne h.head h8 (by decide))⟩
 obtain ⟨Aa,ca,h1,h2,h3⟩:=h.ahead
 exact ⟨Aa,ca,h1.only ho (by simpa using hne),h2.keepPos ho (fun h0 ad ha _ hm=>h3 h0 ad ha (by
  have : ad.block = g8:=by simpa using hm
  rw [this]; exact hZ)),h3⟩
theorem enI_next {w : World} {W H q : Nat} {A : Addr} {n c : Nat} {M : List UInt8} {l : Int} {g7 g8 g9 ga gm gk gh B : Nat} {pre : List Rw} {x : Rw} {X y4 w7 : World} {s z : List UInt8 × List UInt8} {Ar A7 : Option Addr} {cr c7 : Nat} {cs : Array Value} {Z : List Nat} (S : EnI w W H q A n c M l g7 g8 g9 ga gm gk gh pre X) (hZe : Z = g8 :: (Value.slice Ar s.1.length cr).ownBlock.toList)
 (hsn : doL q M W (pre ++ [x]) = (s.1 ++ z.1,z.2)) (hraw : Has X g8 22 #[.slice Ar s.1.length cr]) (hown : X.ownsRow w.heap.size 5 1 (.slice Ar s.1.length cr) s.1.length (bvals s.1)) (hga : Has X ga 22 cs) (hne : ga ≠ g8) (hnw : w.heap.size <= ga) (hn8 : w.heap.size <= g8)
 (ho4 : Only [ga] X y4) (hown4 : y4.ownsRow w.heap.size 5 1 (.slice Ar s.1.length cr) s.1.length (bvals s.1)) (hb4 : DoBox Z ga gm gk gh W H q l A n c z.2 y4)
 (hown7 : w7.ownsRow w.heap.size 5 1 (.slice A7 (s.1.length + z.1.length) c7) (s.1.length + z.1.length) (bvals s.1 ++ bvals z.1)) (hg7 : y4.grownBy w7 (Value.slice Ar s.1.length cr).ownBlock) (hat : (Value.slice A7 (s.1.length + z.1.length) c7).ownBlock = (Value.slice Ar s.1.length cr).ownBlock \/ (Value.slice A7 (s.1.length + z.1.length) c7).ownBlock = some y4.heap.size) :
 preQ B RowsK (EnI w W H q A n c M l g7 g8 g9 ga gm gk gh) (fun _ _ _=>False) (pre ++ [x]) X .normal (w7.setCell ⟨g8,0,none⟩ (.slice A7 (s.1.length + z.1.length) c7)):=by
 have h84:=hraw.only ho4 (by simpa using Ne.symm hne)
 have h87:=h84.grown hg7 (own_ne hown4 h84 (by decide))
 have hb7:=hb4.grown hown4 hg7 (fun b hb=>by rw [hZe]; exact List.mem_cons_of_mem _ (by simpa using hb))
 have hb8:=hb7.set8 h87 hne (by rw [hZe]; exact List.mem_cons_self) (.slice A7 (s.1.length + z.1.length) c7)
 have hos : Only [g8] w7 (w7.setCell ⟨g8,0,none⟩ (.slice A7 (s.1.length + z.1.length) c7)):=(Only.refl _ w7).setCell (by simp) _
 have ho : Only (ga :: g8 :: (Value.slice Ar s.1.length cr).ownBlock.toList) X (w7.setCell ⟨g8,0,none⟩ (.slice A7 (s.1.length + z.1.length) c7)):=by
  have h1 : Only (ga :: g8 :: (Value.slice Ar s.1.length cr).ownBlock.toList) X y4:=((Only.refl _ X)).trans ho4 (fun k hk _=>by
   obtain rfl : k = ga:=by simpa using hk
   exact List.mem_cons_self)
  have h2:=h1.trans (only_of_grown hg7) (fun k hk _=>List.mem_cons_of_mem _ (List.mem_cons_of_mem _ hk))
  exact h2.trans hos (fun k hk _=>by
   obtain rfl : k = g8:=by simpa using hk
   exact List.mem_cons_of_mem _ List.mem_cons_self)
 have hk : ∀ k,k ∈ ga :: g8 :: (Value.slice Ar s.1.length cr).ownBlock.toList -> ∃ cs t,Has X k t cs /\ t ≠ 47 /\ t ≠ 36:=fun k hk=>by
  rcases List.mem_cons.1 hk with rfl | hk
  ·exact ⟨_,_,hga,by decide,by decide⟩
  rcases List.mem_cons.1 hk with rfl | hk
  ·exact ⟨_,_,hraw,by decide,by decide⟩
  ·obtain ⟨cs,hc⟩:=own_cellsOf hown (by simpa using hk)
   exact ⟨cs,_,hc,by decide,by decide⟩
 refine ⟨keepsFrom_only ho (fun k h=>by obtain ⟨a,b,h1,_⟩:=hk k h; exact ⟨a,b,h1⟩),RowsK.only ho hk,?_⟩
 have hw : ∀ k,k ∈ ga :: g8 :: (Value.slice Ar s.1.length cr).ownBlock.toList -> w.heap.size <= k:=fun k hk=>by
  rcases List.mem_cons.1 hk with rfl | hk
  ·exact hnw
  rcases List.mem_cons.1 hk with rfl | hk
  ·exact hn8
  ·exact (own_at hown (by simpa using hk)).1
 have keep : ∀ g t cs,(∃ cs',Has X g t cs') -> (t = 36 \/ t = 41) -> Has X g t cs -> Has (w7.setCell ⟨g8,0,none⟩ (.slice A7 (s.1.length + z.1.length) c7)) g t cs:=fun g t cs _ ht hh=>hh.only ho (fun hm=>by
  obtain ⟨cs',t',h1,h2,h3⟩ : ∃ cs' t',Has X g t' cs' /\ t' ≠ 36 /\ t' ≠ 41:=by
   rcases List.mem_cons.1 hm with rfl | hm
   ·exact ⟨_,_,hga,by decide,by decide⟩
   rcases List.mem_cons.1 hm with rfl | hm
   ·exact ⟨_,_,hraw,by decide,by decide⟩
   ·obtain ⟨cs,hc⟩:=own_cellsOf hown (by simpa using hm)
    exact ⟨cs,_,hc,by decide,by decide⟩
  rcases ht with rfl | rfl
  ·exact has_ne h1 hh h2 rfl
  ·exact has_ne h1 hh h3 rfl)
 refine ⟨?_,keep _ _ _ ⟨_,S.fn⟩ (.inr rfl) S.fn,keep _ _ _ ⟨_,S.head⟩ (.inl rfl) S.head,S.only.trans ho (fun k hk hlt=>by have:=hw k hk; omega)⟩
 rw [hsn]
 dsimp only
 refine ⟨A7,c7,?_,?_,?_⟩
 ·rw [List.length_append]
  exact h87.set 0 _
 ·rw [List.length_append,bvals_append]
  exact own_keep hown7 hos (fun b hb hm=>by
   obtain rfl : b = g8:=by simpa using hm
   obtain ⟨cs,hc⟩:=own_cellsOf hown7 hb
   exact has_ne hc h87 (by decide) rfl)
 ·rw [List.length_append]
  obtain ⟨Aa,ca,h1,h2,h3⟩:=hb8.ahead
  obtain ⟨Ab,cb,k1,k2,k3⟩:=hb4.ahead
  refine ⟨⟨Aa,ca,h1,h2,fun h0 ad ha hm=>?_⟩,hb8.mat,hb8.kind,hb8.head⟩
  rcases List.mem_cons.1 hm with hm | hm
  ·exact h3 h0 ad ha (by rw [hZe,hm]; exact List.mem_cons_self)
  ·rcases hat with hat | hat
   ·rw [hat] at hm
    exact h3 h0 ad ha (by rw [hZe]; exact List.mem_cons_of_mem _ hm)
   ·rw [hat] at hm
    have hm : ad.block = y4.heap.size:=by simpa using hm
    have k1':=(k1.grown hg7 (own_ne hown4 k1 (by decide))).only hos (by simpa using hne)
    have hAe : Aa = Ab:=by
     unfold Has at h1 k1'
     rw [h1] at k1'
     injection k1' with k1'
     injection k1' with k1'
     have:=congrArg (·[0]?) k1'
     simpa using And.left (by simpa using this : Aa = Ab /\ ca = cb)
    subst hAe
    have:=k2.blk h0 ad ha
    omega
def fsOwnB (B n : Nat) (l : List UInt8) : FS:=⟨fun v=>∃ A c,v = .slice A n c,fun v w=>∀ A c,v = .slice A n c -> w.ownsRow B 5 1 (.slice A n c) n (bvals l),blkOf⟩
theorem fsOwnB_keep (B n : Nat) (l : List UInt8) (v : Value) (w w' : World) (T : List Nat) (ho : Only T w w') (hT : ∀ k ∈ T,B <= k /\ k ∉ (fsOwnB B n l).own v) (h : (fsOwnB B n l).fact v w) : (fsOwnB B n l).fact v w':=fun A c he=>by
 refine own_keep (h A c he) ho fun b hb hm=>(hT b hm).2 ?_
 subst he
 show b ∈ blkOf (.slice A n c)
 cases A with
 | none=>simp [Value.ownBlock] at hb
 | some a =>
   have : a.block = b:=by simpa [Value.ownBlock] using hb
   subst this
   exact List.mem_singleton_self _
theorem fsOwnB_call {B n : Nat} {l : List UInt8} {w x : World} {u : Value} (hB : B <= w.heap.size) (hu : x.ownsRow w.heap.size 5 1 u n (bvals l)) :
 (fsOwnB B n l).pure u /\ (fsOwnB B n l).fact u x /\ ∀ k ∈ (fsOwnB B n l).own u,w.heap.size <= k /\ k < x.heap.size:=by
 obtain ⟨A6,c6,rfl,_,_⟩:=own_shape hu
 refine ⟨⟨A6,c6,rfl⟩,fun A c he=>?_,fun k hk=>blkOf_own hu hk⟩
 injection he with h1 h2 h3
 subst h1 h3
 exact own_mono hu hB
theorem LySt.back {w wc wr : World} {cs : List Ck} {j n c : Nat} {A : Option Addr} (h : LySt wc cs j A n c wr) (ho : Only [] w wc) : LySt w cs j A n c wr :=
 ⟨by
   rcases h.row with h1 | h1
   ·exact .inl (own_mono h1 ho.size)
   ·exact .inr h1,h.len,fun hj=>own_mono (h.own hj) ho.size,fun k hk=>Nat.le_trans ho.size (h.blk k hk),ho.trans h.only (by simp)⟩
theorem headB_length (W H d c l : Nat) : (headB W H d c l).length = 13:=by simp [headB,four4]
theorem CvHas.own {w : World} {B n c : Nat} {A : Option Addr} {l k : List UInt8} (h : w.ownsRow B 5 1 (.slice A n c) n (bvals l)) (hl : l.length = n) : CvHas w ⟨⟨k,l⟩,A,c⟩:=by
 subst hl
 obtain ⟨A6,c6,he,h1,h2⟩:=own_shape h
 injection he with e1 _ e3
 subst e1 e3
 exact ⟨Holds.of_own h,h1,h2⟩
theorem LySt.put {w wr : World} {cs : List Ck} {j n c : Nat} {A : Option Addr} (h : LySt w cs j A n c wr) {D : Nat} {o : Obj} (o' : Obj) (hD : w.heap.size <= D) (ho : wr.heap[D]? = some o) (hc : o.isCells = false) : LySt w cs j A n c (wr.putObj D o'):=by
 have hg:=grownBy_putObj' wr D o'
 have hr : ∀ r,(some D : Option Nat) = some r -> w.heap.size <= r /\ ∃ o : Obj,wr.heap[r]? = some o /\ o.isCells = false:=fun r e=>by
  injection e with e
  subst e
  exact ⟨hD,o,ho,hc⟩
 have hown : ∀ l,wr.ownsRow w.heap.size 5 1 (.slice A n c) n (bvals l) -> (wr.putObj D o').ownsRow w.heap.size 5 1 (.slice A n c) n (bvals l):=fun l hl=>ownFrom_row (β:=Unit) _ _ _ (fun _=>.slice A n c) (fun _=>n) (fun _=>bvals l) () wr _ _ hl hg hr
 refine ⟨?_,h.len,fun hj=>hown _ (h.own hj),h.blk,h.only.put hD _⟩
 rcases h.row with h1 | ⟨h1,g,h2,h3⟩
 ·exact .inl (hown _ h1)
 ·exact .inr ⟨h1,g,h2,ownFrom_holds (fun _ : Unit=>some ⟨g,0,none⟩) (fun _=>n) (fun _=>bvals (layB (cs.take j))) () wr _ _ h3 hg hr⟩
end Go.Proofs.YtjfjmkkkbcgohaaGreatDoor
namespace Go.Proofs.YtjfjmkkkbcgohaaGreatDoor
open Go Go.RowKit
structure PgPt where
 pal : List UInt8
 clr : List UInt8
 hasClr : Bool
 packed : List UInt8
 hasDat : Bool
 last : List UInt8
def idat : List UInt8:=[73,68,65,84]
def takeD (P : PgPt) (d : List UInt8) : Bool × PgPt:=if P.hasDat = true /\ P.last ≠ idat then (false,P) else (true,{ P with packed:=P.packed ++ d,hasDat:=true })
def ptCells (W H d c l : Int) (P : PgPt) (Ap : Option Addr) (cp : Nat) (Ac : Option Addr) (cc : Nat) (Ak : Option Addr) (ck : Nat) : Array Value :=
 #[.int .i64 W,.int .i64 H,.int .i64 d,.int .i64 c,.int .i64 l,.slice Ap P.pal.length cp,.slice Ac P.clr.length cc,.bool P.hasClr,.slice Ak P.packed.length ck,.bool P.hasDat,.string ⟨P.last.toArray⟩]
def Old (w0 w : World) (A : Option Addr) (l : List UInt8) : Prop:=Holds w 1 A l.length (bvals l) /\ (0 < l.length -> ∀ ad,A = some ad -> ad.block < w0.heap.size)
structure PtHas (w0 : World) (g : Nat) (W H d c l : Int) (P : PgPt) (w : World) : Prop where
 box : ∃ Ap cp Ac cc Ak ck,Has w g 105 (ptCells W H d c l P Ap cp Ac cc Ak ck) /\ Old w0 w Ap P.pal /\ P.pal.length <= cp /\ Old w0 w Ac P.clr /\ P.clr.length <= cc /\ w.ownsRow w0.heap.size 5 1 (.slice Ak P.packed.length ck) P.packed.length (bvals P.packed)
 new : w0.heap.size <= g
 only : Only [] w0 w
theorem Old.only {w0 w w' : World} {A : Option Addr} {l : List UInt8} {S : List Nat} (h : Old w0 w A l) (ho : Only S w w') (hS : ∀ k ∈ S,w0.heap.size <= k) : Old w0 w' A l :=
 ⟨h.1.keepPos ho (fun h0 ad ha _ hm=>by have:=h.2 h0 ad ha; have:=hS _ hm; omega),h.2⟩
theorem PtHas.idle {w0 w w' : World} {g : Nat} {W H d c l : Int} {P : PgPt} (h : PtHas w0 g W H d c l P w) (ho : Only [] w w') : PtHas w0 g W H d c l P w':=by
 obtain ⟨Ap,cp,Ac,cc,Ak,ck,h1,h2,h3,h4,h5,h6⟩:=h.box
 exact ⟨⟨Ap,cp,Ac,cc,Ak,ck,h1.only ho (by simp),h2.only ho (by simp),h3,h4.only ho (by simp),h5,own_keep h6 ho (by simp)⟩,h.new,h.only.trans ho (by simp)⟩
def KeepU (g : Nat) (w w' : World) : Prop:=∀ g' t cs,t ≠ 5 -> g' ≠ g -> Has w g' t cs -> Has w' g' t cs
set_option maxRecDepth 100000 in
set_option maxHeartbeats 8000000 in
theorem takeD_any (w0 : World) (g : Nat) (W H d c l : Int) (P : PgPt) (A : Option Addr) (n cb : Nat) (b : List UInt8) (w : World) (h : PtHas w0 g W H d c l P w) (hb : Old w0 w A b) (hn : b.length = n) (hlen : P.packed.length + n <= 1000000000) :
 Calls Tryz.prog 87 #[.pointer (some ⟨g,0,none⟩),.slice A n cb] w fun e w'=>e = .returned (.bool (takeD P b).1) /\ PtHas w0 g W H d c l (takeD P b).2 w' /\ KeepU g w w':=by
 obtain ⟨i0,hi0,hz0,hz1,hz2⟩:=info_of u8_info
 subst hn
 obtain ⟨pal,clr,hc,packed,hd,last⟩:=P
 obtain ⟨Ap,cp,Ac,cc,Ak,ck,h1,h2,h3,h4,h5,h6⟩:=h.box
 dsimp only at h1 h2 h3 h4 h5 h6 hlen
 have c5:=h1.cell 9
 have c6:=h1.cell 10
 have c8:=h1.cell 8
 have f8:=h1.free 8
 have hnb : (Value.slice Ak packed.length ck).ownBlock ≠ some g:=(own_ne h6 h1 (by decide)).symm
 dsimp only [ptCells] at c5 c6 c8
 simp only [List.getElem?_toArray,List.getElem?_cons_zero,List.getElem?_cons_succ] at c5 c6 c8
 have HS:=hide (aI h (aI h1 (aI h2 (aI h3 (aI h4 (aI h5 (aI h6 (aI hb hlen))))))))
 have hB:=h.only.size
 clear h h1 h2 h3 h4 h5 h6 hb hlen
 by_cases hcase : hd = true /\ last ≠ idat
 ·obtain ⟨rfl,hi⟩:=hcase
  have hne : (last == [73,68,65,84]) = false:=by simpa [idat] using hi
  unfold takeD
  rw [if_pos ⟨rfl,hi⟩]
  go_enter Tryz.func87,Tryz.ntmps87
  go_wp2_with fail
  go_ret
  exact ⟨rfl,HS.out.1,fun _ _ _ _ _ h=>h⟩
 ·have hT : takeD { pal:=pal,clr:=clr,hasClr:=hc,packed:=packed,hasDat:=hd,last:=last } b = (true,{ pal:=pal,clr:=clr,hasClr:=hc,packed:=packed ++ b,hasDat:=true,last:=last }):=by
   unfold takeD
   rw [if_neg hcase]
  rw [hT]
  cases hd
  case' false=>skip
  case' true =>
   have hi : last = idat:=by
    by_cases h : last = idat
    ·exact h
    ·exact absurd ⟨rfl,h⟩ hcase
   subst hi
   unfold idat at *
  all_goals
   go_enter Tryz.func87,Tryz.ntmps87
   go_wp2_with (at_builtin; refine list_append _ rfl (.tmp 20) (.tmp 21) 22 rfl w0.heap.size 1 1 Tryz.underlying22 hi0 hz0 hz1 hz2 rfl (by omega) HS.out.2.2.2.2.2.2.1 rfl HS.out.2.2.2.2.2.2.2.1.1 rfl (bvals_one _) (by have:=HS.out.2.2.2.2.2.2.2.2; omega) (by omega) hB ?_; intro A7 c7 w7 hown7 hgrow7 hat7; have H7:=hide (aI hown7 hgrow7); have g7:=HS.out.2.1.grown hgrow7 (Ne.symm hnb); have k8:=g7.cell 8; have k9:=g7.free 8; have k10:=g7.cell 9; have k11:=g7.free 9; dsimp only [ptCells] at k8 k10; simp only [List.getElem?_toArray,List.getElem?_cons_zero,List.getElem?_cons_succ] at k8 k10; clear hown7 hgrow7 hat7 g7)
   go_ret
   have g7:=HS.out.2.1.grown H7.out.2 (Ne.symm hnb)
   have hro : ∀ k,(Value.slice Ak packed.length ck).ownBlock = some k -> w0.heap.size <= k:=fun k hk=>(own_at HS.out.2.2.2.2.2.2.1 hk).1
   have o7:=only_of_grown H7.out.2
   have os : Only [g] w7 ((w7.setCell ⟨g,8,none⟩ (.slice A7 (packed.length + b.length) c7)).setCell ⟨g,9,none⟩ (.bool true)):=((Only.refl _ w7).setCell (by simp) _).setCell (by simp) _
   have hro7 : ∀ k ∈ (Value.slice Ak packed.length ck).ownBlock.toList,w0.heap.size <= k:=fun k hk=>hro k (by simpa using hk)
   have hg : ∀ k ∈ [g],w0.heap.size <= k:=fun k hk=>by
    obtain rfl : k = g:=by simpa using hk
    exact HS.out.1.new
   refine ⟨rfl,⟨⟨Ap,cp,Ac,cc,A7,c7,?_,(HS.out.2.2.1.only o7 hro7).only os hg,HS.out.2.2.2.1,(HS.out.2.2.2.2.1.only o7 hro7).only os hg,HS.out.2.2.2.2.2.1,?_⟩,HS.out.1.new,?_⟩,fun g' t cs ht hg' hh=>(hh.grown H7.out.2 (own_ne HS.out.2.2.2.2.2.2.1 hh (Ne.symm ht))).only os (by simpa using hg')⟩
   ·have:=(g7.set 8 (.slice A7 (packed.length + b.length) c7)).set 9 (.bool true)
    unfold ptCells
    dsimp only
    rw [List.length_append]
    exact this
   ·dsimp only
    rw [List.length_append,bvals_append]
    exact own_keep H7.out.1 os (fun k hk hm=>by
     obtain rfl : k = g:=by simpa using hm
     obtain ⟨cs,hcs⟩:=own_cellsOf H7.out.1 hk
     exact has_ne hcs g7 (by decide) rfl)
   ·exact (HS.out.1.only.trans o7 (fun k hk hlt=>by have:=hro7 k hk; omega)).trans os (fun k hk hlt=>by have:=hg k hk; omega)
theorem PtHas.last {w0 w : World} {g : Nat} {W H d c l : Int} {P : PgPt} (h : PtHas w0 g W H d c l P w) (k : List UInt8) : PtHas w0 g W H d c l { P with last:=k } (w.setCell ⟨g,10,none⟩ (.string ⟨k.toArray⟩)):=by
 obtain ⟨Ap,cp,Ac,cc,Ak,ck,h1,h2,h3,h4,h5,h6⟩:=h.box
 have os : Only [g] w (w.setCell ⟨g,10,none⟩ (.string ⟨k.toArray⟩)):=(Only.refl _ w).setCell (by simp) _
 have hg : ∀ j ∈ [g],w0.heap.size <= j:=fun j hj=>by
  obtain rfl : j = g:=by simpa using hj
  exact h.new
 refine ⟨⟨Ap,cp,Ac,cc,Ak,ck,?_,h2.only os hg,h3,h4.only os hg,h5,own_keep h6 os (fun b hb hm=>by
  obtain rfl : b = g:=by simpa using hm
  exact own_ne h6 h1 (by decide) hb.symm)⟩,h.new,h.only.trans os (fun j hj hlt=>by have:=hg j hj; omega)⟩
 have:=h1.set 10 (.string ⟨k.toArray⟩)
 exact this
theorem PtHas.cells {w0 w : World} {g : Nat} {W H d c l : Int} {P : PgPt} (h : PtHas w0 g W H d c l P w) : w.cell? ⟨g,10,none⟩ = some (.string ⟨P.last.toArray⟩) /\ w.frozen? ⟨g,10,none⟩ = false:=by
 obtain ⟨Ap,cp,Ac,cc,Ak,ck,h1,_⟩:=h.box
 exact ⟨h1.cell 10,h1.free 10⟩
def takeI (P : PgPt) (d : List UInt8) : Nat × PgPt:=if (takeD P d).1 = true then (0,{ (takeD P d).2 with last:=idat }) else (3,(takeD P d).2)
set_option maxRecDepth 100000 in
set_option maxHeartbeats 8000000 in
theorem takeI_any (w0 : World) (g : Nat) (W H d c l : Int) (P : PgPt) (A : Option Addr) (n cb : Nat) (b : List UInt8) (w : World) (h : PtHas w0 g W H d c l P w) (hb : Old w0 w A b) (hn : b.length = n) (hlen : P.packed.length + n <= 1000000000) :
 Calls Tryz.prog 51 #[.pointer (some ⟨g,0,none⟩),.agg #[.string ⟨#[73,68,65,84]⟩,.slice A n cb]] w fun e w'=>e = .returned (.int .i64 (takeI P b).1) /\ PtHas w0 g W H d c l (takeI P b).2 w' /\ KeepU g w w':=by
 have o1:=(Only.refl [] w).alloc (.cells #[.string ⟨#[73,68,65,84]⟩,.slice A n cb] 53)
 have hx:=Has.new w 53 #[.string ⟨#[73,68,65,84]⟩,.slice A n cb]
 have HT:=hide (takeD_any w0 g W H d c l P A n cb b _ (h.idle o1) (hb.only o1 (by simp)) hn hlen)
 have hgl : g < w.heap.size:=by obtain ⟨_,_,_,_,_,_,h1,_⟩:=h.box; exact h1.lt
 have hne : w.heap.size ≠ g:=by omega
 clear h hb o1
 unfold takeI
 go_enter Tryz.func51,Tryz.ntmps51
 go_wp2_with fail
 refine (HT.out).mono ?_
 rintro e w2 ⟨rfl,hP,hK⟩
 have hx2:=hK _ _ _ (by decide) hne hx
 have x0:=hx2.cell 0
 simp only [List.getElem?_toArray,List.getElem?_cons_zero] at x0
 obtain ⟨k0,k1⟩:=hP.cells
 have HP:=hide hP
 have HK:=hide hK
 clear hx hx2 hP hK HT
 cases hr : (takeD P b).1 with
 | true =>
   go_wp2_with fail
   go_ret
   exact ⟨rfl,HP.out.last _,fun g' t cs ht hg hh=>(HK.out g' t cs ht hg (hh.alloc _)).other (p:=⟨g,10,none⟩) hg _⟩
 | false =>
   go_wp2_with fail
   all_goals
    go_ret
    first | exact ⟨rfl,HP.out,fun g' t cs ht hg hh=>HK.out g' t cs ht hg (hh.alloc _)⟩ | (rename_i h1 h2; simp_all)
def takeN (P : PgPt) (d : List UInt8) : Nat × PgPt:=if d.length = 0 then (0,{ P with last:=[73,69,78,68] }) else (3,P)
set_option maxRecDepth 100000 in
set_option maxHeartbeats 8000000 in
theorem takeN_any (w0 : World) (g : Nat) (W H d c l : Int) (P : PgPt) (A : Option Addr) (n cb : Nat) (b : List UInt8) (w : World) (h : PtHas w0 g W H d c l P w) (hn : b.length = n) :
 Calls Tryz.prog 51 #[.pointer (some ⟨g,0,none⟩),.agg #[.string ⟨#[73,69,78,68]⟩,.slice A n cb]] w fun e w'=>e = .returned (.int .i64 (takeN P b).1) /\ PtHas w0 g W H d c l (takeN P b).2 w' /\ KeepU g w w':=by
 have o1:=(Only.refl [] w).alloc (.cells #[.string ⟨#[73,69,78,68]⟩,.slice A n cb] 53)
 have hP:=h.idle o1
 obtain ⟨k0,k1⟩:=hP.cells
 have HP:=hide hP
 have HH:=hide h
 have hgl : g < w.heap.size:=by obtain ⟨_,_,_,_,_,_,h1,_⟩:=h.box; exact h1.lt
 have hne : w.heap.size ≠ g:=by omega
 clear h o1 hP
 unfold takeN
 subst hn
 by_cases h0 : b.length = 0
 ·rw [if_pos h0,h0]
  rw [h0] at HP k0 k1
  go_enter Tryz.func51,Tryz.ntmps51
  go_wp2_with fail
  go_ret
  exact ⟨rfl,(HH.out.last [73,69,78,68]).idle ((Only.refl [] _).alloc _),fun g' t cs _ hg hh=>(hh.other (p:=⟨g,10,none⟩) hg _).alloc _⟩
 ·rw [if_neg h0]
  have h0' : ((b.length : Int) == 0) = false:=by
   have : ¬ (b.length : Int) = 0:=by omega
   simpa using this
  go_enter Tryz.func51,Tryz.ntmps51
  go_wp2_with fail
  go_ret
  exact ⟨rfl,HP.out,fun g' t cs _ _ hh=>hh.alloc _⟩
set_option maxRecDepth 100000 in
set_option maxHeartbeats 8000000 in
theorem takeO_any (w0 : World) (g : Nat) (W H d c l : Int) (P : PgPt) (A : Option Addr) (n cb : Nat) (x : UInt8) (k : List UInt8) (w : World) (h : PtHas w0 g W H d c l P w) (hx : 97 <= x.toNat) (hk : x :: k ≠ [116,82,78,83]) :
 Calls Tryz.prog 51 #[.pointer (some ⟨g,0,none⟩),.agg #[.string ⟨(x :: k).toArray⟩,.slice A n cb]] w fun e w'=>e = .returned (.int .i64 0) /\ PtHas w0 g W H d c l { P with last:=x :: k } w' /\ KeepU g w w':=by
 have o1:=(Only.refl [] w).alloc (.cells #[.string ⟨(x :: k).toArray⟩,.slice A n cb] 53)
 have hP:=h.idle o1
 obtain ⟨k0,k1⟩:=hP.cells
 have HP:=hide hP
 have HH:=hide h
 have hgl : g < w.heap.size:=by obtain ⟨_,_,_,_,_,_,h1,_⟩:=h.box; exact h1.lt
 have hne : w.heap.size ≠ g:=by omega
 have hb0 : (x :: k == [73,72,68,82]) = false:=by
  rw [beq_eq_false_iff_ne]
  intro e
  injection e with e _
  subst e
  revert hx; decide
 have hb1 : (x :: k == [80,76,84,69]) = false:=by
  rw [beq_eq_false_iff_ne]
  intro e
  injection e with e _
  subst e
  revert hx; decide
 have hb2 : (x :: k == [116,82,78,83]) = false:=by rw [beq_eq_false_iff_ne]; exact hk
 have hb3 : (x :: k == [73,68,65,84]) = false:=by
  rw [beq_eq_false_iff_ne]
  intro e
  injection e with e _
  subst e
  revert hx; decide
 have hb4 : (x :: k == [73,69,78,68]) = false:=by
  rw [beq_eq_false_iff_ne]
  intro e
  injection e with e _
  subst e
  revert hx; decide
 clear h o1 hP
 go_enter Tryz.func51,Tryz.ntmps51
 go_wp2_with fail
 have hcp : decide (65 <= x.toNat /\ x.toNat <= 90) = false:=decide_eq_false (by omega)
 refine Calls.mono (capital_any x.toNat _) ?_
 rintro e w2 ⟨rfl,rfl⟩
 rw [hcp]
 go_wp2_with fail
 go_ret
 exact ⟨rfl,(HH.out.last (x :: k)).idle ((Only.refl [] _).alloc _),fun g' t cs _ hg hh=>(hh.other (p:=⟨g,10,none⟩) hg _).alloc _⟩
def unStep (s k : Nat) (al raw : List UInt8) (y : Nat) : List UInt8 × Bool :=
 (flR true (raw.getD 0 0).toNat s ((raw.drop 1).take k) (if y = 0 then [] else al),decide (fErr (raw.getD 0 0).toNat s ((raw.drop 1).take k).length (if y = 0 then [] else al).length = 0))
structure UnBox (Z Zr : List Nat) (ga gr gh : Nat) (W H d c l : Int) (al raw : List UInt8) (w : World) : Prop where
 ahead : ∃ Aa ca,Has w ga 22 #[.slice Aa al.length ca] /\ Holds w 1 Aa al.length (bvals al) /\ (0 < al.length -> ∀ ad,Aa = some ad -> ad.block ∉ Z)
 raw : ∃ Ar cr,Has w gr 22 #[.slice Ar raw.length cr] /\ Holds w 1 Ar raw.length (bvals raw) /\ raw.length <= cr /\ (0 < raw.length -> ∀ ad,Ar = some ad -> ad.block ∉ ga :: gr :: Zr)
 head : Has w gh 36 #[.int .i64 W,.int .i64 H,.int .i64 d,.int .i64 c,.int .i64 l]
 ne : ga ≠ gr
theorem undoer_any (W H d c l : Int) (A : Option Addr) (n cr : Nat) (raw : List UInt8) (w : World) (hb : Holds w 1 A n (bvals raw)) (hl : raw.length = n) (hc : n <= cr) :
 Calls Tryz.prog 54 #[.agg #[.int .i64 W,.int .i64 H,.int .i64 d,.int .i64 c,.int .i64 l],.slice A n cr] w fun e w' =>
  ∃ ga gr gh,e = .returned (.func (.func 94) #[] #[.pointer (some ⟨ga,0,none⟩),.pointer (some ⟨gr,0,none⟩),.pointer (some ⟨gh,0,none⟩)]) /\
    w.heap.size <= ga /\ w.heap.size <= gr /\ (∀ Z Zr,(0 < raw.length -> ∀ ad,A = some ad -> ad.block ∉ Zr) -> UnBox Z Zr ga gr gh W H d c l [] raw w') /\ Only [] w w':=by
 have h0:=((Has.new w 36 #[.int .i64 W,.int .i64 H,.int .i64 d,.int .i64 c,.int .i64 l]).alloc (.cells #[.slice A n cr] 22)).alloc (.cells #[.slice none 0 0] 22)
 have h1:=(Has.new (w.alloc (.cells #[.int .i64 W,.int .i64 H,.int .i64 d,.int .i64 c,.int .i64 l] 36)) 22 #[.slice A n cr]).alloc (.cells #[.slice none 0 0] 22)
 have h3:=Has.new ((w.alloc (.cells #[.int .i64 W,.int .i64 H,.int .i64 d,.int .i64 c,.int .i64 l] 36)).alloc (.cells #[.slice A n cr] 22)) 22 #[.slice none 0 0]
 have ho : Only [] w (((w.alloc (.cells #[.int .i64 W,.int .i64 H,.int .i64 d,.int .i64 c,.int .i64 l] 36)).alloc (.cells #[.slice A n cr] 22)).alloc (.cells #[.slice none 0 0] 22)):=(((Only.refl [] w).alloc _).alloc _).alloc _
 have hbk:=hb.keep ho (by simp)
 have hblk:=fun (h0 : 0 < n) ad (ha : A = some ad)=>hb.blk h0 ad ha
 simp only [World.size_alloc] at h1 h3
 have HH:=hide (aI h0 (aI h1 (aI h3 (aI ho (aI hbk hblk)))))
 clear h0 h1 h3 ho hbk hblk hb
 subst hl
 have HC:=hide hc
 clear hc
 go_enter Tryz.func54,Tryz.ntmps54
 go_wp2_with fail
 go_ret
 refine ⟨_,_,_,rfl,by omega,by omega,fun Z Zr hZr=>⟨⟨none,0,HH.out.2.2.1,Holds.empty _ _ _,fun h=>absurd h (by simp)⟩,⟨A,cr,HH.out.2.1,HH.out.2.2.2.2.1,HC.out,fun h0 ad ha hm=>?_⟩,HH.out.1,by omega⟩,HH.out.2.2.2.1⟩
 have h1:=HH.out.2.2.2.2.2 h0 ad ha
 have h2:=hZr h0 ad ha
 rcases List.mem_cons.1 hm with hm | hm
 ·omega
 rcases List.mem_cons.1 hm with hm | hm
 ·omega
 ·exact h2 hm
end Go.Proofs.YtjfjmkkkbcgohaaGreatDoor
