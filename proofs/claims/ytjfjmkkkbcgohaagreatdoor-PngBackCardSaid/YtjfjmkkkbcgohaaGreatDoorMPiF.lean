import Derived.Test.YtjfjmkkkbcgohaaGreatDoorMPiD
namespace Go.Proofs.YtjfjmkkkbcgohaaGreatDoor
open Go Go.RowKit Go.Shelf
theorem UnBox.keep1 {Z Zr : List Nat} {ga gr gh gi : Nat} {W H d c l : Int} {al raw : List UInt8} {X Y : World} (h : UnBox Z Zr ga gr gh W H d c l al raw X) (ho : Only [gi] X Y) (hZ : gi ∈ Z) (hZr : gi ∈ Zr) (ha : ga ≠ gi) (hr : gr ≠ gi) (hh : gh ≠ gi) : UnBox Z Zr ga gr gh W H d c l al raw Y:=by
 obtain ⟨Aa,ca,h1,h2,h3⟩:=h.ahead
 obtain ⟨Ar,cr,k1,k2,k3,k4⟩:=h.raw
 refine ⟨⟨Aa,ca,h1.only ho (by simpa using ha),h2.keepPos ho (fun h0 ad hd _ hm=>h3 h0 ad hd (by rw [List.mem_singleton.1 hm]; exact hZ)),h3⟩,⟨Ar,cr,k1.only ho (by simpa using hr),k2.keepPos ho (fun h0 ad hd _ hm=>k4 h0 ad hd ?_),k3,k4⟩,h.head.only ho (by simpa using hh),h.ne⟩
 rw [List.mem_singleton.1 hm]
 exact List.mem_cons_of_mem _ (List.mem_cons_of_mem _ hZr)
theorem UnBox.keepL {Z Zr S : List Nat} {ga gr gh : Nat} {W H d c l : Int} {al raw : List UInt8} {X Y : World} (h : UnBox Z Zr ga gr gh W H d c l al raw X) (ho : Only S X Y) (hZ : ∀ k ∈ S,k ∈ Z) (hZr : ∀ k ∈ S,k ∈ Zr) (ha : ga ∉ S) (hr : gr ∉ S) (hh : gh ∉ S) : UnBox Z Zr ga gr gh W H d c l al raw Y:=by
 obtain ⟨Aa,ca,h1,h2,h3⟩:=h.ahead
 obtain ⟨Ar,cr,k1,k2,k3,k4⟩:=h.raw
 exact ⟨⟨Aa,ca,h1.only ho ha,h2.keepPos ho (fun h0 ad hd _ hm=>h3 h0 ad hd (hZ _ hm)),h3⟩,⟨Ar,cr,k1.only ho hr,k2.keepPos ho (fun h0 ad hd _ hm=>k4 h0 ad hd (List.mem_cons_of_mem _ (List.mem_cons_of_mem _ (hZr _ hm)))),k3,k4⟩,h.head.only ho hh,h.ne⟩
theorem UnBox.weak {Z Zr Z' Zr' : List Nat} {ga gr gh : Nat} {W H d c l : Int} {al raw : List UInt8} {X : World} (h : UnBox Z Zr ga gr gh W H d c l al raw X) (hZ : ∀ k ∈ Z',k ∈ Z) (hZr : ∀ k ∈ Zr',k ∈ Zr) : UnBox Z' Zr' ga gr gh W H d c l al raw X:=by
 obtain ⟨Aa,ca,h1,h2,h3⟩:=h.ahead
 obtain ⟨Ar,cr,k1,k2,k3,k4⟩:=h.raw
 refine ⟨⟨Aa,ca,h1,h2,fun h0 ad hd hm=>h3 h0 ad hd (hZ _ hm)⟩,⟨Ar,cr,k1,k2,k3,fun h0 ad hd hm=>k4 h0 ad hd ?_⟩,h.head,h.ne⟩
 rcases List.mem_cons.1 hm with hm | hm
 ·rw [hm]; exact List.mem_cons_self
 rcases List.mem_cons.1 hm with hm | hm
 ·rw [hm]; exact List.mem_cons_of_mem _ List.mem_cons_self
 ·exact List.mem_cons_of_mem _ (List.mem_cons_of_mem _ (hZr _ hm))
theorem UnBox.keep0 {Z Zr : List Nat} {ga gr gh : Nat} {W H d c l : Int} {al raw : List UInt8} {X Y : World} (h : UnBox Z Zr ga gr gh W H d c l al raw X) (ho : Only [] X Y) : UnBox Z Zr ga gr gh W H d c l al raw Y:=by
 obtain ⟨Aa,ca,h1,h2,h3⟩:=h.ahead
 obtain ⟨Ar,cr,k1,k2,k3,k4⟩:=h.raw
 exact ⟨⟨Aa,ca,h1.only ho (by simp),h2.keep ho (by simp),h3⟩,⟨Ar,cr,k1.only ho (by simp),k2.keep ho (by simp),k3,k4⟩,h.head.only ho (by simp),h.ne⟩
theorem ownFrom_unbox {Z Zr : List Nat} {B ga gr gh : Nat} {W H d c l : Int} {al raw : List UInt8} : OwnFrom B (fun (_ : Unit) X=>UnBox Z Zr ga gr gh W H d c l al raw X):=fun s X Y row hs hg hr=>by
 obtain ⟨Aa,ca,h1,h2,h3⟩:=hs.ahead
 obtain ⟨Ar,cr,k1,k2,k3,k4⟩:=hs.raw
 exact ⟨⟨Aa,ca,has_row h1 hg hr,ownFrom_holds (fun _ : Unit=>Aa) (fun _=>al.length) (fun _=>bvals al) () X Y row h2 hg hr,h3⟩,⟨Ar,cr,has_row k1 hg hr,ownFrom_holds (fun _ : Unit=>Ar) (fun _=>raw.length) (fun _=>bvals raw) () X Y row k2 hg hr,k3,k4⟩,has_row hs.head hg hr,hs.ne⟩
def ImgSt (B gi n c : Nat) (M : List UInt8) (W : Int) (rs : List Rw) (X : World) : Prop :=
 ∃ cur : List UInt8,X.ownsRow B 5 1 (.slice (some ⟨gi,0,none⟩) n c) n (bvals cur) /\ cur.length = n /\ ∀ r ∈ rs,∀ x j : Nat,(x : Int) < r.w -> j < 4 -> cur[(spotI r W x).toNat + j]? = M[(spotI r W x).toNat + j]?
structure ImJ (w : World) (g : Nat) (pcs : Array Value) (W H : Nat) (l : Int) (q n c : Nat) (M : List UInt8) (bp gm g8 g9 gd b4 b5 ga gr gh gi : Nat) (ru rs : List Rw) (X : World) : Prop where
 par : Has X bp 55 #[.pointer (some ⟨g,0,none⟩)]
 pts : Has X g 105 pcs
 mat : Has X gm 24 #[.int .i64 W,.int .i64 H,.slice (some ⟨gi,0,none⟩) n c]
 und : Has X g8 110 #[.func (.func 94) #[] #[.pointer (some ⟨ga,0,none⟩),.pointer (some ⟨gr,0,none⟩),.pointer (some ⟨gh,0,none⟩)]]
 col : Has X g9 113 #[.func (.func 103) #[] #[.pointer (some ⟨gd,0,none⟩)]]
 dep : Has X gd 3 #[.int .i64 8]
 r4 : Has X b4 24 #[.int .i64 0,.int .i64 0,.slice none 0 0]
 r5 : Has X b5 28 #[.int .i64 0]
 un : UnBox [gi] [gi] ga gr gh W H 8 6 l (doL q M W ru).2 ((rawB q M W H l).drop (doL q M W ru).1.length) X
 img : ImgSt w.heap.size gi n c M W rs X
 only : Only [] w X
 new : w.heap.size <= gi /\ w.heap.size <= ga /\ w.heap.size <= gr
 box : ∃ cs,Has X gi 5 cs
 gmb : gm ≠ b4
theorem ownFrom_imJ {B : Nat} {w : World} {g : Nat} {pcs : Array Value} {W H : Nat} {l : Int} {q n c : Nat} {M : List UInt8} {bp gm g8 g9 gd b4 b5 ga gr gh gi : Nat} (hB : w.heap.size <= B) {ru : List Rw} : OwnFrom B (ImJ w g pcs W H l q n c M bp gm g8 g9 gd b4 b5 ga gr gh gi ru):=fun s X Y row hs hg hr =>
 ⟨has_row hs.par hg hr,has_row hs.pts hg hr,has_row hs.mat hg hr,has_row hs.und hg hr,has_row hs.col hg hr,has_row hs.dep hg hr,has_row hs.r4 hg hr,has_row hs.r5 hg hr,ownFrom_unbox () X Y row hs.un hg hr,
  by
   obtain ⟨cur,h1,h2,h3⟩:=hs.img
   exact ⟨cur,ownFrom_row (β:=Unit) _ _ _ (fun _=>.slice (some ⟨gi,0,none⟩) n c) (fun _=>n) (fun _=>bvals cur) () X Y row h1 hg hr,h2,h3⟩,
  ownFrom_only (β:=Unit) hB () X Y row hs.only hg hr,hs.new,by obtain ⟨cs,h⟩:=hs.box; exact ⟨cs,has_row h hg hr⟩,hs.gmb⟩
theorem ImJ.keep0 {w : World} {g : Nat} {pcs : Array Value} {W H : Nat} {l : Int} {q n c : Nat} {M : List UInt8} {bp gm g8 g9 gd b4 b5 ga gr gh gi : Nat} {ru rs : List Rw} {X Y : World} (h : ImJ w g pcs W H l q n c M bp gm g8 g9 gd b4 b5 ga gr gh gi ru rs X) (ho : Only [] X Y) : ImJ w g pcs W H l q n c M bp gm g8 g9 gd b4 b5 ga gr gh gi ru rs Y :=
 ownFrom_imJ h.only.size rs X Y none h ho.grow (fun r e=>by cases e)
def ImI (w : World) (g : Nat) (pcs : Array Value) (W H : Nat) (l : Int) (q n c : Nat) (M : List UInt8) (bp gm g8 g9 gd b4 b5 ga gr gh gi : Nat) (rs : List Rw) (X : World) : Prop:=ImJ w g pcs W H l q n c M bp gm g8 g9 gd b4 b5 ga gr gh gi rs rs X
theorem ownFrom_imI {B : Nat} {w : World} {g : Nat} {pcs : Array Value} {W H : Nat} {l : Int} {q n c : Nat} {M : List UInt8} {bp gm g8 g9 gd b4 b5 ga gr gh gi : Nat} (hB : w.heap.size <= B) : OwnFrom B (ImI w g pcs W H l q n c M bp gm g8 g9 gd b4 b5 ga gr gh gi):=fun s X Y row hs hg hr=>ownFrom_imJ hB s X Y row hs hg hr
theorem ImJ.boxes {w : World} {g : Nat} {pcs : Array Value} {W H : Nat} {l : Int} {q n c : Nat} {M : List UInt8} {bp gm g8 g9 gd b4 b5 ga gr gh gi : Nat} {ru rs : List Rw} {X : World} (h : ImJ w g pcs W H l q n c M bp gm g8 g9 gd b4 b5 ga gr gh gi ru rs X) : ∃ c1 c2,Has X ga 22 c1 /\ Has X gr 22 c2:=by
 obtain ⟨Aa,ca,h1,_⟩:=h.un.ahead
 obtain ⟨Ar,cr,h2,_⟩:=h.un.raw
 exact ⟨_,_,h1,h2⟩
theorem ImJ.undone {w : World} {g : Nat} {pcs : Array Value} {W H : Nat} {l : Int} {q n c : Nat} {M : List UInt8} {bp gm g8 g9 gd b4 b5 ga gr gh gi : Nat} {ru ru' rs : List Rw} {X Y : World} (h : ImJ w g pcs W H l q n c M bp gm g8 g9 gd b4 b5 ga gr gh gi ru rs X) (ho : Only [ga,gr] X Y) (hu : UnBox [gi] [gi] ga gr gh W H 8 6 l (doL q M W ru').2 ((rawB q M W H l).drop (doL q M W ru').1.length) Y) : ImJ w g pcs W H l q n c M bp gm g8 g9 gd b4 b5 ga gr gh gi ru' rs Y:=by
 obtain ⟨c1,c2,h1,h2⟩:=h.boxes
 have k : ∀ {b : Nat} {t : TypeId} {cs : Array Value},t ≠ 22 -> Has X b t cs -> Has Y b t cs:=fun {b t cs} ht hh=>hh.only ho (fun hm=>by
  rcases List.mem_cons.1 hm with rfl | hm
  ·exact has_ne hh h1 ht rfl
  ·obtain rfl:=List.mem_singleton.1 hm
   exact has_ne hh h2 ht rfl)
 obtain ⟨cs,hb⟩:=h.box
 obtain ⟨cur,i1,i2,i3⟩:=h.img
 have hn:=h.new
 exact ⟨k (by decide) h.par,k (by decide) h.pts,k (by decide) h.mat,k (by decide) h.und,k (by decide) h.col,k (by decide) h.dep,k (by decide) h.r4,k (by decide) h.r5,hu,⟨cur,own_keep i1 ho (fun b hb' hm=>by
  obtain rfl : gi = b:=by simpa [Value.ownBlock] using hb'
  rcases List.mem_cons.1 hm with rfl | hm
  ·exact has_ne hb h1 (by decide) rfl
  ·obtain rfl:=List.mem_singleton.1 hm
   exact has_ne hb h2 (by decide) rfl),i2,i3⟩,h.only.trans ho (fun j hj hlt=>by
  rcases List.mem_cons.1 hj with rfl | hj
  ·omega
  ·obtain rfl:=List.mem_singleton.1 hj
   omega),h.new,⟨cs,k (by decide) hb⟩,h.gmb⟩
theorem ImJ.drawn {w : World} {g : Nat} {pcs : Array Value} {W H : Nat} {l : Int} {q n c : Nat} {M : List UInt8} {bp gm g8 g9 gd b4 b5 ga gr gh gi : Nat} {ru rs rs' : List Rw} {X Y : World} (h : ImJ w g pcs W H l q n c M bp gm g8 g9 gd b4 b5 ga gr gh gi ru rs X) (ho : Only [gi] X Y) (hi : ImgSt w.heap.size gi n c M W rs' Y) : ImJ w g pcs W H l q n c M bp gm g8 g9 gd b4 b5 ga gr gh gi ru rs' Y:=by
 obtain ⟨cs,hb⟩:=h.box
 obtain ⟨c1,c2,h1,h2⟩:=h.boxes
 have k : ∀ {b : Nat} {t : TypeId} {cs : Array Value},t ≠ 5 -> Has X b t cs -> Has Y b t cs:=fun {b t cs} ht hh=>hh.only ho (fun hm=>by
  obtain rfl:=List.mem_singleton.1 hm
  exact has_ne hh hb ht rfl)
 have hn:=h.new
 obtain ⟨cur,i1,i2,i3⟩:=hi
 refine ⟨k (by decide) h.par,k (by decide) h.pts,k (by decide) h.mat,k (by decide) h.und,k (by decide) h.col,k (by decide) h.dep,k (by decide) h.r4,k (by decide) h.r5,h.un.keep1 ho List.mem_cons_self List.mem_cons_self (has_ne h1 hb (by decide)) (has_ne h2 hb (by decide)) (has_ne h.un.head hb (by decide)),⟨cur,i1,i2,i3⟩,h.only.trans ho (fun j hj hlt=>by
  obtain rfl:=List.mem_singleton.1 hj
  omega),h.new,own_cellsOf i1 rfl,h.gmb⟩
theorem imI_next {w : World} {g : Nat} {pcs : Array Value} {W H : Nat} {l : Int} {q n c : Nat} {M : List UInt8} {bp gm g8 g9 gd b4 b5 ga gr gh gi : Nat} {pre : List Rw} {x : Rw} {X Y : World} (S : ImI w g pcs W H l q n c M bp gm g8 g9 gd b4 b5 ga gr gh gi pre X) (S' : ImJ w g pcs W H l q n c M bp gm g8 g9 gd b4 b5 ga gr gh gi (pre ++ [x]) (pre ++ [x]) Y) (ho : Only [ga,gr,gi] X Y) (B : Nat) :
 preQ B RowsK (ImI w g pcs W H l q n c M bp gm g8 g9 gd b4 b5 ga gr gh gi) (fun _ _ _=>False) (pre ++ [x]) X .normal Y:=by
 obtain ⟨cs,hb⟩:=S.box
 obtain ⟨c1,c2,h1,h2⟩:=S.boxes
 have hk : ∀ k,k ∈ [ga,gr,gi] -> ∃ cs t,Has X k t cs /\ t ≠ 47 /\ t ≠ 36:=fun k hk=>by
  rcases List.mem_cons.1 hk with rfl | hk
  ·exact ⟨_,_,h1,by decide,by decide⟩
  rcases List.mem_cons.1 hk with rfl | hk
  ·exact ⟨_,_,h2,by decide,by decide⟩
  ·obtain rfl:=List.mem_singleton.1 hk
   exact ⟨_,_,hb,by decide,by decide⟩
 exact ⟨keepsFrom_only ho (fun k h=>by obtain ⟨a,b,h1,_⟩:=hk k h; exact ⟨a,b,h1⟩),RowsK.only ho hk,S'⟩
theorem img_next {B gi n c : Nat} {M : List UInt8} {W H l : Int} {pre : List Rw} {x : Rw} {cur : List UInt8} {Y : World} (hx : x ∈ rowsL W H l) (hW : W <= 16384) (hH : H <= 16384) (hn : (M.length : Int) = 4 * (W * H)) (hM : M.length = n) (hl : cur.length = n)
 (h : ∀ r ∈ pre,∀ x j : Nat,(x : Int) < r.w -> j < 4 -> cur[(spotI r W x).toNat + j]? = M[(spotI r W x).toNat + j]?) (ho : Y.ownsRow B 5 1 (.slice (some ⟨gi,0,none⟩) n c) n (bvals (layR M x W cur x.w.toNat))) : ImgSt B gi n c M W (pre ++ [x]) Y:=by
 have hok:=rows_ok W H l x hx
 have hw:=hok.w0
 obtain ⟨a1,a2⟩:=layR_agr hok hW hH hn (by omega : cur.length = M.length) x.w.toNat (by omega)
 refine ⟨_,ho,by rw [layR_length]; exact hl,fun r hr y j hy hj=>?_⟩
 rcases List.mem_append.1 hr with hr | hr
 ·exact a1 _ (h r hr y j hy hj)
 ·obtain rfl:=List.mem_singleton.1 hr
  exact a2 y j (by omega) hj
theorem imI_undo {w : World} {g : Nat} {pcs : Array Value} {W H : Nat} {l : Int} {q n c : Nat} {M : List UInt8} {bp gm g8 g9 gd b4 b5 ga gr gh gi : Nat} {pre : List Rw} {x : Rw} {X : World} (S : ImI w g pcs W H l q n c M bp gm g8 g9 gd b4 b5 ga gr gh gi pre X) (hpre : pre ++ [x] <+: rowsL W H l) (hq : q <= 4) (hW : W <= 64) (hH : H <= 64) (hn : M.length = n) (hn4 : n = 4 * (W * H)) :
 ∀ X1,Only [] X X1 -> Calls Tryz.prog 94 #[x.val,.pointer (some ⟨ga,0,none⟩),.pointer (some ⟨gr,0,none⟩),.pointer (some ⟨gh,0,none⟩)] X1 fun e w' =>
   ∃ Av cv,e = .returned (.tuple #[.slice Av (4 * x.w.toNat) cv,.bool true]) /\ Holds w' 1 Av (4 * x.w.toNat) (bvals (pickL M x W x.w.toNat)) /\ ImJ w g pcs W H l q n c M bp gm g8 g9 gd b4 b5 ga gr gh gi (pre ++ [x]) pre w' /\ Only [ga,gr] X1 w':=fun X1 hx1=>by
 have S1:=ImJ.keep0 S hx1
 have hxr : x ∈ rowsL W H l:=hpre.subset (by simp)
 have hok:=rows_ok W H l x hxr
 have hw:=hok.w0
 have hnn : (M.length : Int) = 4 * ((W : Int) * (H : Int)):=by rw [hn,hn4]; push_cast; rfl
 obtain ⟨r1,r2,r3,r4⟩:=raw_next q hq M W H l (by omega) (by omega) hnn pre x hpre
 have hpl:=pickL_length hok (by omega) (by omega) hnn x.w.toNat (by omega)
 have hsm:=doL_small q M W H l (by omega) (by omega) pre ((List.prefix_append pre [x]).trans hpre)
 have hsa:=doL_small q M W H l (by omega) (by omega) (rowsL W H l) (List.prefix_refl _)
 have hrl : ((rawB q M W H l).drop (doL q M W pre).1.length).length <= 1000000000:=by
  rw [List.length_drop]
  unfold rawB
  omega
 have hri : rowI x.w (smpV 6) 8 = ((4 * x.w.toNat : Nat) : Int):=by
  rw [show smpV 6 = 4 from rfl]
  unfold rowI
  by_cases h1 : (1 <= x.w /\ x.w <= 16384) /\ ((1 : Int) <= 4 /\ (4 : Int) <= 4) /\ isDep 8 = true
  ·rw [if_pos h1]; omega
  ·rw [if_neg h1]
   have : x.w = 0:=by
    by_cases h0 : x.w = 0
    ·exact h0
    ·exact absurd ⟨⟨by omega,by omega⟩,⟨by omega,by omega⟩,rfl⟩ h1
   rw [this]; rfl
 obtain ⟨cs,hb⟩:=S1.box
 obtain ⟨Aa,ca,u1,_,_⟩:=S1.un.ahead
 obtain ⟨Ar,cr,u2,_,_⟩:=S1.un.raw
 have hc:=unIt_any [gi] [gi] x ga gr gh W H 8 6 l (4 * x.w.toNat) 4 (doL q M W pre).2 ((rawB q M W H l).drop (doL q M W pre).1.length) X1 hri (by rfl) r1 hrl (by omega) S1.un (fun j hj=>by
  obtain rfl:=List.mem_singleton.1 hj
  exact hb.lt) ⟨has_ne S1.un.head u1 (by decide),has_ne S1.un.head u2 (by decide)⟩
 rw [r2,r3,<- r4] at hc
 refine hc.mono ?_
 rintro e w' ⟨Av,cv,rfl,hown,hun,ho⟩
 rw [r4,hpl] at hown
 rw [r4,hpl]
 exact ⟨Av,cv,rfl,Holds.of_own hown,S1.undone ho hun,ho⟩
end Go.Proofs.YtjfjmkkkbcgohaaGreatDoor
