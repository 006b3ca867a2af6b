import Derived.Test.YtjfjmkkkbcgohaaGreatDoorMHufI
import Derived.Laws.CopyRow
import Derived.Laws.IdiomCopy
import Derived.Lib.AppendZerosOnto
namespace Go.Proofs.YtjfjmkkkbcgohaaGreatDoor
open Go Go.RowKit
structure DF where
 most : Nat
 k : Nat
 fault : Nat
 used : Nat
 total : Nat
 wb : Value
 wn : Nat
 wt : Value
 ps : Nat
 last : Bool
 left : Nat
 hd : Nat -> Value
 co : Value
 fx : Value
 sy : Nat
 le : Nat
 z : Bool
 tail : List Value
def DF.at (f : DF) (i : Nat) : Value :=
 if i = 0 then .int .i64 (f.most : Int) else if i = 1 then .int .i64 (f.k : Int) else if i = 2 then .int .i64 (f.fault : Int) else if i = 3 then .int .i64 (f.used : Int) else if i = 4 then .int .i64 (f.total : Int)
 else if i = 5 then f.wb else if i = 6 then .int .i64 (f.wn : Int) else if i = 7 then f.wt else if i = 8 then .int .i64 (f.ps : Int) else if i = 9 then .bool f.last else if i = 10 then .int .i64 (f.left : Int)
 else if i = 353 then f.co else if i = 354 then f.fx else if i = 355 then .int .i64 (f.sy : Int) else if i = 356 then .int .i64 (f.le : Int) else f.hd i
def DF.cells (f : DF) : Array Value:=((List.range 357).map f.at ++ f.tail).toArray
def DF.ty (f : DF) : TypeId:=if f.z then 172 else 165
theorem DF.ty_ne (f : DF) {t : TypeId} (h1 : t ≠ 172) (h2 : t ≠ 165) : t ≠ f.ty:=by unfold ty; split <;> assumption
theorem DF.ne_ty (f : DF) {t : TypeId} (h1 : 172 ≠ t) (h2 : 165 ≠ t) : f.ty ≠ t:=by unfold ty; split <;> assumption
namespace DF
variable (f : DF)
theorem cells_size : f.cells.size = 357 + f.tail.length:=by simp [cells]
theorem cells_get {i : Nat} (hi : i < 357) : f.cells[i]? = some (f.at i):=by simp [cells,List.getElem?_append,hi]
theorem cells_tail (i : Nat) : f.cells[357 + i]? = f.tail[i]?:=by
 unfold cells
 rw [List.getElem?_toArray,List.getElem?_append_right (by simp)]
 simp
theorem cells_set {f f' : DF} {p : Nat} {v : Value} (hp : p < 357) (h1 : f'.at p = v) (h2 : ∀ i,i ≠ p -> f'.at i = f.at i) (h3 : f'.tail = f.tail:=by rfl) : f.cells.setIfInBounds p v = f'.cells:=by
 apply Array.ext_getElem?
 intro i
 rw [Array.getElem?_setIfInBounds,cells_size]
 by_cases hi : i < 357
 ·rw [cells_get f hi,cells_get f' hi]
  by_cases h : p = i
  ·subst h; rw [if_pos rfl,if_pos (by omega),h1]
  ·rw [if_neg h,h2 i (fun e=>h e.symm)]
 ·rw [if_neg (by omega),show i = 357 + (i - 357) by omega,cells_tail,cells_tail,h3]
theorem cells_set_tail (i : Nat) (v : Value) : f.cells.setIfInBounds (357 + i) v = { f with tail:=f.tail.set i v }.cells:=by
 apply Array.ext_getElem?
 intro j
 rw [Array.getElem?_setIfInBounds,cells_size]
 by_cases hj : j < 357
 ·rw [cells_get f hj,cells_get _ hj,if_neg (by omega)]; rfl
 ·rw [show j = 357 + (j - 357) by omega,cells_tail,cells_tail]
  show _ = (f.tail.set i v)[j - 357]?
  rw [List.getElem?_set]
  by_cases h : i = j - 357
  ·rw [if_pos (by omega),if_pos h]
   by_cases h2 : i < f.tail.length
   ·rw [if_pos (by omega),if_pos h2]
   ·rw [if_neg (by omega),if_neg h2]
  ·rw [if_neg (by omega),if_neg h]
theorem set_k (x : Nat) : f.cells.setIfInBounds 1 (.int .i64 (x : Int)) = { f with k:=x }.cells:=cells_set (by decide) rfl (fun i h=>by simp only [DF.at,h,if_false])
theorem set_fault (x : Nat) : f.cells.setIfInBounds 2 (.int .i64 (x : Int)) = { f with fault:=x }.cells:=cells_set (by decide) rfl (fun i h=>by simp only [DF.at,h,if_false])
theorem set_used (x : Nat) : f.cells.setIfInBounds 3 (.int .i64 (x : Int)) = { f with used:=x }.cells:=cells_set (by decide) rfl (fun i h=>by simp only [DF.at,h,if_false])
theorem set_total (x : Nat) : f.cells.setIfInBounds 4 (.int .i64 (x : Int)) = { f with total:=x }.cells:=cells_set (by decide) rfl (fun i h=>by simp only [DF.at,h,if_false])
theorem set_wn (x : Nat) : f.cells.setIfInBounds 6 (.int .i64 (x : Int)) = { f with wn:=x }.cells:=cells_set (by decide) rfl (fun i h=>by simp only [DF.at,h,if_false])
theorem set_wt (v : Value) : f.cells.setIfInBounds 7 v = { f with wt:=v }.cells:=cells_set (by decide) rfl (fun i h=>by simp only [DF.at,h,if_false])
theorem set_ps (x : Nat) : f.cells.setIfInBounds 8 (.int .i64 (x : Int)) = { f with ps:=x }.cells:=cells_set (by decide) rfl (fun i h=>by simp only [DF.at,h,if_false])
theorem set_last (x : Bool) : f.cells.setIfInBounds 9 (.bool x) = { f with last:=x }.cells:=cells_set (by decide) rfl (fun i h=>by simp only [DF.at,h,if_false])
theorem set_left (x : Nat) : f.cells.setIfInBounds 10 (.int .i64 (x : Int)) = { f with left:=x }.cells:=cells_set (by decide) rfl (fun i h=>by simp only [DF.at,h,if_false])
end DF
def Dc (w : World) (g : Nat) (f : DF) : Prop:=Has w g f.ty f.cells
namespace Dc
variable {w : World} {g : Nat} {f : DF}
theorem at_ (h : Dc w g f) {i : Nat} (hi : i < 357) : w.cell? ⟨g,i,none⟩ = some (f.at i):=by rw [Has.cell h,f.cells_get hi]
theorem most (h : Dc w g f) : w.cell? ⟨g,0,none⟩ = some (.int .i64 (f.most : Int)):=h.at_ (by decide)
theorem k (h : Dc w g f) : w.cell? ⟨g,1,none⟩ = some (.int .i64 (f.k : Int)):=h.at_ (by decide)
theorem fault (h : Dc w g f) : w.cell? ⟨g,2,none⟩ = some (.int .i64 (f.fault : Int)):=h.at_ (by decide)
theorem used (h : Dc w g f) : w.cell? ⟨g,3,none⟩ = some (.int .i64 (f.used : Int)):=h.at_ (by decide)
theorem total (h : Dc w g f) : w.cell? ⟨g,4,none⟩ = some (.int .i64 (f.total : Int)):=h.at_ (by decide)
theorem wb (h : Dc w g f) : w.cell? ⟨g,5,none⟩ = some f.wb:=h.at_ (by decide)
theorem wn (h : Dc w g f) : w.cell? ⟨g,6,none⟩ = some (.int .i64 (f.wn : Int)):=h.at_ (by decide)
theorem wt (h : Dc w g f) : w.cell? ⟨g,7,none⟩ = some f.wt:=h.at_ (by decide)
theorem ps (h : Dc w g f) : w.cell? ⟨g,8,none⟩ = some (.int .i64 (f.ps : Int)):=h.at_ (by decide)
theorem last (h : Dc w g f) : w.cell? ⟨g,9,none⟩ = some (.bool f.last):=h.at_ (by decide)
theorem left (h : Dc w g f) : w.cell? ⟨g,10,none⟩ = some (.int .i64 (f.left : Int)):=h.at_ (by decide)
theorem tail (h : Dc w g f) (i : Nat) : w.cell? ⟨g,357 + i,none⟩ = f.tail[i]?:=by rw [Has.cell h,f.cells_tail]
theorem set_k (h : Dc w g f) (x : Nat) : Dc (w.setCell ⟨g,1,none⟩ (.int .i64 (x : Int))) g { f with k:=x }:=by unfold Dc; rw [<- DF.set_k]; exact Has.set h _ _
theorem set_fault (h : Dc w g f) (x : Nat) : Dc (w.setCell ⟨g,2,none⟩ (.int .i64 (x : Int))) g { f with fault:=x }:=by unfold Dc; rw [<- DF.set_fault]; exact Has.set h _ _
theorem set_used (h : Dc w g f) (x : Nat) : Dc (w.setCell ⟨g,3,none⟩ (.int .i64 (x : Int))) g { f with used:=x }:=by unfold Dc; rw [<- DF.set_used]; exact Has.set h _ _
theorem set_total (h : Dc w g f) (x : Nat) : Dc (w.setCell ⟨g,4,none⟩ (.int .i64 (x : Int))) g { f with total:=x }:=by unfold Dc; rw [<- DF.set_total]; exact Has.set h _ _
theorem set_wn (h : Dc w g f) (x : Nat) : Dc (w.setCell ⟨g,6,none⟩ (.int .i64 (x : Int))) g { f with wn:=x }:=by unfold Dc; rw [<- DF.set_wn]; exact Has.set h _ _
theorem set_wt (h : Dc w g f) (v : Value) : Dc (w.setCell ⟨g,7,none⟩ v) g { f with wt:=v }:=by unfold Dc; rw [<- DF.set_wt]; exact Has.set h _ _
theorem set_ps (h : Dc w g f) (x : Nat) : Dc (w.setCell ⟨g,8,none⟩ (.int .i64 (x : Int))) g { f with ps:=x }:=by unfold Dc; rw [<- DF.set_ps]; exact Has.set h _ _
theorem set_last (h : Dc w g f) (x : Bool) : Dc (w.setCell ⟨g,9,none⟩ (.bool x)) g { f with last:=x }:=by unfold Dc; rw [<- DF.set_last]; exact Has.set h _ _
theorem set_left (h : Dc w g f) (x : Nat) : Dc (w.setCell ⟨g,10,none⟩ (.int .i64 (x : Int))) g { f with left:=x }:=by unfold Dc; rw [<- DF.set_left]; exact Has.set h _ _
theorem set_tail (h : Dc w g f) (i : Nat) (v : Value) : Dc (w.setCell ⟨g,357 + i,none⟩ v) g { f with tail:=f.tail.set i v }:=by unfold Dc; rw [<- DF.cells_set_tail]; exact Has.set h _ _
end Dc
def Rg (w : World) (g : Nat) (x : List UInt8) : Prop :=
 ∃ ws,Has w g 5 ws /\ ws.size = 32768 /\ ∀ i,(h : i < x.length) -> x.length <= i + 32768 -> ws[i % 32768]? = some (.int .u8 (x[i].toNat : Int))
theorem Rg.only {w w' : World} {g : Nat} {x : List UInt8} {S : List Nat} (h : Rg w g x) (ho : Only S w w') (hg : g ∉ S) : Rg w' g x:=by
 obtain ⟨ws,h1,h2⟩:=h; exact ⟨ws,h1.only ho hg,h2⟩
theorem ring_push {x : List UInt8} {ws : Array Value} (c : UInt8) (hs : ws.size = 32768) (h : ∀ i,(h : i < x.length) -> x.length <= i + 32768 -> ws[i % 32768]? = some (.int .u8 (x[i].toNat : Int))) :
 ∀ i,(h : i < (x ++ [c]).length) -> (x ++ [c]).length <= i + 32768 -> (ws.setIfInBounds (x.length % 32768) (.int .u8 (c.toNat : Int)))[i % 32768]? = some (.int .u8 ((x ++ [c])[i].toNat : Int)):=by
 intro i hi hle
 rw [List.length_append,List.length_singleton] at hi hle
 rw [Array.getElem?_setIfInBounds,hs]
 rcases Nat.lt_or_ge i x.length with hx | hx
 ·rw [if_neg (by omega),h i hx (by omega),List.getElem_append_left hx]
 ·obtain rfl : i = x.length:=by omega
  rw [if_pos rfl,if_pos (by omega),List.getElem_append_right (Nat.le_refl _)]
  simp
set_option maxRecDepth 100000 in
set_option maxHeartbeats 1000000 in
theorem put_any (g gw n c : Nat) (ws : Array Value) (w : World) (f : DF) (hD : Dc w g f) (hwb : f.wb = .slice (some ⟨gw,0,none⟩) 32768 32768) (hwn : f.wn = n) (hW : Has w gw 5 ws) (hs : ws.size = 32768) (hn : n <= 1073741824) :
 Calls Tryz.prog 188 #[.pointer (some ⟨g,5,none⟩),.int .u8 c] w fun e w'=>e = .returned (.tuple #[]) /\ Dc w' g { f with wn:=n + 1 } /\ Has w' gw 5 (ws.setIfInBounds (n % 32768) (.int .u8 c)) /\ Only [g,gw] w w':=by
 have hne : g ≠ gw:=Has.ne hD hW (f.ne_ty (by decide) (by decide))
 have hne' : gw ≠ g:=fun h=>hne h.symm
 have c5 : w.cell? ⟨g,5,none⟩ = some (.slice (some ⟨gw,0,none⟩) 32768 32768):=by rw [<- hwb]; exact hD.wb
 have c6 : w.cell? ⟨g,6,none⟩ = some (.int .i64 (n : Int)):=by rw [<- hwn]; exact hD.wn
 have f6 : w.frozen? ⟨g,6,none⟩ = false:=Has.free hD 6
 have hi : n % 32768 < ws.size:=by rw [hs]; omega
 have cw : w.cell? ⟨gw,n % 32768,none⟩ = some ws[n % 32768]:=by rw [hW.cell,Array.getElem?_eq_getElem hi]
 have fw : w.frozen? ⟨gw,n % 32768,none⟩ = false:=hW.free _
 generalize ws[n % 32768] = u at *
 have HH:=hide (aI hD hW)
 have HN:=hide hwn
 have hm : (n : Int).tmod 32768 = ((n % 32768 : Nat) : Int):=rfl
 have hm2 : n % 32768 < 32768:=by omega
 have hm3 : (n % 32768) * 1 = n % 32768:=Nat.mul_one _
 clear hD hW hwb hwn hi hs
 generalize n % 32768 = j at *
 go_enter Tryz.func188,Tryz.ntmps188
 go_wp2
 go_region
 all_goals
  have h1 : Dc (w.setCell ⟨gw,j,none⟩ (.int .u8 (c : Int))).drew g f:=Has.other HH.out.1 (p:=⟨gw,j,none⟩) hne _
  have h2 : Has (w.setCell ⟨gw,j,none⟩ (.int .u8 (c : Int))).drew gw 5 (ws.setIfInBounds j (.int .u8 (c : Int))):=HH.out.2.set j _
  have ho : Only [g,gw] w (w.setCell ⟨gw,j,none⟩ (.int .u8 (c : Int))).drew:=((Only.refl [g,gw] w).setCell (by simp) _).drew
  have k6 : (w.setCell ⟨gw,j,none⟩ (.int .u8 (c : Int))).drew.cell? ⟨g,6,none⟩ = some (.int .i64 (n : Int)):=by rw [<- HN.out]; exact h1.wn
  have q6 : (w.setCell ⟨gw,j,none⟩ (.int .u8 (c : Int))).drew.frozen? ⟨g,6,none⟩ = false:=Has.free h1 6
  have HX:=hide (aI h1 (aI h2 ho))
  clear h1 h2 ho
  generalize (w.setCell ⟨gw,j,none⟩ (.int .u8 (c : Int))).drew = w1 at *
  go_wp2
  go_end0
  exact ⟨rfl,Dc.set_wn HX.out.1 (n + 1),HX.out.2.1.other (p:=⟨g,6,none⟩) hne' _,HX.out.2.2.setCell (by simp) _⟩
structure On (w : World) (g gf gw : Nat) (K : List Nat) (f : DF) (rp vo : Value) (all x : List UInt8) : Prop where
 dec : Dc w g f
 ring : Rg w gw all
 wb : f.wb = .slice (some ⟨gw,0,none⟩) 32768 32768
 wn : f.wn = all.length
 flow : Has w gf 243 #[rp,vo]
 out : w.ownsRow 0 5 1 vo x.length (bvals x)
 gw_ : vo.ownBlock ≠ some gw
 apart : ∀ k ∈ K,vo.ownBlock ≠ some k /\ k < w.heap.size
namespace On
variable {w : World} {g gf gw : Nat} {K : List Nat} {f : DF} {rp vo : Value} {all x : List UInt8}
theorem g_gf (h : On w g gf gw K f rp vo all x) : g ≠ gf:=Has.ne h.dec h.flow (f.ne_ty (by decide) (by decide))
theorem g_gw (h : On w g gf gw K f rp vo all x) : g ≠ gw:=by obtain ⟨ws,hw,_⟩:=h.ring; exact Has.ne h.dec hw (f.ne_ty (by decide) (by decide))
theorem gf_gw (h : On w g gf gw K f rp vo all x) : gf ≠ gw:=by obtain ⟨ws,hw,_⟩:=h.ring; exact Has.ne h.flow hw (by decide)
theorem g_vo (h : On w g gf gw K f rp vo all x) : some g ≠ vo.ownBlock:=own_ne h.out h.dec (f.ty_ne (by decide) (by decide))
theorem gf_vo (h : On w g gf gw K f rp vo all x) : some gf ≠ vo.ownBlock:=own_ne h.out h.flow (by decide)
theorem only {w' : World} {S : List Nat} (h : On w g gf gw K f rp vo all x) (ho : Only S w w') (h1 : g ∉ S) (h2 : gf ∉ S) (h3 : gw ∉ S) (h4 : ∀ b,vo.ownBlock = some b -> b ∉ S) : On w' g gf gw K f rp vo all x :=
 ⟨Has.only h.dec ho h1,h.ring.only ho h3,h.wb,h.wn,Has.only h.flow ho h2,own_keep h.out ho h4,h.gw_,fun k hk=>⟨(h.apart k hk).1,Nat.lt_of_lt_of_le (h.apart k hk).2 ho.size⟩⟩
end On
theorem mem_own {v : Value} {b : Nat} : b ∈ v.ownBlock.toList ↔ v.ownBlock = some b:=by
 cases h : v.ownBlock with
 | none=>simp
 | some k=>simp [eq_comm]
set_option maxRecDepth 100000 in
set_option maxHeartbeats 2000000 in
theorem lay_any (g gf gw : Nat) (K : List Nat) (f : DF) (rp vo : Value) (all x : List UInt8) (c : UInt8) (w : World) (h : On w g gf gw K f rp vo all x) (hn : all.length <= 1073741824) (hx : x.length <= 1073741824) :
 Calls Tryz.prog 180 #[.pointer (some ⟨g,0,none⟩),.pointer (some ⟨gf,0,none⟩),.int .u8 (c.toNat : Int)] w fun e w' =>
  e = .returned (.tuple #[]) /\ ∃ vo',On w' g gf gw K { f with wn:=f.wn + 1 } rp vo' (all ++ [c]) (x ++ [c]) /\ Since [g,gf,gw] w vo w' vo':=by
 obtain ⟨A,cc,rfl,hcc,_⟩:=own_shape h.out
 obtain ⟨ws,hW,hs,hr⟩:=h.ring
 have HP:=hide (put_any g gw f.wn c.toNat ws w f h.dec h.wb rfl hW hs (by rw [h.wn]; exact hn))
 have HH:=hide (aI h (aI hr hs))
 have HN:=hide hx
 clear h hW hs hr hn hx
 go_enter Tryz.func180,Tryz.ntmps180
 go_wp2_with fail
 refine (HP.out).mono ?_
 rintro e w1 ⟨rfl,h1,hw1,ho1⟩
 have hgw : (Value.slice A x.length cc).ownBlock ≠ some gw:=HH.out.1.gw_
 have hnog : ∀ b,(Value.slice A x.length cc).ownBlock = some b -> b ∉ [g,gw]:=fun b hb=>by
  have h1:=HH.out.1.g_vo
  rintro (_ | ⟨_,_ | ⟨_,h⟩⟩)
  ·exact h1 hb.symm
  ·exact hgw hb
  ·cases h
 have hown1 : w1.ownsRow 0 5 1 (.slice A x.length cc) x.length (bvals x):=own_keep HH.out.1.out ho1 hnog
 have hflow1 : Has w1 gf 243 #[rp,.slice A x.length cc]:=Has.only HH.out.1.flow ho1 (by
  rintro (_ | ⟨_,_ | ⟨_,h⟩⟩)
  ·exact HH.out.1.g_gf rfl
  ·exact HH.out.1.gf_gw rfl
  ·cases h)
 have k1 : w1.cell? ⟨gf,1,none⟩ = some (.slice A x.length cc):=hflow1.cell 1
 have H1:=hide (aI h1 (aI hw1 (aI ho1 (aI hown1 (aI hflow1 (aI hgw hnog))))))
 clear h1 hw1 ho1 hown1 hflow1 hgw hnog
 go_wp2_with (at_builtin; refine list_push rfl (.tmp 15) (.tmp 17) rfl w1 (B:=0) (Nat.zero_le _) c rfl H1.out.2.2.2.1 (by have:=HN.out; omega) _ rfl rfl rfl ?_; intro A2 c2 w2 hp2; have HP2:=hide hp2; clear hp2; have q1:=(HP2.out.has H1.out.2.2.2.2.1 (HH.out.1.gf_vo)).cell 1; have q2:=(HP2.out.has H1.out.2.2.2.2.1 (HH.out.1.gf_vo)).free 1)
 go_end0
 have o2:=HP2.out.only
 have hDf:=HH.out.1
 have nb : ∀ k,k < w1.heap.size -> (Value.slice A x.length cc).ownBlock ≠ some k -> k ∉ (Value.slice A x.length cc).ownBlock.toList:=fun k _ hk hm=>hk (mem_own.1 hm)
 have hlt1:=H1.out.2.2.1.size
 have s01 : Since [g,gf,gw] w (.slice A x.length cc) w1 (.slice A x.length cc):=(Since.refl _ _ _).step (H1.out.2.2.1.weak (by simp))
 have s02:=HP2.out.since _ _ _ s01
 have s03 : Since [g,gf,gw] w (.slice A x.length cc) (w2.setCell ⟨gf,1,none⟩ (.slice A2 (x.length + 1) c2)) (.slice A2 (x.length + 1) c2):=s02.step ((Only.refl _ _).setCell (by simp) _)
 have hnew : ∀ k,k < w.heap.size -> (Value.slice A x.length cc).ownBlock ≠ some k -> (Value.slice A2 (x.length + 1) c2).ownBlock ≠ some k:=fun k hk hn he=>by
  rcases s02.own k he with h | h
  ·exact hn h
  ·omega
 obtain ⟨ws0,hws0,_⟩:=hDf.ring
 have hout : w2.ownsRow 0 5 1 (.slice A2 (x.length + 1) c2) (x.length + 1) (bvals (x ++ [c])):=HP2.out.own
 have hgv2 : some gf ≠ (Value.slice A2 (x.length + 1) c2).ownBlock:=own_ne hout ((HP2.out.has H1.out.2.2.2.2.1 hDf.gf_vo)) (by decide)
 refine ⟨rfl,_,⟨?_,?_,?_,?_,?_,?_,?_,?_⟩,s03⟩
 ·exact (Has.only H1.out.1 o2 (nb g (Has.lt H1.out.1) (fun h=>hDf.g_vo h.symm))).other (p:=⟨gf,1,none⟩) hDf.g_gf _
 ·refine ⟨_,(Has.only H1.out.2.1 o2 (nb gw (Has.lt H1.out.2.1) H1.out.2.2.2.2.2.1)).other (p:=⟨gf,1,none⟩) (fun h=>hDf.gf_gw h.symm) _,by rw [Array.size_setIfInBounds]; exact HH.out.2.2,?_⟩
  rw [hDf.wn]
  exact ring_push c HH.out.2.2 HH.out.2.1
 ·exact hDf.wb
 ·show f.wn + 1 = (all ++ [c]).length
  rw [List.length_append,hDf.wn]; rfl
 ·exact (HP2.out.has H1.out.2.2.2.2.1 hDf.gf_vo).set 1 _
 ·rw [List.length_append]
  exact ownsRow_setCell_other hout (fun h=>hgv2 h.symm) _
 ·exact hnew gw (Has.lt hws0) hDf.gw_
 ·intro k hk
  exact ⟨hnew k (hDf.apart k hk).2 (hDf.apart k hk).1,Nat.lt_of_lt_of_le (hDf.apart k hk).2 (by have:=HP2.out.only.size; simp; omega)⟩
theorem op_copy {P : Program} (w : World) {o : Oper} {a : Act} {K : Act -> World -> Prop} {Q : Exit -> Act -> World -> Prop} (d s : Operand) (t : TypeId) (hop : o.op = .call { callee:=.builtin .copy,args:=#[d,s],argTypes:=#[t,t] })
 (elem : TypeId) (g p dLen dCap : Nat) (ad : Addr) (sLen sCap : Nat) (cur : Array Value) (ty : TypeId) (cs : List Value) (hu : P.underlying t = some (.slice elem)) (hs : (P.info? elem).map (·.size) = some 1)
 (hg : Has w g ty cur) (hn : cs.length = Nat.min sLen dLen) (hsrc : ∀ j v,cs[j]? = some v -> w.cell? (ad.add j) = some v) (hfit : p + cs.length <= cur.size) (h1 : ∀ v ∈ cs,v.oneCell' = true)
 (hd : a.eval d = .slice (some ⟨g,p,none⟩) dLen dCap) (hse : a.eval s = .slice (some ad) sLen sCap)
 (h : ∀ w',Has w' g ty (cur.toList.take p ++ cs ++ cur.toList.drop (p + cs.length)).toArray -> Only [g] w w' -> K (a.put o.dst (.int .i64 (cs.length : Int))) w') : o.wp P a w K Q:=by
 have hrun:=run_copy_row (P:=P) w t t o.type elem g p dLen dCap ad sLen sCap cur ty cs hu hs hg hn hsrc hfit h1
 unfold Oper.wp execOp
 simp only [hop,resolve,invoke,builtin,Sem.run_bind,Sem.run_pure,Result.andThen_ok,List.map_toArray,List.map_cons,List.map_nil,hd,hse,hrun]
 exact h _ (hg.setRow _) ((Only.refl _ w).setRow (by simp) _)
theorem step_copy {P : Program} (w : World) {ops : Array Oper} {o : Oper} {a : Act} {K : Act -> World -> Prop} {Q : Exit -> Act -> World -> Prop} {E : Prop} (hgd : o.guard = none) (d s : Operand) (t : TypeId) (hop : o.op = .call { callee:=.builtin .copy,args:=#[d,s],argTypes:=#[t,t] })
 (elem : TypeId) (g p dLen dCap : Nat) (ad : Addr) (sLen sCap : Nat) (cur : Array Value) (ty : TypeId) (cs : List Value) (hu : P.underlying t = some (.slice elem)) (hs : (P.info? elem).map (·.size) = some 1)
 (hg : Has w g ty cur) (hn : cs.length = Nat.min sLen dLen) (hsrc : ∀ j v,cs[j]? = some v -> w.cell? (ad.add j) = some v) (hfit : p + cs.length <= cur.size) (h1 : ∀ v ∈ cs,v.oneCell' = true)
 (hd : a.eval d = .slice (some ⟨g,p,none⟩) dLen dCap) (hse : a.eval s = .slice (some ad) sLen sCap)
 (h : ∀ w',Has w' g ty (cur.toList.take p ++ cs ++ cur.toList.drop (p + cs.length)).toArray -> Only [g] w w' -> K (a.put o.dst (.int .i64 (cs.length : Int))) w') :
 if Region.wanted o (yielded ops a.tmps) = true then Oper.wp P o a w K Q else E:=by
 rw [if_pos (by simp [Region.wanted,hgd])]
 exact op_copy w d s t hop elem g p dLen dCap ad sLen sCap cur ty cs hu hs hg hn hsrc hfit h1 hd hse h
theorem zeros_eq (m : Nat) : madeCells #[.int .u8 0] m = (bvals (List.replicate m 0)).toArray:=by
 apply Array.ext'
 rw [toList_madeCells_one]
 simp [bvals]
theorem int_under : Tryz.prog.underlying 3 = some (.int .i64):=Tryz.underlying3
theorem list_append_zeros (w : World) {ops : Array Oper} {rest : List Oper} {o : Oper} {a : Act} {Q : Exit -> Act -> World -> Prop} (hgd : o.guard = none) (s x : Operand) (hop : o.op = .call { callee:=.builtin .append,args:=#[s,x],argTypes:=#[22,3] })
 (n : Nat) (hn0 : 0 < n) (hn : n <= 100000) (hs : a.eval s = .slice none 0 0) (hx : a.eval x = .int .i64 n)
 (h : ∀ w' G,n <= G -> w'.ownsRow w.heap.size 5 1 (.slice (some ⟨w.heap.size,0,none⟩) 0 G) 0 [] -> Only [] w w' -> wpList Tryz.prog ops Q rest (a.put o.dst (.slice (some ⟨w.heap.size,0,none⟩) n G)) w') : wpList Tryz.prog ops Q (o :: rest) a w:=by
 obtain ⟨i0,hi0,hz0,hz1,hz2⟩:=info_of u8_info
 have hrun:=Lib.run_append_grow_zeros (P:=Tryz.prog) w 22 3 o.type 5 i0 (.int .u8 0) .i64 .i64 Tryz.underlying22 int_under hi0 hz0 none 0 0 [] (run_firstCells_none w.drew i0.size 0 0 0) n hn0 (by omega) (by omega) (by omega) (by rw [hz2]; omega)
  (growslice_fits (by omega) (by rw [hz2]; omega))
 rw [Nat.zero_add] at hrun
 refine wpList_plain hgd fun _ hK=>?_
 unfold Oper.wp execOp
 simp only [hop,resolve,invoke,builtin,Sem.run_bind,Sem.run_pure,Result.andThen_ok,List.map_toArray,List.map_cons,List.map_nil,hs,hx,hrun]
 refine hK _ _ (h _ _ (grownCap_ge w n 0 _) ?_ (((Only.refl [] w).drew).alloc _))
 have hG:=grownCap_le_maxLen w n 0 5 (by unfold maxLen; omega)
 have hge:=grownCap_ge w n 0 5
 refine ⟨rfl,.inr ⟨w.heap.size,_,_,rfl,Nat.le_refl _,Has.new w.drew _ _,Nat.zero_le _,hG,?_,?_⟩⟩
 ·simp [Builtin.zeroCells,Value.cells]; omega
 ·simp
set_option maxRecDepth 100000 in
theorem grow_any (n : Nat) (hn0 : 0 < n) (hn : n <= 100000) (w : World) :
 Calls Tryz.prog 84 #[.slice none 0 0,.int .i64 n] w fun e w'=>∃ G,e = .returned (.slice (some ⟨w.heap.size,0,none⟩) 0 G) /\ w'.ownsRow w.heap.size 5 1 (.slice (some ⟨w.heap.size,0,none⟩) 0 G) 0 [] /\ Only [] w w':=by
 have h1 : ¬ (n : Int) < 0:=by omega
 have h2 : (0 : Int) < (n : Int):=by omega
 go_enter Tryz.func84,Tryz.ntmps84
 go_wp2_with (refine list_append_zeros _ rfl (.tmp 20) (.tmp 21) rfl n hn0 hn rfl rfl ?_; intro w1 G hG hown ho; have H1:=hide (aI hown ho); clear hown ho)
 go_ret
 exact ⟨G,rfl,H1.out.1,H1.out.2⟩
structure CPart where
 A : Option Addr
 c : Nat
 l : List UInt8
def CPart.val (p : CPart) : Value:=.slice p.A p.l.length p.c
def CPart.all (ps : List CPart) : List UInt8:=(ps.map CPart.l).flatten
theorem CPart.all_take (ps : List CPart) (j : Nat) (h : j < ps.length) : CPart.all (ps.take (j + 1)) = CPart.all (ps.take j) ++ ps[j].l:=by
 unfold CPart.all
 rw [List.take_succ_eq_append_getElem h,List.map_append,List.flatten_append]
 simp
theorem CPart.all_le (ps : List CPart) (j : Nat) : (CPart.all (ps.take j)).length <= (CPart.all ps).length:=by
 have h : CPart.all ps = CPart.all (ps.take j) ++ CPart.all (ps.drop j):=by
  unfold CPart.all
  rw [<- List.flatten_append,<- List.map_append,List.take_append_drop]
 rw [h,List.length_append]; omega
set_option maxRecDepth 100000 in
set_option maxHeartbeats 8000000 in
theorem concat_any (PA : Option Addr) (kc : Nat) (ps : List CPart) (w : World) (hP : Holds w 1 PA ps.length (ps.map CPart.val)) (hk : ps.length <= 10) (hps : ∀ p ∈ ps,Holds w 1 p.A p.l.length (bvals p.l)) (ht0 : 0 < (CPart.all ps).length) (ht1 : (CPart.all ps).length <= 100000) :
 Calls Tryz.prog 49 #[.slice PA ps.length kc] w fun e w'=>∃ v,e = .returned v /\ w'.ownsRow w.heap.size 5 1 v (CPart.all ps).length (bvals (CPart.all ps)) /\ Only [] w w':=by
 have HP:=hide (aI hP hps)
 have HG:=hide (fun w1=>grow_any (CPart.all ps).length ht0 ht1 w1)
 clear hP hps
 have hcell : ∀ wr,Only [] w wr -> ∀ j (hj : j < ps.length),∃ b o,PA = some ⟨b,o,none⟩ /\ wr.cell? ⟨b,o + j,none⟩ = some (ps[j].val):=fun wr ho j hj=>by
  obtain ⟨b,o,hA,hc⟩:=(HP.out.1.keep ho (by simp)).addr (by simp; omega)
  refine ⟨b,o,hA,hc j _ ?_⟩
  rw [List.getElem?_map,List.getElem?_eq_getElem hj]; rfl
 have HC:=hide hcell
 clear hcell
 obtain ⟨T,hT⟩ : ∃ T,T = (CPart.all ps).length:=⟨_,rfl⟩
 rw [<- hT] at HG ht0 ht1
 have HT:=hide hT
 clear hT
 go_enter Tryz.func49,Tryz.ntmps49
 go_wp2_with fail
 go_loop [3,11] (fun v i=>∃ j : Nat,j <= ps.length /\ i = .int .i64 j /\ v = .int .i64 ((CPart.all (ps.take j)).length : Nat)) (fun _ i=>ps.length - (intOf i).toNat)
 case atStart=>exact ⟨0,Nat.zero_le _,rfl,rfl⟩
 case round =>
  obtain ⟨j,hj,rfl,rfl⟩:=hrel
  by_cases hlt : j < ps.length
  ·obtain ⟨b,o,rfl,hce⟩:=HC.out w (Only.refl _ _) j hlt
   have e1:=congrArg List.length (CPart.all_take ps j hlt)
   rw [List.length_append] at e1
   have h2:=CPart.all_le ps (j + 1)
   rw [<- HT.out] at h2
   unfold CPart.val at hce
   obtain ⟨a,ha⟩ : ∃ a,a = (CPart.all (ps.take j)).length:=⟨_,rfl⟩
   rw [<- ha] at e1 ⊢
   generalize ps[j].A = pA at *
   generalize ps[j].c = pc at *
   generalize hpl : ps[j].l.length = pl at *
   clear hpl ha
   have hb : a + pl <= 100000:=by omega
   have hneg : ¬ (a : Int) + (pl : Int) < 0:=by omega
   have HE:=hide e1
   clear e1 h2
   go_wp2_with fail
   go_round
   case rel=>exact ⟨j + 1,hlt,by go_num,by rw [HE.out]; go_num⟩
   case measure=>simp [intOf]; omega
  ·obtain rfl : j = ps.length:=by omega
   rw [List.take_length,<- HT.out]
   go_wp2_with fail
   refine (HG.out w).mono ?_
   rintro e w1 ⟨G,rfl,hown,ho⟩
   have H1:=hide (aI hown ho)
   clear hown ho
   go_wp2_with fail
   go_loopw [6,27] (fun v i wr=>∃ (j : Nat) (v' : Value),j <= ps.length /\ i = .int .i64 j /\ v = v' /\ wr.ownsRow w.heap.size 5 1 v' (CPart.all (ps.take j)).length (bvals (CPart.all (ps.take j))) /\ Only [] w wr) (fun _ i _=>ps.length - (intOf i).toNat)
   case atStart=>exact ⟨0,_,Nat.zero_le _,rfl,rfl,H1.out.1,H1.out.2⟩
   case round =>
    obtain ⟨j,v',hj,rfl,rfl,hown,ho⟩:=hrel
    obtain ⟨Av,cv,rfl,_,_⟩:=own_shape hown
    by_cases hlt : j < ps.length
    ·obtain ⟨b,o,rfl,hce⟩:=HC.out wr ho j hlt
     unfold CPart.val at hce
     have hsrc : Holds wr 1 ps[j].A ps[j].l.length (bvals ps[j].l):=(HP.out.2 _ (List.getElem_mem hlt)).keep ho (by simp)
     have e1:=CPart.all_take ps j hlt
     have h2:=CPart.all_le ps (j + 1)
     rw [<- HT.out] at h2
     have h3:=congrArg List.length e1
     rw [List.length_append] at h3
     have hrm : ((CPart.all (ps.take j)).length + ps[j].l.length) * 1 <= 140737488355328:=by omega
     have hone:=bvals_one ps[j].l
     have hbase : w.heap.size <= wr.heap.size:=ho.size
     obtain ⟨i0,hi0,hz0,hz1,hz2⟩:=info_of u8_info
     have HH:=hide (aI hown (aI ho (aI e1 hsrc)))
     clear hown ho e1 h2 h3 hsrc
     go_wp2_with (at_builtin; refine list_append _ rfl (.tmp 31) (.tmp 32) 22 rfl w.heap.size 1 1 Tryz.underlying22 hi0 hz0 hz1 hz2 rfl (Nat.zero_lt_one) HH.out.1 rfl HH.out.2.2.2 rfl hone hrm (Nat.zero_lt_one) hbase ?_; intro A7 c7 w7 hown7 hgrow hat; have H7:=hide (aI hown7 hgrow); clear hown7 hgrow hat)
     go_roundw
     case rel =>
      refine ⟨j + 1,_,hlt,by go_num,rfl,?_,HH.out.2.1.grown H7.out.2 (fun k hk hlt2=>by have:=(HH.out.1.lt k hk).1; omega)⟩
      rw [HH.out.2.2.1,List.length_append,bvals_append]
      exact H7.out.1
     case measure=>simp [intOf]; omega
    ·obtain rfl : j = ps.length:=by omega
     rw [List.take_length] at hown
     have HH:=hide (aI hown ho)
     clear hown ho
     go_wp2_with fail
     go_ret
     refine ⟨_,rfl,?_,HH.out.2⟩
     have:=HH.out.1
     rw [List.take_length] at *
     exact this
end Go.Proofs.YtjfjmkkkbcgohaaGreatDoor
