import Derived.Test.YtjfjmkkkbcgohaaGreatDoorMFlW
namespace Go.Proofs.YtjfjmkkkbcgohaaGreatDoor
open Go Go.RowKit
def StepsBy (B : List UInt8) (P : GSt -> Prop) : Prop :=
 (∀ a most s t,Stp B a most s t -> P s -> P t) /\
   ∀ (a o : Nat) (l : List UInt8),Src B a o l -> ∀ (g gf gw gr : Nat) (K : List Nat) (f : DF) (v vo : Value) (q : Nat) (x : List UInt8) (s : GSt) (w : World),Rn w g gf gw gr K f v vo l q s.out x -> s.k ≠ 11 -> f.k = s.k ->
     Md w f s -> s.Wf -> Pt s o q -> s.out.length <= f.most -> f.most <= 1073741824 -> x.length <= s.out.length -> P s ->
     Calls Tryz.prog 165 #[.pointer (some ⟨g,0,none⟩),.pointer (some ⟨gf,0,none⟩)] w (fun e w'=>∃ c : Nat,e = .returned (.int .i64 (c : Int)) /\ Went B a o l g gf gw gr K f v vo x s (fun f' t=>f'.k = t.k) (fun f' t=>f'.k = t.k) w c w')
def Ran (B : List UInt8) (a o : Nat) (l : List UInt8) (g gf gw gr : Nat) (K : List Nat) (f : DF) (v vo : Value) (x : List UInt8) (s : GSt) (w : World) (c : Nat) (w' : World) : Prop :=
 ∃ (q' : Nat) (y : List UInt8) (vo' : Value) (f' : DF),Rn w' g gf gw gr K f' v vo' l q' (s.out ++ y) (x ++ y) /\ Since [g,gf,gw,gr] w vo w' vo' /\ Same f f' /\ s.out.length + y.length <= f.most /\
   ((c = 0 /\ f'.k = 11 /\ ∃ t,End B a f.most s 0 t /\ t.out = s.out ++ y /\ t.p = 8 * o + q') \/
     (c = 2 /\ ∃ t,End B a f.most s 2 t /\ t.out = s.out ++ y /\ Md w' f' t /\ Pt t o q' /\ f'.k = t.k /\ t.k ≠ 11) \/
     ((c = 3 \/ c = 5) /\ f'.k ≠ 11 /\ ∃ t,End B a f.most s c t))
def msOf (w : World) (g gr n : Nat) : Nat:=2 * (8 * n - (if numOf w g 1 = 1 then posOf w gr + toByte (posOf w gr) else posOf w gr)) + GSt.rk (numOf w g 1)
theorem msOf_eq {B : List UInt8} {a o : Nat} {l : List UInt8} {w : World} {g gf gw gr q : Nat} {K : List Nat} {f : DF} {v vo : Value} {all x : List UInt8} {t : GSt} (hs : Src B a o l) (h : Rn w g gf gw gr K f v vo l q all x) (hp : Pt t o q) (hk : f.k = t.k) : msOf w g gr l.length = t.ms a:=by
 have h1:=posOf_eq h.rd
 have h2 : numOf w g 1 = t.k:=by rw [<- hk]; exact numOf_eq h.on.dec.k
 have h3:=hs.len
 have h4:=hs.oa
 unfold msOf GSt.ms
 unfold Pt at hp
 rw [h1,h2,hp,h3]
 split <;> omega
theorem Ends.ne11 {L0 D0 : List UInt8} {N a most : Nat} {s u : GSt} (h : Ends L0 D0 N a most s 2 u) : u.k ≠ 11:=by
 rcases h.steps.2 with ⟨h,_⟩ | ⟨h,_⟩
 ·omega
 ·exact h
set_option maxRecDepth 100000 in
set_option maxHeartbeats 8000000 in
theorem run_by (B : List UInt8) {P : GSt -> Prop} (hP : StepsBy B P) (a o : Nat) (l : List UInt8) (hs : Src B a o l) (g gf gw gr : Nat) (K : List Nat) (f : DF) (v vo : Value) (q : Nat) (x : List UInt8) (s : GSt) (w : World) (h : Rn w g gf gw gr K f v vo l q s.out x) (hfk : f.k = s.k)
 (hm : Md w f s) (hwf : s.Wf) (hp : Pt s o q) (hl : s.out.length <= f.most) (hmost : f.most <= 1073741824) (hx : x.length <= s.out.length) (hs0 : P s) :
 Calls Tryz.prog 162 #[.pointer (some ⟨g,0,none⟩),.pointer (some ⟨gf,0,none⟩)] w (fun e w'=>∃ c : Nat,e = .returned (.int .i64 (c : Int)) /\ Ran B a o l g gf gw gr K f v vo x s w c w'):=by
 have HS:=hide (aI hs (aI hwf (aI hmost hx)))
 have HST:=hide (aI h (aI hfk (aI hm (aI hp hl))))
 have HP:=hide (aI hP hs0)
 clear h hs hfk hm hwf hp hl hmost hx hP hs0
 go_enter Tryz.func162,Tryz.ntmps162
 go_wp2_with fail
 go_loopw [5] (fun _ wr=>∃ (q' : Nat) (y : List UInt8) (vo' : Value) (f' : DF) (t : GSt),t.out = s.out ++ y /\ Rn wr g gf gw gr K f' v vo' l q' t.out (x ++ y) /\ Since [g,gf,gw,gr] w vo wr vo' /\ Same f f' /\ s.out.length + y.length <= f.most /\ Md wr f' t /\ Pt t o q' /\ f'.k = t.k /\ Stp B a f.most s t) (fun _ wr=>msOf wr g gr l.length)
 case atStart=>exact ⟨q,[],vo,f,s,by simp,by simpa using HST.out.1,Since.refl _ _ _,Same.refl _,by simpa using HST.out.2.2.2.2,HST.out.2.2.1,HST.out.2.2.2.1,HST.out.2.1,.refl s⟩
 case round =>
  obtain ⟨q',y,vo',f',t,hto,hR,hSi,hsm,hy,hM,hP,hkk,hst⟩:=hrel
  have hms:=msOf_eq HS.out.1 hR hP hkk
  have hwt : t.Wf:=hst.wf okL okD HS.out.2.1
  by_cases hk : t.k = 11
  ·have hD:=hide (done_any g f' wr hR.on.dec true (by rw [hkk,hk]; rfl))
   have HJ:=hide (aI hto (aI hR (aI hSi (aI hsm (aI hy (aI hP (aI hkk (aI hst hk))))))))
   clear hto hR hSi hsm hy hM hP hkk hst hms hwt hk
   go_wp2_with fail
   refine (hD.out).mono ?_
   rintro e w1 ⟨rfl,rfl⟩
   go_wp2_with fail
   go_ret
   have hJ:=HJ.out
   exact ⟨0,rfl,q',y,vo',f',by rw [<- hJ.1]; exact hJ.2.1,hJ.2.2.1,hJ.2.2.2.1,hJ.2.2.2.2.1,.inl ⟨rfl,by rw [hJ.2.2.2.2.2.2.1,hJ.2.2.2.2.2.2.2.2],t,hJ.2.2.2.2.2.2.2.1.done hJ.2.2.2.2.2.2.2.2,hJ.1,hJ.2.2.2.2.2.1.eq (by rw [hJ.2.2.2.2.2.2.2.2]; decide)⟩⟩
  ·have hD:=hide (done_any g f' wr hR.on.dec false (by rw [hkk]; exact decide_eq_false (by omega)))
   have hSt:=hide (HP.out.1.2 a o l HS.out.1 g gf gw gr K f' v vo' q' (x ++ y) t wr hR hk hkk hM hwt hP (by rw [hsm.most,hto,List.length_append]; exact hy) (by rw [hsm.most]; exact HS.out.2.2.1) (by rw [hto,List.length_append,List.length_append]; have:=HS.out.2.2.2; omega) (HP.out.1.1 _ _ _ _ hst HP.out.2))
   have HJ:=hide (aI hto (aI hR (aI hSi (aI hsm (aI hy (aI hms hst))))))
   have HJ11 : Hid (f'.k ≠ 11):=hide (by rw [hkk]; exact hk)
   clear hto hR hSi hsm hy hM hP hkk hst hms hwt hk
   go_wp2_with fail
   refine (hD.out).mono ?_
   rintro e w1 ⟨rfl,rfl⟩
   go_wp2_with fail
   refine (hSt.out).mono ?_
   rintro e w2 ⟨c,rfl,q2,y2,vo2,f2,hR2,hS2,hsm2,hy2,hcase⟩
   have hJ:=HJ.out
   have hS3:=hJ.2.2.1.trans hS2 (fun _ hi _=>hi)
   have hsm3:=hJ.2.2.2.1.trans hsm2
   have hy3 : s.out.length + (y ++ y2).length <= f.most:=by
    rw [hJ.2.2.2.1.most,hJ.1,List.length_append] at hy2
    rw [List.length_append]; omega
   rw [hJ.1,List.append_assoc,List.append_assoc] at hR2
   rw [hJ.2.2.2.1.most,hJ.1,List.append_assoc] at hcase
   have H2:=hide (aI hR2 (aI hS3 (aI hsm3 hy3)))
   clear hS2 hsm2 hy2 hR2 hS3 hsm3 hy3 hJ
   rcases hcase with ⟨rfl,t2,h1,hto2,hM2,hP2,hk2⟩ | ⟨rfl,t2,h1,hto2,hM2,hP2,hk2⟩ | ⟨hc,hk2,t2,h1⟩
   ·have H3:=hide (aI h1 (aI hto2 (aI hM2 (aI hP2 hk2))))
    clear h1 hto2 hM2 hP2 hk2
    go_wp2_with fail
    go_roundw
    case rel=>exact ⟨q2,y ++ y2,vo2,f2,t2,H3.out.2.1,by rw [H3.out.2.1]; exact H2.out.1,H2.out.2.1,H2.out.2.2.1,H2.out.2.2.2,H3.out.2.2.1,H3.out.2.2.2.1,H3.out.2.2.2.2,HJ.out.2.2.2.2.2.2.trans H3.out.1.1⟩
    case measure =>
     have h1:=msOf_eq HS.out.1 H2.out.1 H3.out.2.2.2.1 H3.out.2.2.2.2
     have h2:=HJ.out.2.2.2.2.2.1
     have h3:=H3.out.1.2
     rw [h1,h2]
     exact h3
   ·have H3:=hide (aI h1 (aI hto2 (aI hM2 (aI hP2 hk2))))
    clear h1 hto2 hM2 hP2 hk2
    go_wp2_with fail
    go_ret
    exact ⟨2,rfl,q2,y ++ y2,vo2,f2,H2.out.1,H2.out.2.1,H2.out.2.2.1,H2.out.2.2.2,.inr (.inl ⟨rfl,t2,HJ.out.2.2.2.2.2.2.ends H3.out.1,H3.out.2.1,H3.out.2.2.1,H3.out.2.2.2.1,H3.out.2.2.2.2,H3.out.1.ne11⟩)⟩
   ·have H3:=hide (aI h1 (hk2 HJ11.out))
    clear h1 hk2
    rcases hc with rfl | rfl
    all_goals
     go_wp2_with fail
     go_ret
     exact ⟨_,rfl,q2,y ++ y2,vo2,f2,H2.out.1,H2.out.2.1,H2.out.2.2.1,H2.out.2.2.2,.inr (.inr ⟨by first | exact .inl rfl | exact .inr rfl,H3.out.2,t2,HJ.out.2.2.2.2.2.2.ends H3.out.1⟩)⟩
theorem needN_le (l : List UInt8) (N p : Nat) : needN l N p <= 15:=by
 unfold needN
 split
 ·rename_i h
  have key : ∀ r n,0 < n -> r + n <= 16 -> (scan l N p 16 r n).2.2 <= 15:=by
   intro r
   induction r with
   | zero=>intro n _ _; simp [scan]
   | succ r ih =>
     intro n hn hr
     by_cases hb : bc N p n < Fs (cn l) n + cn l n
     ·rw [scan_hit (by omega) hb]; show n <= 15; omega
     ·rw [scan_next (by omega) hb]; exact ih _ (by omega) (by omega)
  unfold huffN readM
  exact key _ _ (by decide) (by have:=Lg_15 (cn l); omega)
 ·exact Lg_15 _
theorem repB_le (s : Nat) : repB s <= 7:=by unfold repB; split <;> (try split) <;> (try split) <;> omega
theorem GSt.nx_top {L0 D0 : List UInt8} {N most : Nat} {s : GSt} (h : s.Wf) (h11 : s.k ≠ 11) : (s.nx L0 D0 N most).1 <= s.p + 32:=by
 have hk:=h.k
 have key : s.k = 0 \/ s.k = 1 \/ s.k = 2 \/ s.k = 3 \/ s.k = 4 \/ s.k = 5 \/ s.k = 6 \/ s.k = 7 \/ s.k = 8 \/ s.k = 9 \/ s.k = 10:=by omega
 rcases key with k | k | k | k | k | k | k | k | k | k | k
 ·rw [GSt.nx_0 k]; show s.p + 3 <= _; omega
 ·rw [GSt.nx_1 k]; show s.p + 32 <= _; omega
 ·rw [GSt.nx_2 k]; show s.p + 8 <= _; omega
 ·rw [GSt.nx_3 k]; show s.p + 14 <= _; omega
 ·rw [GSt.nx_4 k]; show s.p + 3 <= _; omega
 ·rw [GSt.nx_5 k]; show s.p + needN s.own N s.p <= _; have:=needN_le s.own N s.p; omega
 ·rw [GSt.nx_6 k]; show s.p + repB s.sym <= _; have:=repB_le s.sym; omega
 ·rw [GSt.nx_7 k]; show s.p + needN s.T N s.p <= _; have:=needN_le s.T N s.p; omega
 ·rw [GSt.nx_8 k]; show s.p + lenB s.sym <= _; have:=(len_le s.sym (h.sym8 k).1 (h.sym8 k).2).2; omega
 ·rw [GSt.nx_9 k]; show s.p + needN s.D N s.p <= _; have:=needN_le s.D N s.p; omega
 ·rw [GSt.nx_10 (by omega)]; show s.p + dstB s.sym <= _; have:=(dst_le s.sym (by have:=h.sym10 k; omega)).2.2.1; omega
theorem Ends.far {L0 D0 : List UInt8} {N a most : Nat} {s u : GSt} (h : Ends L0 D0 N a most s 0 u) (hk : s.k ≠ 11) : (s.nx L0 D0 N most).1 <= u.p:=by
 cases h with
 | done _ h=>exact absurd h hk
 | bad _ _ _ _ h3=>rcases GSt.nx_err h3 with h | h <;> cases h
 | go _ t _ _ h1 h2 h3 h4 =>
   have:=GSt.nx_le h3
   have h5:=(h4.on (GSt.nx_on h1 h2 h3).1).1
   omega
section
variable {P : Program} (w : World)
theorem run_append_in (base : Nat) (t ty e : TypeId) (i : TypeInfo) (ht : P.underlying t = some (.slice e)) (hi : P.info? e = some i) (hsize : i.size = 1)
 {g n cap : Nat} {xs : List Value} (hown : w.ownsRow base e 1 (.slice (some ⟨g,0,none⟩) n cap) n xs) {A : Option Addr} {m : Nat} (c : Nat) {news : List Value} (hr : Holds w 1 A m news)
 (h1 : ∀ u ∈ news,u.oneCell' = true) (hroom : n + m <= cap) :
 ∃ w',(Builtin.append_ #[t,t] ty #[.slice (some ⟨g,0,none⟩) n cap,.slice A m c]).run P w = .ok (.slice (some ⟨g,0,none⟩) (n + m) cap) w' /\ w'.ownsRow base e 1 (.slice (some ⟨g,0,none⟩) (n + m) cap) (n + m) (xs ++ news) /\ w.grownBy w' (some g):=by
 rcases hown.2 with ⟨h,_⟩ | ⟨g',cap',cur,hv,hbg,hg,hnc,hcm,hcs,htake⟩
 ·cases h
 ·injection hv with hA _ hc
  injection hA with hA
  injection hA with hA
  subst hA hc
  have hlen : (xs ++ news).length = (n + m) * 1:=by rw [List.length_append,hown.1,hr.1,Nat.add_mul]
  cases A with
  | none =>
    have h0 : m = 0:=by
     rcases Nat.eq_zero_or_pos m with h0 | h0
     ·exact h0
     ·obtain ⟨ad,he,_⟩:=hr.2 h0; cases he
    subst h0
    have hnil : news = []:=List.eq_nil_of_length_eq_zero (by rw [hr.1,Nat.zero_mul])
    subst hnil
    refine ⟨w,?_,by simpa using hown,⟨rfl,rfl,rfl,Nat.le_refl _,fun _ _ _=>rfl⟩⟩
    simp [Builtin.append_,run_underlying ht,sizeOf,typeInfo,hi,Builtin.lenOf,Builtin.firstCells,hnc,storeCells]
  | some ad =>
    have hfit : n * i.size + news.length <= cur.size:=by rw [hr.1,hcs,hsize,<- Nat.add_mul]; exact Nat.mul_le_mul_right _ hroom
    have hrun:=run_append_room (P:=P) w t ty e i ht hi g n cap cur hg ad m c news (by rw [hr.1,hsize]) (fun j u hu=>by
     rcases Nat.eq_zero_or_pos m with h0 | h0
     ·have : news.length = 0:=by rw [hr.1,h0,Nat.zero_mul]
      rw [List.eq_nil_of_length_eq_zero this] at hu; simp at hu
     ·obtain ⟨ad',he,_,hc⟩:=hr.2 h0
      injection he with he; subst he; exact hc j u hu) h1 hroom hfit
    refine ⟨_,hrun,⟨hlen,.inr ⟨g,cap,_,rfl,hbg,setRow_heap w g cur _ e _ hg,hroom,hcm,?_,?_⟩⟩,⟨rfl,rfl,rfl,by simp,fun k _ hk=>setRow_other w g k _ (fun e=>hk (by rw [e]))⟩⟩
    ·simp only [List.size_toArray,List.length_append,List.length_take,List.length_drop,Array.length_toList,hsize] at hfit ⊢
     omega
    ·rw [hsize,htake,<- hlen]
     exact List.take_left
theorem step_append_in {ops : Array Oper} {o : Oper} {a : Act} {K : Act -> World -> Prop} {Q : Exit -> Act -> World -> Prop} {E : Prop} (hgd : o.guard = none) (s x : Operand) (t : TypeId)
 (ho : o.op = .call { callee:=.builtin .append,args:=#[s,x],argTypes:=#[t,t] })
 (base : Nat) {e : TypeId} {i : TypeInfo} (ht : P.underlying t = some (.slice e)) (hi : P.info? e = some i) (hsize : i.size = 1)
 {g n cap : Nat} {xs : List Value} (hown : w.ownsRow base e 1 (.slice (some ⟨g,0,none⟩) n cap) n xs) (hs : a.eval s = .slice (some ⟨g,0,none⟩) n cap) {A : Option Addr} {m c : Nat} {news : List Value} (hr : Holds w 1 A m news) (hx : a.eval x = .slice A m c)
 (h1 : ∀ u ∈ news,u.oneCell' = true) (hroom : n + m <= cap)
 (h : ∀ w',w'.ownsRow base e 1 (.slice (some ⟨g,0,none⟩) (n + m) cap) (n + m) (xs ++ news) -> w.grownBy w' (some g) -> K (a.put o.dst (.slice (some ⟨g,0,none⟩) (n + m) cap)) w') :
 if Region.wanted o (yielded ops a.tmps) = true then Oper.wp P o a w K Q else E:=by
 rw [if_pos (by simp [Region.wanted,hgd])]
 obtain ⟨w',hrun,h2,h3⟩:=run_append_in (P:=P) w base t o.type e i ht hi hsize hown c hr h1 hroom
 unfold Oper.wp execOp
 simp only [ho,resolve,invoke,builtin,Sem.run_bind,Sem.run_pure,Result.andThen_ok,List.map_toArray,List.map_cons,List.map_nil,hs,hx,hrun]
 exact h w' h2 h3
end
end Go.Proofs.YtjfjmkkkbcgohaaGreatDoor
