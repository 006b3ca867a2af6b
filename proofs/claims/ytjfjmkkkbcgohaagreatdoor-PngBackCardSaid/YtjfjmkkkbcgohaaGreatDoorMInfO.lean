import Derived.Test.YtjfjmkkkbcgohaaGreatDoorMFlD
namespace Go.Proofs.YtjfjmkkkbcgohaaGreatDoor
variable {L0 D0 : List UInt8} {N a most : Nat}
theorem GSt.nx_0 {s : GSt} (h : s.k = 0) : s.nx L0 D0 N most =
 (s.p + 3,let v:=N / 2 ^ s.p % 8
   if v / 2 = 0 then .ok { s with k:=1,last:=v % 2 == 1,p:=(s.p + 10) / 8 * 8 }
   else if v / 2 = 1 then .ok { s with k:=7,last:=v % 2 == 1,p:=s.p + 3,T:=L0,D:=D0 }
   else if v / 2 = 2 then .ok { s with k:=3,last:=v % 2 == 1,p:=s.p + 3 } else .error 3):=by unfold GSt.nx; rw [if_pos h]
theorem GSt.nx_1 {s : GSt} (h : s.k = 1) : s.nx L0 D0 N most =
 (s.p + 32,let n:=N / 2 ^ s.p % 65536
   if N / 2 ^ (s.p + 16) % 65536 = 65535 - n then .ok { s with k:=stK s.last n,left:=n,p:=s.p + 32 } else .error 3):=by unfold GSt.nx; rw [if_neg (by omega),if_pos h]
theorem GSt.nx_2 {s : GSt} (h : s.k = 2) : s.nx L0 D0 N most =
 (s.p + 8,if s.out.length < most then .ok { s with k:=stK s.last (s.left - 1),left:=s.left - 1,p:=s.p + 8,out:=s.out ++ [UInt8.ofNat (N / 2 ^ s.p)] } else .error 5):=by unfold GSt.nx; rw [if_neg (by omega),if_neg (by omega),if_pos h]
theorem GSt.nx_3 {s : GSt} (h : s.k = 3) : s.nx L0 D0 N most =
 (s.p + 14,let v:=N / 2 ^ s.p % 16384
   if v % 32 <= 29 /\ v / 32 % 32 <= 29 then .ok { s with k:=4,p:=s.p + 14,nl:=257 + v % 32,nd:=1 + v / 32 % 32,no:=4 + v / 1024,own:=List.replicate 19 0,nOwn:=0,lens:=[] } else .error 3):=by unfold GSt.nx; rw [if_neg (by omega),if_neg (by omega),if_neg (by omega),if_pos h]
theorem GSt.nx_4 {s : GSt} (h : s.k = 4) : s.nx L0 D0 N most =
 (s.p + 3,let own:=s.own.set (rankN.getD s.nOwn 0) (UInt8.ofNat (N / 2 ^ s.p % 8))
   if s.nOwn + 1 < s.no then .ok { s with p:=s.p + 3,own:=own,nOwn:=s.nOwn + 1 }
   else if mayBe (cn own) = true then .ok { s with k:=5,p:=s.p + 3,own:=own,nOwn:=s.nOwn + 1 } else .error 3):=by unfold GSt.nx; rw [if_neg (by omega),if_neg (by omega),if_neg (by omega),if_neg (by omega),if_pos h]
theorem GSt.nx_5 {s : GSt} (h : s.k = 5) : s.nx L0 D0 N most =
 (s.p + needN s.own N s.p,let r:=huffN s.own N s.p
   if r.2.1 ≠ 0 \/ (r.1 = 16 /\ s.lens = []) then .error 3 else .ok { s with k:=6,sym:=r.1,p:=s.p + r.2.2 }):=by unfold GSt.nx; rw [if_neg (by omega),if_neg (by omega),if_neg (by omega),if_neg (by omega),if_neg (by omega),if_pos h]
theorem GSt.nx_6 {s : GSt} (h : s.k = 6) : s.nx L0 D0 N most =
 (s.p + repB s.sym,let m:=repM s.sym + N / 2 ^ s.p % 2 ^ repB s.sym
   let l:=s.lens ++ List.replicate m (repV s.sym s.lens)
   if s.nl + s.nd < l.length then .error 3
   else if l.length < s.nl + s.nd then .ok { s with k:=5,p:=s.p + repB s.sym,lens:=l }
   else if mayBe (cn (l.take s.nl)) = true /\ mayBe (cn (l.drop s.nl)) = true /\ ln l 256 ≠ 0 then .ok { s with k:=7,p:=s.p + repB s.sym,lens:=l,T:=l.take s.nl,D:=l.drop s.nl } else .error 3):=by unfold GSt.nx; rw [if_neg (by omega),if_neg (by omega),if_neg (by omega),if_neg (by omega),if_neg (by omega),if_neg (by omega),if_pos h]
theorem GSt.nx_7 {s : GSt} (h : s.k = 7) : s.nx L0 D0 N most =
 (s.p + needN s.T N s.p,let r:=huffN s.T N s.p
   if r.2.1 ≠ 0 \/ 285 < r.1 then .error 3
   else if r.1 < 256 then (if s.out.length < most then .ok { s with p:=s.p + r.2.2,out:=s.out ++ [UInt8.ofNat r.1] } else .error 5)
   else if r.1 = 256 then .ok { s with k:=behindK s.last,p:=s.p + r.2.2 }
   else .ok { s with k:=8,sym:=r.1,p:=s.p + r.2.2 }):=by unfold GSt.nx; rw [if_neg (by omega),if_neg (by omega),if_neg (by omega),if_neg (by omega),if_neg (by omega),if_neg (by omega),if_neg (by omega),if_pos h]
theorem GSt.nx_8 {s : GSt} (h : s.k = 8) : s.nx L0 D0 N most =
 (s.p + lenB s.sym,.ok { s with k:=9,len:=lenM s.sym + N / 2 ^ s.p % 2 ^ lenB s.sym,p:=s.p + lenB s.sym }):=by unfold GSt.nx; rw [if_neg (by omega),if_neg (by omega),if_neg (by omega),if_neg (by omega),if_neg (by omega),if_neg (by omega),if_neg (by omega),if_neg (by omega),if_pos h]
theorem GSt.nx_9 {s : GSt} (h : s.k = 9) : s.nx L0 D0 N most =
 (s.p + needN s.D N s.p,let r:=huffN s.D N s.p
   if r.2.1 ≠ 0 \/ 29 < r.1 then .error 3 else .ok { s with k:=10,sym:=r.1,p:=s.p + r.2.2 }):=by unfold GSt.nx; rw [if_neg (by omega),if_neg (by omega),if_neg (by omega),if_neg (by omega),if_neg (by omega),if_neg (by omega),if_neg (by omega),if_neg (by omega),if_neg (by omega),if_pos h]
theorem GSt.nx_10 {s : GSt} (h : 9 < s.k) : s.nx L0 D0 N most =
 (s.p + dstB s.sym,let far:=dstM s.sym + N / 2 ^ s.p % 2 ^ dstB s.sym
   if s.out.length < far then .error 3
   else if most < s.out.length + s.len then .error 5 else .ok { s with k:=7,p:=s.p + dstB s.sym,out:=again s.out far s.len }):=by unfold GSt.nx; rw [if_neg (by omega),if_neg (by omega),if_neg (by omega),if_neg (by omega),if_neg (by omega),if_neg (by omega),if_neg (by omega),if_neg (by omega),if_neg (by omega),if_neg (by omega)]
inductive Steps (L0 D0 : List UInt8) (N a most : Nat) : GSt -> GSt -> Prop
 | refl (s : GSt) : Steps L0 D0 N a most s s
 | go (s t u : GSt) (h : s.k ≠ 11) (hp : (s.nx L0 D0 N most).1 <= 8 * a) (ht : (s.nx L0 D0 N most).2 = .ok t) (r : Steps L0 D0 N a most t u) : Steps L0 D0 N a most s u
theorem Steps.trans {s t u : GSt} (h : Steps L0 D0 N a most s t) (h' : Steps L0 D0 N a most t u) : Steps L0 D0 N a most s u:=by
 induction h with
 | refl=>exact h'
 | go s t u h hp ht r ih=>exact .go s t _ h hp ht (ih h')
theorem Steps.one {s t : GSt} {q : Nat} (h : s.k ≠ 11) (hn : s.nx L0 D0 N most = (q,.ok t)) (hq : q <= 8 * a) : Steps L0 D0 N a most s t :=
 .go s t t h (by rw [hn]; exact hq) (by rw [hn]) (.refl t)
theorem Steps.snoc {s t u : GSt} {q : Nat} (r : Steps L0 D0 N a most s t) (h : t.k ≠ 11) (hn : t.nx L0 D0 N most = (q,.ok u)) (hq : q <= 8 * a) : Steps L0 D0 N a most s u :=
 r.trans (.one h hn hq)
theorem Steps.ends {s t u : GSt} {e : Nat} (h : Steps L0 D0 N a most s t) (h' : Ends L0 D0 N a most t e u) : Ends L0 D0 N a most s e u:=by
 induction h with
 | refl=>exact h'
 | go s t u h hp ht r ih=>exact .go s t _ _ h hp ht (ih h')
theorem Steps.bad {s t : GSt} {q e : Nat} (r : Steps L0 D0 N a most s t) (h : t.k ≠ 11) (hn : t.nx L0 D0 N most = (q,.error e)) (hq : q <= 8 * a) : Ends L0 D0 N a most s e t :=
 r.ends (.bad t e h (by rw [hn]; exact hq) (by rw [hn]))
theorem Steps.short {s t : GSt} (r : Steps L0 D0 N a most s t) (h : t.k ≠ 11) (hq : 8 * a < (t.nx L0 D0 N most).1) : Ends L0 D0 N a most s 2 t :=
 r.ends (.short t h hq)
theorem Steps.done {s t : GSt} (r : Steps L0 D0 N a most s t) (h : t.k = 11) : Ends L0 D0 N a most s 0 t:=r.ends (.done t h)
theorem GSt.nx_err {s : GSt} {e : Nat} (h : (s.nx L0 D0 N most).2 = .error e) : e = 3 \/ e = 5:=by
 by_cases h0 : s.k = 0
 ·rw [GSt.nx_0 h0] at h
  dsimp only at h
  repeat' split at h
  all_goals cases h
  all_goals first | exact .inl rfl | exact .inr rfl
 by_cases h1 : s.k = 1
 ·rw [GSt.nx_1 h1] at h
  dsimp only at h
  repeat' split at h
  all_goals cases h
  all_goals first | exact .inl rfl | exact .inr rfl
 by_cases h2 : s.k = 2
 ·rw [GSt.nx_2 h2] at h
  dsimp only at h
  repeat' split at h
  all_goals cases h
  all_goals first | exact .inl rfl | exact .inr rfl
 by_cases h3 : s.k = 3
 ·rw [GSt.nx_3 h3] at h
  dsimp only at h
  repeat' split at h
  all_goals cases h
  all_goals first | exact .inl rfl | exact .inr rfl
 by_cases h4 : s.k = 4
 ·rw [GSt.nx_4 h4] at h
  dsimp only at h
  repeat' split at h
  all_goals cases h
  all_goals first | exact .inl rfl | exact .inr rfl
 by_cases h5 : s.k = 5
 ·rw [GSt.nx_5 h5] at h
  dsimp only at h
  repeat' split at h
  all_goals cases h
  all_goals first | exact .inl rfl | exact .inr rfl
 by_cases h6 : s.k = 6
 ·rw [GSt.nx_6 h6] at h
  dsimp only at h
  repeat' split at h
  all_goals cases h
  all_goals first | exact .inl rfl | exact .inr rfl
 by_cases h7 : s.k = 7
 ·rw [GSt.nx_7 h7] at h
  dsimp only at h
  repeat' split at h
  all_goals cases h
  all_goals first | exact .inl rfl | exact .inr rfl
 by_cases h8 : s.k = 8
 ·rw [GSt.nx_8 h8] at h
  dsimp only at h
  repeat' split at h
  all_goals cases h
  all_goals first | exact .inl rfl | exact .inr rfl
 by_cases h9 : s.k = 9
 ·rw [GSt.nx_9 h9] at h
  dsimp only at h
  repeat' split at h
  all_goals cases h
  all_goals first | exact .inl rfl | exact .inr rfl
 rw [GSt.nx_10 (by omega)] at h
 dsimp only at h
 repeat' split at h
 all_goals cases h
 all_goals first | exact .inl rfl | exact .inr rfl
theorem Ends.steps {s u : GSt} {e : Nat} (h : Ends L0 D0 N a most s e u) :
 Steps L0 D0 N a most s u /\ ((e = 0 /\ u.k = 11) \/ (u.k ≠ 11 /\ ((e = 2 /\ 8 * a < (u.nx L0 D0 N most).1) \/ ((e = 3 \/ e = 5) /\ (u.nx L0 D0 N most).1 <= 8 * a /\ (u.nx L0 D0 N most).2 = .error e)))):=by
 induction h with
 | done s h=>exact ⟨.refl s,.inl ⟨rfl,h⟩⟩
 | short s h hp=>exact ⟨.refl s,.inr ⟨h,.inl ⟨rfl,hp⟩⟩⟩
 | bad s e h hp he=>exact ⟨.refl s,.inr ⟨h,.inr ⟨GSt.nx_err he,hp,he⟩⟩⟩
 | go s t u e h hp ht r ih=>exact ⟨.go s t u h hp ht ih.1,ih.2⟩
theorem Steps.wide {s u : GSt} {a' : Nat} (h : Steps L0 D0 N a most s u) (ha : a <= a') : Steps L0 D0 N a' most s u:=by
 induction h with
 | refl s=>exact .refl s
 | go s t u h hp ht r ih=>exact .go s t u h (by omega) ht ih
theorem Ends.wide {s u : GSt} {e a' : Nat} (h : Ends L0 D0 N a most s e u) (he : e ≠ 2) (ha : a <= a') : Ends L0 D0 N a' most s e u:=by
 obtain ⟨h1,h2⟩:=h.steps
 refine (h1.wide ha).ends ?_
 rcases h2 with ⟨rfl,hk⟩ | ⟨hk,⟨h3,_⟩ | ⟨_,hp,h4⟩⟩
 ·exact .done u hk
 ·exact absurd h3 he
 ·exact .bad u e hk (by omega) h4
theorem bits_parts (N p i j : Nat) : N / 2 ^ p % 2 ^ (i + j) = N / 2 ^ p % 2 ^ i + 2 ^ i * (N / 2 ^ (p + i) % 2 ^ j):=by
 rw [Nat.pow_add,Nat.mod_mul,Nat.div_div_eq_div_mul,<- Nat.pow_add]
end Go.Proofs.YtjfjmkkkbcgohaaGreatDoor
namespace Go.Proofs.YtjfjmkkkbcgohaaGreatDoor
structure OkT (l : List UInt8) : Prop where
 len : l.length <= 320
 far : far l = false
 may : mayBe (cn l) = true
theorem sy_lt {l : List UInt8} (h : l ≠ []) (n j : Nat) : sy l n j < l.length:=by
 unfold sy
 cases hf : (List.range l.length).find? fun i=>ln l i == n && rk l i n == j with
 | none=>exact List.length_pos_iff.2 h
 | some i =>
   have:=List.mem_of_find?_eq_some hf
   exact List.mem_range.1 this
theorem huffN_lt {l : List UInt8} {N p : Nat} (h : (huffN l N p).2.1 = 0) : (huffN l N p).1 < l.length:=by
 by_cases hn : l = []
 ·subst hn
  exfalso
  unfold huffN readM at h
  have : Lg (cn []) 15 = 0:=by decide
  rw [this] at h
  exact absurd (show (3 : Nat) = 0 from h) (by decide)
 ·unfold huffN readM at h ⊢
  have key : ∀ r n,r + n <= 16 -> (scan l N p 16 r n).2.1 = 0 -> (scan l N p 16 r n).1 < l.length:=by
   intro r
   induction r with
   | zero=>intro n _ h; exact absurd h (by simp [scan])
   | succ r ih =>
     intro n hn h
     by_cases hb : bc N p n < Fs (cn l) n + cn l n
     ·rw [scan_hit (by omega) hb]; exact sy_lt ‹_› _ _
     ·rw [scan_next (by omega) hb] at h ⊢; exact ih _ (by omega) h
  exact key _ _ (by have:=Lg_15 (cn l); omega) h
theorem huffN_ok {l : List UInt8} {N p : Nat} (h : ¬ (huffN l N p).2.1 ≠ 0) : (huffN l N p).2.1 = 0:=Decidable.of_not_not h
theorem needN_ok {l : List UInt8} {N p : Nat} (h : (huffN l N p).2.1 = 0) : needN l N p = (huffN l N p).2.2:=by unfold needN; rw [if_pos h]
structure GSt.Wf (s : GSt) : Prop where
 k : s.k <= 11
 code : 7 <= s.k -> s.k <= 10 -> OkT s.T /\ OkT s.D
 sym8 : s.k = 8 -> 257 <= s.sym /\ s.sym <= 285
 sym10 : s.k = 10 -> s.sym <= 29
 len : 9 <= s.k -> s.k <= 10 -> s.len <= 258
 left : s.k = 2 -> 0 < s.left /\ s.left < 65536 /\ s.p % 8 = 0
 by8 : s.k = 1 -> s.p % 8 = 0
 head : 4 <= s.k -> s.k <= 6 -> 257 <= s.nl /\ s.nl <= 286 /\ 1 <= s.nd /\ s.nd <= 30 /\ 4 <= s.no /\ s.no <= 19 /\ s.own.length = 19 /\ (∀ b ∈ s.own,b.toNat <= 7)
 now : s.k = 4 -> s.nOwn < s.no /\ s.lens = []
 said : 5 <= s.k -> s.k <= 6 -> mayBe (cn s.own) = true /\ s.lens.length < s.nl + s.nd /\ ∀ b ∈ s.lens,b.toNat <= 15
 sym6 : s.k = 6 -> s.sym <= 18 /\ (s.sym = 16 -> s.lens ≠ [])
theorem far_of {l : List UInt8} (h : ∀ b ∈ l,b.toNat <= 15) : far l = false:=by
 cases hf : far l with
 | false=>rfl
 | true =>
   exfalso
   unfold far at hf
   rw [List.any_eq_true] at hf
   obtain ⟨b,hb,h2⟩:=hf
   have:=h b hb
   simp only [decide_eq_true_eq] at h2
   omega
theorem behindK_or' (b : Bool) : behindK b = 0 \/ behindK b = 11:=by cases b <;> decide
theorem stK_or (b : Bool) (n : Nat) : (stK b n = 2 /\ 0 < n) \/ (n = 0 /\ (stK b n = 0 \/ stK b n = 11)):=by
 rcases Nat.eq_zero_or_pos n with rfl | h
 ·exact .inr ⟨rfl,by rw [stK_zero]; exact behindK_or' b⟩
 ·exact .inl ⟨stK_pos b h,h⟩
theorem repV_le {s : Nat} {lens : List UInt8} (hs : s <= 18) (h : ∀ b ∈ lens,b.toNat <= 15) : (repV s lens).toNat <= 15:=by
 unfold repV
 split
 ·rw [UInt8.toNat_ofNat']; omega
 ·split
  ·cases lens with
   | nil=>decide
   | cons b l=>rw [List.getLastD_cons]; exact h _ (by rw [<- List.getLast_eq_getLastD]; exact List.getLast_mem (by simp))
  ·decide
variable {L0 D0 : List UInt8} {N a most : Nat}
theorem GSt.nx_wf {s t : GSt} (hL : OkT L0) (hD : OkT D0) (h : s.Wf) (h11 : s.k ≠ 11) (ht : (s.nx L0 D0 N most).2 = .ok t) : t.Wf:=by
 have hk:=h.k
 by_cases h0 : s.k = 0
 ·rw [GSt.nx_0 h0] at ht
  dsimp only at ht
  split at ht
  ·cases ht; constructor <;> (intros; simp only at *; first | omega | contradiction)
  ·split at ht
   ·cases ht; constructor <;> (intros; simp only at *; first | omega | exact ⟨hL,hD⟩ | contradiction)
   ·split at ht
    ·cases ht; constructor <;> (intros; simp only at *; first | omega | contradiction)
    ·cases ht
 by_cases h1 : s.k = 1
 ·rw [GSt.nx_1 h1] at ht
  have hb:=h.by8 h1
  dsimp only at ht
  split at ht
  ·cases ht
   have hst:=stK_or s.last (N / 2 ^ s.p % 65536)
   generalize stK s.last (N / 2 ^ s.p % 65536) = k at hst
   have : N / 2 ^ s.p % 65536 < 65536:=Nat.mod_lt _ (by decide)
   constructor <;> (intros; simp only at *; first | omega | contradiction)
  ·cases ht
 by_cases h2 : s.k = 2
 ·rw [GSt.nx_2 h2] at ht
  have hb:=h.left h2
  dsimp only at ht
  split at ht
  ·cases ht
   have hst:=stK_or s.last (s.left - 1)
   generalize stK s.last (s.left - 1) = k at hst
   constructor <;> (intros; simp only at *; first | omega | contradiction)
  ·cases ht
 by_cases h3 : s.k = 3
 ·rw [GSt.nx_3 h3] at ht
  dsimp only at ht
  split at ht
  ·cases ht
   have : N / 2 ^ s.p % 16384 < 16384:=Nat.mod_lt _ (by decide)
   constructor <;> (intros; simp only at *; first | omega | contradiction | skip)
   ·refine ⟨by omega,by omega,by omega,by omega,by omega,by omega,List.length_replicate,fun b hb=>?_⟩
    rw [List.mem_replicate] at hb
    rw [hb.2]; decide
   ·exact ⟨by omega,trivial⟩
  ·cases ht
 by_cases h4 : s.k = 4
 ·rw [GSt.nx_4 h4] at ht
  have hh:=h.head (by omega) (by omega)
  have hn:=h.now h4
  have how : ∀ b ∈ s.own.set (rankN.getD s.nOwn 0) (UInt8.ofNat (N / 2 ^ s.p % 8)),b.toNat <= 7:=fun b hb=>by
   rcases List.mem_or_eq_of_mem_set hb with h | h
   ·exact hh.2.2.2.2.2.2.2 b h
   ·rw [h,UInt8.toNat_ofNat']; omega
  dsimp only at ht
  split at ht
  ·cases ht
   refine ⟨by simp only; omega,?_,?_,?_,?_,?_,?_,?_,?_,?_,?_⟩
   all_goals (intros; simp only at *; first | omega | contradiction | skip)
   ·exact ⟨hh.1,hh.2.1,hh.2.2.1,hh.2.2.2.1,hh.2.2.2.2.1,hh.2.2.2.2.2.1,by rw [List.length_set]; exact hh.2.2.2.2.2.2.1,how⟩
   ·exact ⟨by omega,hn.2⟩
  ·split at ht
   ·rename_i hm
    cases ht
    refine ⟨by simp only; omega,?_,?_,?_,?_,?_,?_,?_,?_,?_,?_⟩
    all_goals (intros; simp only at *; first | omega | contradiction | skip)
    ·exact ⟨hh.1,hh.2.1,hh.2.2.1,hh.2.2.2.1,hh.2.2.2.2.1,hh.2.2.2.2.2.1,by rw [List.length_set]; exact hh.2.2.2.2.2.2.1,how⟩
    ·refine ⟨hm,by rw [hn.2]; simp only [List.length_nil]; omega,?_⟩
     rw [hn.2]; simp
   ·cases ht
 by_cases h5 : s.k = 5
 ·rw [GSt.nx_5 h5] at ht
  have hh:=h.head (by omega) (by omega)
  have hsd:=h.said (by omega) (by omega)
  dsimp only at ht
  split at ht
  ·cases ht
  ·rename_i hne
   have he : (huffN s.own N s.p).2.1 = 0:=huffN_ok (fun h=>hne (.inl h))
   have hlt:=huffN_lt he
   cases ht
   refine ⟨by simp only; omega,?_,?_,?_,?_,?_,?_,?_,?_,?_,?_⟩
   all_goals (intros; simp only at *; first | omega | contradiction | skip)
   ·exact ⟨by omega,fun h16 hl=>hne (.inr ⟨h16,hl⟩)⟩
 by_cases h6 : s.k = 6
 ·rw [GSt.nx_6 h6] at ht
  have hh:=h.head (by omega) (by omega)
  have hsd:=h.said (by omega) (by omega)
  have hsy:=h.sym6 h6
  have hl : ∀ b ∈ s.lens ++ List.replicate (repM s.sym + N / 2 ^ s.p % 2 ^ repB s.sym) (repV s.sym s.lens),b.toNat <= 15:=fun b hb=>by
   rcases List.mem_append.1 hb with hb | hb
   ·exact hsd.2.2 b hb
   ·rw [(List.mem_replicate.1 hb).2]; exact repV_le hsy.1 hsd.2.2
  dsimp only at ht
  generalize s.lens ++ List.replicate (repM s.sym + N / 2 ^ s.p % 2 ^ repB s.sym) (repV s.sym s.lens) = l at *
  split at ht
  ·cases ht
  ·split at ht
   ·cases ht
    refine ⟨by simp only; omega,?_,?_,?_,?_,?_,?_,?_,?_,?_,?_⟩
    all_goals (intros; simp only at *; first | omega | contradiction | skip)
    ·exact ⟨hsd.1,by assumption,hl⟩
   ·split at ht
    ·rename_i hm
     cases ht
     refine ⟨by simp only; omega,?_,?_,?_,?_,?_,?_,?_,?_,?_,?_⟩
     all_goals (intros; simp only at *; first | omega | contradiction | skip)
     exact ⟨⟨by rw [List.length_take]; omega,far_of fun b hb=>hl b (List.mem_of_mem_take hb),hm.1⟩,⟨by rw [List.length_drop]; omega,far_of fun b hb=>hl b (List.mem_of_mem_drop hb),hm.2.1⟩⟩
    ·cases ht
 by_cases h7 : s.k = 7
 ·rw [GSt.nx_7 h7] at ht
  have hc:=h.code (by omega) (by omega)
  dsimp only at ht
  split at ht
  ·cases ht
  ·rename_i hne
   split at ht
   ·split at ht
    ·cases ht
     refine ⟨by simp only; omega,?_,?_,?_,?_,?_,?_,?_,?_,?_,?_⟩
     all_goals (intros; simp only at *; first | omega | contradiction | exact hc)
    ·cases ht
   ·split at ht
    ·cases ht
     have hst:=behindK_or' s.last
     generalize behindK s.last = k at hst
     refine ⟨by simp only; omega,?_,?_,?_,?_,?_,?_,?_,?_,?_,?_⟩
     all_goals (intros; simp only at *; first | omega | contradiction | skip)
    ·cases ht
     refine ⟨by simp only; omega,?_,?_,?_,?_,?_,?_,?_,?_,?_,?_⟩
     all_goals (intros; simp only at *; first | omega | contradiction | exact hc)
 by_cases h8 : s.k = 8
 ·rw [GSt.nx_8 h8] at ht
  have hc:=h.code (by omega) (by omega)
  have hs:=h.sym8 h8
  dsimp only at ht
  cases ht
  have hlen : lenM s.sym + N / 2 ^ s.p % 2 ^ lenB s.sym <= 258:=by
   have key : ∀ y,257 <= y -> y <= 285 -> lenM y + (2 ^ lenB y - 1) <= 258:=by
    intro y h1 h2
    have all : ∀ d,d < 29 -> lenM (257 + d) + (2 ^ lenB (257 + d) - 1) <= 258:=by decide
    have:=all (y - 257) (by omega)
    rwa [show 257 + (y - 257) = y by omega] at this
   have:=key s.sym hs.1 hs.2
   have h2:=Nat.mod_lt (N / 2 ^ s.p) (Nat.two_pow_pos (lenB s.sym))
   omega
  refine ⟨by simp only; omega,?_,?_,?_,?_,?_,?_,?_,?_,?_,?_⟩
  all_goals (intros; simp only at *; first | omega | contradiction | exact hc)
 by_cases h9 : s.k = 9
 ·rw [GSt.nx_9 h9] at ht
  have hc:=h.code (by omega) (by omega)
  have hl:=h.len (by omega) (by omega)
  dsimp only at ht
  split at ht
  ·cases ht
  ·cases ht
   refine ⟨by simp only; omega,?_,?_,?_,?_,?_,?_,?_,?_,?_,?_⟩
   all_goals (intros; simp only at *; first | omega | contradiction | exact hc)
 rw [GSt.nx_10 (by omega)] at ht
 have hc:=h.code (by omega) (by omega)
 dsimp only at ht
 split at ht
 ·cases ht
 ·split at ht
  ·cases ht
  ·cases ht
   refine ⟨by simp only; omega,?_,?_,?_,?_,?_,?_,?_,?_,?_,?_⟩
   all_goals (intros; simp only at *; first | omega | contradiction | exact hc)
theorem Steps.wf {s t : GSt} (hL : OkT L0) (hD : OkT D0) (r : Steps L0 D0 N a most s t) (h : s.Wf) : t.Wf:=by
 induction r with
 | refl=>exact h
 | go s t u h11 hp ht r ih=>exact ih (GSt.nx_wf hL hD h h11 ht)
theorem GSt.nx_le {s t : GSt} (ht : (s.nx L0 D0 N most).2 = .ok t) : (s.nx L0 D0 N most).1 <= t.p:=by
 by_cases h0 : s.k = 0
 ·rw [GSt.nx_0 h0] at ht ⊢
  dsimp only at ht ⊢
  repeat' split at ht
  all_goals cases ht
  all_goals (show _ <= _; simp only; omega)
 by_cases h1 : s.k = 1
 ·rw [GSt.nx_1 h1] at ht ⊢
  dsimp only at ht ⊢
  repeat' split at ht
  all_goals cases ht
  all_goals exact Nat.le_refl _
 by_cases h2 : s.k = 2
 ·rw [GSt.nx_2 h2] at ht ⊢
  dsimp only at ht ⊢
  repeat' split at ht
  all_goals cases ht
  all_goals exact Nat.le_refl _
 by_cases h3 : s.k = 3
 ·rw [GSt.nx_3 h3] at ht ⊢
  dsimp only at ht ⊢
  repeat' split at ht
  all_goals cases ht
  all_goals exact Nat.le_refl _
 by_cases h4 : s.k = 4
 ·rw [GSt.nx_4 h4] at ht ⊢
  dsimp only at ht ⊢
  repeat' split at ht
  all_goals cases ht
  all_goals exact Nat.le_refl _
 by_cases h5 : s.k = 5
 ·rw [GSt.nx_5 h5] at ht ⊢
  dsimp only at ht ⊢
  split at ht
  ·cases ht
  ·rename_i hne
   rw [needN_ok (huffN_ok fun h=>hne (.inl h))]
   cases ht; exact Nat.le_refl _
 by_cases h6 : s.k = 6
 ·rw [GSt.nx_6 h6] at ht ⊢
  dsimp only at ht ⊢
  repeat' split at ht
  all_goals cases ht
  all_goals exact Nat.le_refl _
 by_cases h7 : s.k = 7
 ·rw [GSt.nx_7 h7] at ht ⊢
  dsimp only at ht ⊢
  split at ht
  ·cases ht
  ·rename_i hne
   rw [needN_ok (huffN_ok fun h=>hne (.inl h))]
   repeat' split at ht
   all_goals cases ht
   all_goals exact Nat.le_refl _
 by_cases h8 : s.k = 8
 ·rw [GSt.nx_8 h8] at ht ⊢
  dsimp only at ht ⊢
  cases ht; exact Nat.le_refl _
 by_cases h9 : s.k = 9
 ·rw [GSt.nx_9 h9] at ht ⊢
  dsimp only at ht ⊢
  split at ht
  ·cases ht
  ·rename_i hne
   rw [needN_ok (huffN_ok fun h=>hne (.inl h))]
   cases ht; exact Nat.le_refl _
 rw [GSt.nx_10 (by omega)] at ht ⊢
 dsimp only at ht ⊢
 repeat' split at ht
 all_goals cases ht
 all_goals exact Nat.le_refl _
def GSt.ms (a : Nat) (s : GSt) : Nat:=2 * (8 * a - s.p) + GSt.rk s.k
theorem GSt.rk_le (k : Nat) : GSt.rk k <= 1:=by unfold rk; split <;> omega
theorem GSt.nx_ms {s t : GSt} (h : s.k ≠ 11) (hp : (s.nx L0 D0 N most).1 <= 8 * a) (ht : (s.nx L0 D0 N most).2 = .ok t) : t.ms a < s.ms a:=by
 have hon:=GSt.nx_on h hp ht
 have:=GSt.rk_le t.k
 have:=GSt.rk_le s.k
 unfold ms
 omega
theorem Steps.ms {s t : GSt} (r : Steps L0 D0 N a most s t) : t.ms a <= s.ms a:=by
 induction r with
 | refl=>exact Nat.le_refl _
 | go s t u h hp ht r ih=>have:=GSt.nx_ms h hp ht; omega
def Steps1 (L0 D0 : List UInt8) (N a most : Nat) (s u : GSt) : Prop:=Steps L0 D0 N a most s u /\ u.ms a < s.ms a
theorem Steps1.one {s t : GSt} {q : Nat} (h : s.k ≠ 11) (hn : s.nx L0 D0 N most = (q,.ok t)) (hq : q <= 8 * a) : Steps1 L0 D0 N a most s t :=
 ⟨.one h hn hq,GSt.nx_ms h (by rw [hn]; exact hq) (by rw [hn])⟩
theorem Steps.then_ {s t u : GSt} (r : Steps L0 D0 N a most s t) (h : Steps1 L0 D0 N a most t u) : Steps1 L0 D0 N a most s u :=
 ⟨r.trans h.1,Nat.lt_of_lt_of_le h.2 r.ms⟩
end Go.Proofs.YtjfjmkkkbcgohaaGreatDoor
namespace Go.Proofs.YtjfjmkkkbcgohaaGreatDoor
open Go Go.RowKit
structure Src (B : List UInt8) (a o : Nat) (l : List UInt8) : Prop where
 eq : l = (B.take a).drop o
 oa : o <= a
 aB : a <= B.length
namespace Src
variable {B : List UInt8} {a o : Nat} {l : List UInt8}
theorem len (h : Src B a o l) : l.length = a - o:=by rw [h.eq]; exact part_length B a o h.aB
theorem bits (h : Src B a o l) {k n : Nat} (hk : 8 * o + k + n <= 8 * a) : bitsOf (num l) k n = bitsOf (num B) (8 * o + k) n:=by rw [h.eq]; exact part_bits B a o k n hk
end Src
def posOf (w : World) (g : Nat) : Nat:=match w.cell? ⟨g,1,none⟩ with
 | some (.int _ k)=>k.toNat
 | _=>0
theorem posOf_eq {w : World} {g : Nat} {v : Value} {l : List UInt8} {k : Nat} (h : Rd w g v l k) : posOf w g = k:=by
 unfold posOf
 have : w.cell? ⟨g,1,none⟩ = some (.int .i64 (k : Int)):=h.1.cell 1
 rw [this]
 rfl
structure Same (f f' : DF) : Prop where
 most : f'.most = f.most
 fault : f'.fault = f.fault
 used : f'.used = f.used
 total : f'.total = f.total
 wt : f'.wt = f.wt
 ps : f'.ps = f.ps
 wb : f'.wb = f.wb
 z : f'.z = f.z
 tail : f'.tail = f.tail
theorem Same.refl (f : DF) : Same f f:=⟨rfl,rfl,rfl,rfl,rfl,rfl,rfl,rfl,rfl⟩
theorem Same.trans {f f' f'' : DF} (h : Same f f') (k : Same f' f'') : Same f f'':=⟨k.most.trans h.most,k.fault.trans h.fault,k.used.trans h.used,k.total.trans h.total,k.wt.trans h.wt,k.ps.trans h.ps,k.wb.trans h.wb,k.z.trans h.z,k.tail.trans h.tail⟩
structure Hd (w : World) (hd : Nat -> Value) (s : GSt) : Prop where
 nl : hd 11 = .int .i64 (s.nl : Int)
 nd : hd 12 = .int .i64 (s.nd : Int)
 no : hd 13 = .int .i64 (s.no : Int)
 own : ∀ i,(h : i < s.own.length) -> hd (14 + i) = .int .u8 (s.own[i].toNat : Int)
 nOwn : hd 33 = .int .i64 (s.nOwn : Int)
 tb : 5 <= s.k -> ∃ gt,hd 34 = .pointer (some ⟨gt,0,none⟩) /\ Tb w gt s.own
 sym : s.k = 6 -> hd 35 = .int .i64 (s.sym : Int)
 lens : ∀ i,(h : i < s.lens.length) -> hd (36 + i) = .int .u8 (s.lens[i].toNat : Int)
 n : hd 352 = .int .i64 (s.lens.length : Int)
structure Tab (w : World) : Prop where
 ranks : ∀ i,i < 19 -> w.cell? ⟨0,i,none⟩ = some (.int .u8 (rankN.getD i 0 : Nat))
 len : ∀ i,i < 29 -> w.cell? ⟨1,2 * i,none⟩ = some (.int .u16 (lenM (257 + i) : Nat)) /\ w.cell? ⟨1,2 * i + 1,none⟩ = some (.int .u8 (lenB (257 + i) : Nat))
 dst : ∀ i,i < 30 -> w.cell? ⟨2,2 * i,none⟩ = some (.int .u16 (dstM i : Nat)) /\ w.cell? ⟨2,2 * i + 1,none⟩ = some (.int .u8 (dstB i : Nat))
theorem Tab.lt0 {w : World} (h : Tab w) : 0 < w.heap.size:=World.block_lt_of_cell? w _ (h.ranks 0 (by omega))
theorem Tab.lt1 {w : World} (h : Tab w) : 1 < w.heap.size:=World.block_lt_of_cell? w _ (h.len 0 (by omega)).1
theorem Tab.lt2 {w : World} (h : Tab w) : 2 < w.heap.size:=World.block_lt_of_cell? w _ (h.dst 0 (by omega)).1
theorem Tab.only {w w' : World} {S : List Nat} (h : Tab w) (ho : Only S w w') (hS : ∀ k ∈ S,k < w.heap.size -> k ∉ Gs) : Tab w':=by
 have n0 : 0 ∉ S:=fun hm=>hS _ hm h.lt0 (by decide)
 have n1 : 1 ∉ S:=fun hm=>hS _ hm h.lt1 (by decide)
 have n2 : 2 ∉ S:=fun hm=>hS _ hm h.lt2 (by decide)
 exact ⟨fun i hi=>(ho.cell (p:=⟨_,i,none⟩) h.lt0 n0).trans (h.ranks i hi),
  fun i hi=>⟨(ho.cell (p:=⟨_,2 * i,none⟩) h.lt1 n1).trans (h.len i hi).1,(ho.cell (p:=⟨_,2 * i + 1,none⟩) h.lt1 n1).trans (h.len i hi).2⟩,
  fun i hi=>⟨(ho.cell (p:=⟨_,2 * i,none⟩) h.lt2 n2).trans (h.dst i hi).1,(ho.cell (p:=⟨_,2 * i + 1,none⟩) h.lt2 n2).trans (h.dst i hi).2⟩⟩
theorem Tab.gs {w : World} (h : Tab w) : ∀ k ∈ Gs,k < w.heap.size:=by
 intro k hk
 simp only [Gs,List.mem_cons,List.not_mem_nil,or_false] at hk
 rcases hk with rfl | rfl | rfl
 ·exact h.lt0
 ·exact h.lt1
 ·exact h.lt2
structure Md (w : World) (f : DF) (s : GSt) : Prop where
 last : f.last = s.last
 left : s.k = 2 -> f.left = s.left
 co : 7 <= s.k -> s.k <= 10 -> CdV w f.co s.T s.D
 sy : s.k = 8 \/ s.k = 10 -> f.sy = s.sym
 le : 9 <= s.k -> s.k <= 10 -> f.le = s.len
 hd : 4 <= s.k -> s.k <= 6 -> Hd w f.hd s
 tab : Tab w
theorem Hd.keep {w w' : World} {hd : Nat -> Value} {s : GSt} {S : List Nat} (h : Hd w hd s) (ho : Only S w w') (hS : Other w S) : Hd w' hd s :=
 ⟨h.nl,h.nd,h.no,h.own,h.nOwn,fun hk=>by obtain ⟨gt,h1,h2⟩:=h.tb hk; exact ⟨gt,h1,h2.keep ho hS⟩,h.sym,h.lens,h.n⟩
theorem Md.keep {w w' : World} {f : DF} {s : GSt} {S : List Nat} (h : Md w f s) (ho : Only S w w') (hS : Other w S) : Md w' f s :=
 ⟨h.last,h.left,fun h1 h2=>(h.co h1 h2).keep ho hS,h.sy,h.le,fun h1 h2=>(h.hd h1 h2).keep ho hS,h.tab.only ho (fun k hk hlt=>(hS k hk hlt).2)⟩
def Pt (s : GSt) (o q : Nat) : Prop:=s.p = 8 * o + (if s.k = 1 then q + toByte q else q)
theorem Pt.of {s : GSt} {o q : Nat} (h : s.p = 8 * o + q) (hk : s.k ≠ 1) : Pt s o q:=by unfold Pt; rw [if_neg hk]; exact h
theorem Pt.eq {s : GSt} {o q : Nat} (h : Pt s o q) (hk : s.k ≠ 1) : s.p = 8 * o + q:=by unfold Pt at h; rw [if_neg hk] at h; exact h
theorem Rn.others {w : World} {g gf gw gr : Nat} {K : List Nat} {f : DF} {v vo : Value} {l : List UInt8} {q : Nat} {all x : List UInt8} (h : Rn w g gf gw gr K f v vo l q all x) {S : List Nat} (hS : ∀ k ∈ S,k < w.heap.size -> k ∈ [g,gf,gw,gr] ++ vo.ownBlock.toList) : Other w S:=fun k hk hlt=>h.other k (hS k hk hlt) hlt
theorem Rn.mdr {w w' : World} {g gf gw gr : Nat} {K : List Nat} {f f' : DF} {v vo : Value} {l : List UInt8} {q : Nat} {all x : List UInt8} {s : GSt} (h : Rn w g gf gw gr K f v vo l q all x) (hm : Md w f' s) (ho : Only [gr] w w') : Md w' f' s :=
 hm.keep ho (h.others (by simp))
theorem Rn.mdg {w w' : World} {g gf gw gr : Nat} {K : List Nat} {f f' : DF} {v vo : Value} {l : List UInt8} {q : Nat} {all x : List UInt8} {s : GSt} (h : Rn w g gf gw gr K f v vo l q all x) (hm : Md w f' s) (ho : Only [g] w w') : Md w' f' s :=
 hm.keep ho (h.others (by simp))
theorem Rn.mdo {w w' : World} {g gf gw gr : Nat} {K : List Nat} {f f' : DF} {v vo : Value} {l : List UInt8} {q : Nat} {all x : List UInt8} {s : GSt} (h : Rn w g gf gw gr K f v vo l q all x) (hm : Md w f' s) (ho : Only [g,gr] w w') : Md w' f' s :=
 hm.keep ho (h.others (by intro k hk _; simp only [List.mem_cons,List.not_mem_nil,or_false,List.mem_append] at hk ⊢; omega))
abbrev Stp (B : List UInt8) (a most : Nat) (s t : GSt) : Prop:=Steps fixedL fixedD2 (num B) a most s t
abbrev Stp1 (B : List UInt8) (a most : Nat) (s t : GSt) : Prop:=Steps1 fixedL fixedD2 (num B) a most s t
abbrev End (B : List UInt8) (a most : Nat) (s : GSt) (e : Nat) (t : GSt) : Prop:=Ends fixedL fixedD2 (num B) a most s e t
abbrev Nx (B : List UInt8) (most : Nat) (s : GSt) : Nat × Except Nat GSt:=s.nx fixedL fixedD2 (num B) most
theorem okL : OkT fixedL:=⟨by rw [fixL_len]; decide,fixL_far,fixL_may⟩
theorem okD : OkT fixedD2:=⟨by rw [fixD2_len]; decide,fixD2_far,fixD2_may⟩
def Went (B : List UInt8) (a o : Nat) (l : List UInt8) (g gf gw gr : Nat) (K : List Nat) (f : DF) (v vo : Value) (x : List UInt8) (s : GSt) (P Q : DF -> GSt -> Prop) (w : World) (c : Nat) (w' : World) : Prop :=
 ∃ (q' : Nat) (y : List UInt8) (vo' : Value) (f' : DF),Rn w' g gf gw gr K f' v vo' l q' (s.out ++ y) (x ++ y) /\ Since [g,gf,gw,gr] w vo w' vo' /\ Same f f' /\ s.out.length + y.length <= f.most /\
   ((c = 0 /\ ∃ t,Stp1 B a f.most s t /\ t.out = s.out ++ y /\ Md w' f' t /\ Pt t o q' /\ P f' t) \/
     (c = 2 /\ ∃ t,End B a f.most s 2 t /\ t.out = s.out ++ y /\ Md w' f' t /\ Pt t o q' /\ Q f' t) \/
     ((c = 3 \/ c = 5) /\ (f.k ≠ 11 -> f'.k ≠ 11) /\ ∃ t,End B a f.most s c t))
end Go.Proofs.YtjfjmkkkbcgohaaGreatDoor
