import Derived.Test.YtpkmpkphfflpjaaGreatTkClashAndLRRun
import Derived.Test.YtpkmpkphfflpjaaGreatMathAndHeldSeq
import Derived.Test.YtpkmpkphfflpjaaGreatMem8AndDerMath
import Derived.Test.YtpkmpkphfflpjaaGreatLfpAndRef3Math
import Derived.Test.YtpkmpkphfflpjaaGreatSetsReadyAndTkOf
import Derived.Test.YtpkmpkphfflpjaaGreatStOfSAndGrowPut
import Derived.Deep.DeepCutAuto
import Derived.Test.YtpkmpkphfflpjaaGreatTab6AndRowI
set_option maxHeartbeats 3200000
set_option maxRecDepth 100000
namespace Go.Proofs.YtpkmpkphfflpjaaGreat
section
variable{T N:Nat}{R:List Ru}{NL:List (List Int)}{Ls:List aX}{tok:List Int}
theorem jR.aeT(lr:lG T N R NL Ls){S:List Nat}{X:List Sy}{F:List (List Int)}{Z:List Int}(h:jR T N R NL Ls S X F Z):∀s∈S,s<Ls.length:=by
 induction h with
 |nil=>intro s hs;simp only[List.mem_singleton]at hs;rw[hs];exact lr.pos
 |push _ _ hg _ _ ih=>
  intro s hs;rcases List.mem_cons.1 hs with rfl|hs
  ·exact hg
  ·exact ih s hs
theorem nE.shape(lr:lG T N R NL Ls){c:PC}(h:nE T N R NL Ls tok c):c.S.length=c.F.length+1/\ve c<Ls.length/\∀s∈c.S,s<Ls.length:=by
 obtain⟨⟨S,X,F,h1,h2,h3⟩,_⟩:=h;have hl:=h3.lens;have ha:=h3.aeT lr;cases S with
 |nil=>cases h3
 |cons e S=>
  refine⟨by rw[h1,h2,List.length_reverse,List.length_reverse];exact hl.1,by rw[nE.top h1];exact ha e (by simp),fun s hs=>ha s ?_⟩;rw[h1]at hs;exact List.mem_reverse.1 hs
theorem nE.red(lr:lG T N R NL Ls){c:PC}(h:nE T N R NL Ls tok c){t m:Nat}(hm:(m:Int)∈(cellP T N R NL Ls (ve c) t).2.1):
 m<R.length/\(R.getD m (0,[])).2.length<=c.F.length/\c.S.getD (c.F.length-(R.getD m (0,[])).2.length) 0<Ls.length/\∃g:Nat,ig T NL (c.S.getD (c.F.length-(R.getD m (0,[])).2.length) 0) (R.getD m (0,[])).1.toNat=(g:Int):=by
 obtain⟨⟨S,X,F,h1,h2,h3⟩,_⟩:=h;cases S with
 |nil=>cases h3
 |cons e S=>
 rw[nE.top h1]at hm;obtain⟨m',hme,Cv,hdn⟩:=OH hm;have:m=m':=by omega
 subst this;obtain⟨q,S2,X2,F1,F2,Z1,Z2,a1,a2,a3,a4,_,a5,a6,a7⟩:=h3.back lr _ hdn.1;have hfl:F.length=F1.length+F2.length:=by rw[a2];simp
 have hrl:(R.getD m (0,[])).2.length=F1.length:=by rw[a3,JS Cv]
 have hk:c.F.length-(R.getD m (0,[])).2.length=F2.length:=by rw[h2,List.length_reverse,hrl,hfl];omega
 have hl2:=a6.lens;have hSd:e::S=(e::S).take F1.length++(q::S2):=by rw[a3,<-a1,List.take_append_drop]
 have hrev:c.S=(q::S2).reverse++((e::S).take F1.length).reverse:=by
  rw[h1];conv=>lhs;rw[hSd]
  rw[List.reverse_append]
 have t2:c.S.getD F2.length 0=q:=by
  rw[hrev]
  have OI:S2.reverse.length=F2.length:=by
   have:=hl2.1;simp only[List.length_cons,List.length_reverse]at this⊢;omega
  simp only[List.reverse_cons,List.append_assoc];rw[<-OI];simp[List.getD]
 rcases a6.awaits lr a7 with⟨h0,_⟩|⟨_,i,hi,hir,hin⟩
 ·omega
 ·have hq:=a6.lt lr
  obtain⟨g,g1,g2,g3,_⟩:=lr.goes hq hi hir hin;refine⟨Cv,by rw[h2,List.length_reverse,hrl,hfl];omega,by rw[hk,t2];exact hq,g,?_⟩;rw[hk,t2];unfold ig;have hg:=g1;unfold yj at hg;have h0:0<=(R.getD m (0,[])).1:=(lr.fine.left (R.getD m (0,[])) (by simp[List.getD,Cv])).1;have e1:(dB T (false,(R.getD m (0,[])).1)).toNat=T+(R.getD m (0,[])).1.toNat:=by simp only[dB,Bool.false_eq_true,if_false];omega
  rw[e1]at hg;exact hg
end
section
variable{T N:Nat}{R:List Ru}{K:Nat}
theorem Cw{k:Nat}(hk:k<K):(fU T N R K).getD k []=rowP T N R (ak T N R K).1 (ak T N R K).2 k:=by
 unfold fU;simp[List.getD,hk]
theorem Cx:(fU T N R K).length=K:=by simp[fU]
theorem OQ{NL:List (List Int)}{Ls:List aX}{k:Nat}:(rowP T N R NL Ls k).length=T+1:=by simp[rowP]
theorem WA{NL:List (List Int)}{Ls:List aX}{k t:Nat}(ht:t<=T):(rowP T N R NL Ls k).getD t (0,[],false)=cellP T N R NL Ls k t:=by
 unfold rowP;simp[List.getD,show t<T+1 by omega]
theorem WB{k:Nat}(hk:k<K):(lY T N R K).getD k []=((ak T N R K).1.getD k []).drop T:=by
 unfold lY;simp[List.getD,hk]
theorem WC:(lY T N R K).length=K:=by simp[lY]
theorem aeU{k n:Nat}(hk:k<K):((lY T N R K).getD k []).getD n 0=ig T (ak T N R K).1 k n:=by
 rw[WB hk];simp[ig,List.getD,List.getElem?_drop]
theorem OT(h:iO (fU T N R K)=0):∀k,k<K->∀t,t<=T->mG (cellP T N R (ak T N R K).1 (ak T N R K).2 k t)=true:=by
 intro k hk t ht;unfold iO at h
 have h1:nR ((fU T N R K).getD k [])=0:=by
  have hm:nR ((fU T N R K).getD k [])∈(fU T N R K).map nR:=List.mem_map.2 ⟨_,by simp[List.getD,Cx,hk],rfl⟩;exact(List.sum_eq_zero_iff_forall_eq_nat.1 h) _ hm
 rw[Cw hk]at h1;unfold nR at h1;rw[List.length_eq_zero_iff,List.filter_eq_nil_iff]at h1;have h2:=h1 (cellP T N R (ak T N R K).1 (ak T N R K).2 k t) (by unfold rowP;exact List.mem_map.2 ⟨t,by simp;omega,rfl⟩);simpa using h2
theorem OU{K':Nat}(h:Whole T N R K)(h':Whole T N R K'):K=K':=by
 rcases Nat.lt_trichotomy K K' with hlt|heq|hlt
 ·have:=EQ h' K hlt
  unfold Whole at h;omega
 ·exact heq
 ·have:=EQ h K' hlt
  unfold Whole at h';omega
theorem OV(h:Whole T N R K):0<K:=by
 obtain⟨E,hE⟩:=Nl (T:=T) (N:=N) (R:=R) 0 K (Nat.zero_le _);unfold Whole at h;rw[hE]at h;have:(ak T N R 0).2.length=1:=rfl;rw[List.length_append,this]at h;omega
end
def jk(T:Int)(tok:List Int):Bool:=tok.all fun t=>decide (0<=t)&&decide (t<T)
def qM(T N:Int)(R:List Ru)(tok:List Int):Int:=if aZ T N R=false then 2 else if 30<tok.length then 1 else if jk T tok=false then 3 else 0
theorem OW{T N:Nat}{R:List Ru}(h:aZ T N R=true):cO T N R:=by
 obtain⟨_,h1,_,_,h5⟩:=kM h
 have mem:∀r∈R,0<=r.1/\r.1<(N:Int)/\∀s∈r.2,0<=s.2/\s.2<if s.1 then (T:Int) else (N:Int):=fun r hr=>by
  obtain⟨q,hq,rfl⟩:=List.getElem_of_mem hr;have e:R.getD q (0,[])=R[q]:=by simp[List.getD,hq]
  rw[<-e];exact⟨(h5 q hq).1,(h5 q hq).2.1,(h5 q hq).2.2.2⟩
 refine⟨fun r hr=>⟨(mem r hr).1,(mem r hr).2.1⟩,fun r hr s hs hb=> ?_,fun r hr s hs hb=> ?_,h1⟩
 ·have:=(mem r hr).2.2 s hs;rw[hb]at this;simpa using this
 ·have:=(mem r hr).2.2 s hs;rw[hb]at this;simpa using this
def JW:OJ->List Int×Int×Int
 | .done d=>(d,-1,0)
 | .none n=>([],n,0)
 | .size=>([],0,1)
def yt(T N:Nat)(R:List Ru)(tok:List Int)(a:List Int×Int×Int):Prop:=
 (More T N R 150/\a=([],0,1))\/∃K,Whole T N R K/\K<=150/\
  ((qM T N R tok≠0/\a=([],0,qM T N R tok))\/(qM T N R tok=0/\0<iO (fU T N R K)/\a=([],0,4))\/
   (qM T N R tok=0/\iO (fU T N R K)=0/\a=JW (mK T N R (ak T N R K).1 (ak T N R K).2 tok)))
theorem yt.one{T N:Nat}{R:List Ru}{tok:List Int}{a b:List Int×Int×Int}(h:yt T N R tok a)(k:yt T N R tok b):a=b:=by
 rcases h with⟨h1,rfl⟩|⟨K,h1,h2,h3⟩
 ·rcases k with⟨_,rfl⟩|⟨K',k1,k2,_⟩
  ·rfl
  ·exact absurd h1 (Jb k1 k2)
 ·rcases k with⟨k1,_⟩|⟨K',k1,k2,k3⟩
  ·exact absurd k1 (Jb h1 h2)
  ·have:=OU h1 k1
   subst this;rcases h3 with⟨h3,rfl⟩|⟨h3,h4,rfl⟩|⟨h3,h4,rfl⟩<;>rcases k3 with⟨k3,rfl⟩|⟨k3,k4,rfl⟩|⟨k3,k4,rfl⟩
   ·rfl
   ·exact absurd k3 h3
   ·exact absurd k3 h3
   ·exact absurd h3 k3
   ·rfl
   ·omega
   ·exact absurd h3 k3
   ·omega
   ·rfl
theorem aeV{T N:Nat}{R:List Ru}{K qs:Nat}(h:Whole T N R K)(hq:qs<K)(hN:0<N):((lY T N R K).getD qs []).length=N:=by
 rw[WB hq,List.length_drop,(Np (EQ h) qs hq 0 (by omega)).1];omega
theorem OX{T N:Nat}{R:List Ru}{m:Nat}(hm:0<m)(h:¬More T N R m):∃K,Whole T N R K/\K<=m:=by
 have f0:(ak T N R 0).2.length=1:=rfl
 have whole:∀k,0<k->k<=m->k-1<(ak T N R (k-1)).2.length->¬k<(ak T N R k).2.length->∃K,Whole T N R K/\K<=m:=fun k hk hkm h1 h2=>by
  have h3:=Nk (T:=T) (N:=N) (R:=R) (show k-1<=k by omega);exact⟨k,by unfold Whole;omega,hkm⟩
 have step:∀k,k<=m->(∀j,j<k->j<(ak T N R j).2.length)\/∃K,Whole T N R K/\K<=m:=by
  intro k
  induction k with
  |zero=>exact fun _=> .inl fun j hj=>absurd hj (Nat.not_lt_zero _)
  |succ k ih=>
   intro hk;rcases ih (by omega) with h1|h1
   ·by_cases hlt:k<(ak T N R k).2.length
    ·refine .inl fun j hj=> ?_
     rcases Nat.lt_succ_iff_lt_or_eq.1 hj with hj|rfl
     ·exact h1 j hj
     ·exact hlt
    ·have hk0:0<k:=by
      rcases Nat.eq_zero_or_pos k with h0|h0
      ·rw[h0]at hlt;omega
      ·exact h0
     exact .inr (whole k hk0 (by omega) (h1 (k-1) (by omega)) hlt)
   ·exact .inr h1
 rcases step m (Nat.le_refl _) with h1|h1
 ·by_cases hlt:m<(ak T N R m).2.length
  ·exfalso
   refine h ⟨m-1,T+N,h1 (m-1) (by omega),Nat.le_refl _,?_⟩;have e:ak T N R (m-1+1)=lu T N R (m-1) (ak T N R (m-1)):=rfl;rw[show m-1+1=m by omega]at e;rw[e,lu]at hlt;exact hlt
  ·exact whole m hm (Nat.le_refl _) (h1 (m-1) (by omega)) hlt
 ·exact h1
theorem OY{T:Nat}{tok:List Int}(hin:jk T tok=true):∀t∈tok,0<=t/\t<(T:Int):=fun t ht=>by
 unfold jk at hin;simpa using List.all_eq_true.1 hin t ht
theorem WE{T N:Nat}{R:List Ru}{tok:List Int}(hm:aZ T N R=true)(h:qM T N R tok=0):tok.length<=30/\jk T tok=true:=by
 unfold qM at h;rw[hm]at h;simp only[Bool.true_eq_false,if_false]at h;split at h
 ·cases h
 ·split at h
  ·cases h
  ·rename_i h1 h2
   exact⟨by omega,by simpa using h2⟩
theorem yt.len{T N:Nat}{R:List Ru}{tok:List Int}{D:List Int}{a x:Int}(hm:aZ T N R=true)(h:yt T N R tok (D,a,x)):D.length<=400:=by
 rcases h with⟨_,h2⟩|⟨K,h1,_,⟨_,h2⟩|⟨_,_,h2⟩|⟨h3,h4,h2⟩⟩
 ·cases h2;simp
 ·cases h2;simp
 ·cases h2;simp
 ·have hf:=OW hm
  have hs:=(Wz (OE hf h1 (OV h1)) (by rw[show (ak T N R K).2.length=K from h1];exact OT h4) (OY (WE hm h3).2)).1;cases he:mK T N R (ak T N R K).1 (ak T N R K).2 tok with
  |done d=>rw[he]at h2;cases h2;exact(hs _ he).2
  |none n=>rw[he]at h2;cases h2;simp
  |size=>rw[he]at h2;cases h2;simp
end Go.Proofs.YtpkmpkphfflpjaaGreat
namespace Go.Proofs.YtpkmpkphfflpjaaGreat
open Go.RowKit
theorem aeW{w:World}{gb:Nat}{T x:Int}(hg:w.cell? ⟨gb,0,none⟩=some (.int .i64 T)):
 Calls Tryz.prog 16 #[.int .i64 x,.pointer (some ⟨gb,0,none⟩)] w fun e w'=>e= .returned (.bool (!(decide (0<=x)&&decide (x<T))))/\Below w.heap.size w w':=by
 by_cases h0:x<0
 ·have e:(!(decide (0<=x)&&decide (x<T)))=true:=by simp;omega
  rw[e];clear e
  go_enter Tryz.func16,Tryz.ntmps16
  go_wp2_with fail
  go_ret;exact⟨rfl,Below.refl _ _⟩
 ·have hd:decide (x<0)=false:=decide_eq_false h0
  by_cases h1:T<=x
  ·have e:(!(decide (0<=x)&&decide (x<T)))=true:=by simp;omega
   rw[e];clear e
   go_enter Tryz.func16,Tryz.ntmps16
   go_wp2_with fail
   go_ret;exact⟨rfl,Below.refl _ _⟩
  ·have e:(!(decide (0<=x)&&decide (x<T)))=false:=by simp;omega
   have hd1:decide (T<=x)=false:=decide_eq_false h1;rw[e];clear e
   go_enter Tryz.func16,Tryz.ntmps16
   go_wp2_with fail
   go_ret;exact⟨rfl,Below.refl _ _⟩
theorem aeX{w:World}{gb lim:Nat}{T:Int}{tv:Value}{tok:List Int}(hg:w.cell? ⟨gb,0,none⟩=some (.int .i64 T))(ht:aH w lim tv tok)(hlim:lim<=w.heap.size)(pU:tok.length<=1000):
 Calls Tryz.prog 35 #[tv,.func (.func 16) #[] #[.pointer (some ⟨gb,0,none⟩)]] w fun e w'=> ∃z:Int,e= .returned (.int .i64 z)/\decide (0<=z)=(!jk T tok)/\Below w.heap.size w w':=by
 obtain⟨ta,tc,jS⟩:=ht.1;subst jS;have HT:Hid (aH w w.heap.size (.slice ta tok.length tc) tok):=ht.mono hlim;have HG:Hid (w.cell? ⟨gb,0,none⟩=some (.int .i64 T)):=hg;clear ht hg hlim
 go_enter Tryz.func35,Tryz.ntmps35
 go_wp2_with fail
 go_loopw [8] (fun s wr=> ∃k:Nat,s= .int .i64 k/\k<=tok.length/\Below w.heap.size w wr/\jk T (tok.take k)=true) (fun s _=>tok.length-(intOf s).toNat)
 case atStart=>exact⟨0,rfl,Nat.zero_le _,Below.refl _ _,rfl⟩
 case round=>
  obtain⟨k,rfl,hk,hB,hIn⟩:=hrel;have HB:Hid (Below w.heap.size w wr):=hB;have Fg:Hid (jk T (tok.take k)=true):=hIn;by_cases hlt:k<tok.length
  ·obtain⟨b,o,c,hv,hbl,q0⟩:=HT.out.2 k hlt
   cases hv;have q1:=(hB.cell (p:=⟨b,o+k,none⟩) hbl).trans q0;obtain⟨x,hx⟩:∃x,tok.getD k 0=x:=⟨_,rfl⟩;rw[hx]at q1;have Cy:=aeW (x:=x) ((hB.cell (World.block_lt_of_cell? _ _ HG.out)).trans HG.out);have hxe:tok[k]=x:=by rw[<-hx];simp[List.getD,hlt]
   have i0:(0:Int)<=(k:Int):=Int.natCast_nonneg _;have i1:(k:Int)<(tok.length:Int):=by omega
   clear hB hIn q0 hx;cases hw:(decide (0<=x)&&decide (x<T)) with
   |false=>
    rw[hw]at Cy
    have HE:Hid (jk T tok=false):=by
     show jk T tok=false;unfold jk;rw[List.all_eq_false];exact⟨tok[k],List.getElem_mem hlt,by rw[hxe,hw];simp⟩
    clear hxe hw;simp only[Bool.not_false]at Cy
    go_wp2_with (go_at_call 16;refine Cy.mono ?_;rintro e w1 ⟨rfl,hB1⟩)
    go_ret;exact⟨k,rfl,by rw[HE.out];simp,HB.out.trans (hB1.mono HB.out.size)⟩
   |true=>
    rw[hw]at Cy
    have HE:Hid (jk T (tok.take (k+1))=true):=by
     show jk T (tok.take (k+1))=true;have:=Fg.out;unfold jk at this⊢;rw[List.take_succ_eq_append_getElem hlt,List.all_append,this,hxe];simpa using hw
    clear hxe hw;simp only[Bool.not_true]at Cy
    go_wp2_with (go_at_call 16;refine Cy.mono ?_;rintro e w1 ⟨rfl,hB1⟩)
    go_roundw
    case rel=>exact⟨k+1,by go_num,by omega,HB.out.trans (hB1.mono HB.out.size),HE.out⟩
    case measure=>simp[intOf];omega
  ·have HE:Hid (jk T tok=true):=by
    show jk T tok=true;have:=Fg.out
    rwa [List.take_of_length_le (by omega)]at this
   clear hB hIn
   go_wp2_with fail
   go_ret;exact⟨-1,rfl,by rw[HE.out];rfl,HB.out⟩
theorem aeY{w:World}{gb lim:Nat}{T:Int}{tv:Value}{tok:List Int}(hg:w.cell? ⟨gb,0,none⟩=some (.int .i64 T))(ht:aH w lim tv tok)(hlim:lim<=w.heap.size)(pU:tok.length<=1000):
 Calls Tryz.prog 17 #[tv,.func (.func 16) #[] #[.pointer (some ⟨gb,0,none⟩)]] w fun e w'=>e= .returned (.bool (!jk T tok))/\Below w.heap.size w w':=by
 have ix:=aeX hg ht hlim pU;obtain⟨ta,tc,jS⟩:=ht.1;subst jS;clear hg ht hlim
 go_enter Tryz.func17,Tryz.ntmps17
 go_wp2_with (go_at_call 35;refine ix.mono ?_;rintro e w1 ⟨z,rfl,hz,hB1⟩)
 go_ret;exact⟨rfl,hB1⟩
structure tO(w:World)(T N:Int)(ra:Option Addr)(rc:Nat)(ta:Option Addr)(tc:Nat)(R:List Ru)(tok:List Int)(wq:World):Prop where
 b0:wq.cell? ⟨w.heap.size,0,none⟩=some (.int .i64 T)
 b1:wq.cell? ⟨w.heap.size,1,none⟩=some (.int .i64 N)
 b2:wq.cell? ⟨w.heap.size,2,none⟩=some (.slice ra R.length rc)
 x0:wq.cell? ⟨w.heap.size+1,0,none⟩=some (.slice none 0 0)
 x1:wq.cell? ⟨w.heap.size+1,1,none⟩=some (.slice none 0 0)
 xf0:wq.frozen? ⟨w.heap.size+1,0,none⟩=false
 xf1:wq.frozen? ⟨w.heap.size+1,1,none⟩=false
 rules:aD wq wq.heap.size (.slice ra R.length rc) R
 toks:aH wq w.heap.size (.slice ta tok.length tc) tok
 below:Below w.heap.size w wq
 size:w.heap.size+2<=wq.heap.size
theorem tO.later{w:World}{T N:Int}{ra:Option Addr}{rc:Nat}{ta:Option Addr}{tc:Nat}{R:List Ru}{tok:List Int}{wq w':World}(h:tO w T N ra rc ta tc R tok wq)(hb:Below wq.heap.size wq w'):tO w T N ra rc ta tc R tok w':=by
 have hs:=h.size;have hB:=h.below.trans (hb.mono (by omega));exact⟨(hb.cell (by simp only;omega)).trans h.b0,(hb.cell (by simp only;omega)).trans h.b1,(hb.cell (by simp only;omega)).trans h.b2,(hb.cell (by simp only;omega)).trans h.x0,(hb.cell (by simp only;omega)).trans h.x1,(hb.frozen (by simp only;omega)).trans h.xf0,(hb.frozen (by simp only;omega)).trans h.xf1,(h.rules.below hb).mono hb.size,h.toks.below (hb.mono (by omega)),hB,Nat.le_trans hs hb.size⟩
theorem OZ{w:World}{T N:Int}{ra:Option Addr}{rc:Nat}{ta:Option Addr}{tc:Nat}{R:List Ru}{tok:List Int}(hr:aD w w.heap.size (.slice ra R.length rc) R)(ht:aH w w.heap.size (.slice ta tok.length tc) tok):
 tO w T N ra rc ta tc R tok ((w.alloc (.cells #[.int .i64 T,.int .i64 N,.slice ra R.length rc] 24)).alloc (.cells #[.slice none 0 0,.slice none 0 0] 44)):=by
 have hB:Below w.heap.size w ((w.alloc (.cells #[.int .i64 T,.int .i64 N,.slice ra R.length rc] 24)).alloc (.cells #[.slice none 0 0,.slice none 0 0] 44)):=((Below.refl _ _).alloc (Nat.le_refl _) _).alloc (by simp) _;exact⟨by simp[go_sem],by simp[go_sem],by simp[go_sem],by simp[go_sem],by simp[go_sem],by simp[go_sem],by simp[go_sem],(hr.below hB).mono hB.size,ht.below hB,hB,by simp⟩
abbrev wF(e:Int):Value:= .tuple #[.agg #[.slice none 0 0,.slice none 0 0],.int .i64 e]
theorem aeZ{w:World}{T N:Int}{rv tv:Value}{R:List Ru}{tok:List Int}(hr:aD w w.heap.size rv R)(ht:aH w w.heap.size tv tok)(hm:aZ T N R=true)(pU:30<tok.length):
 Calls Tryz.prog 10 #[.agg #[.int .i64 T,.int .i64 N,rv],tv] w fun e w'=>e= .returned (wF 1)/\Below w.heap.size w w':=by
 obtain⟨ra,rc,bW⟩:=hr.1;obtain⟨ta,tc,jS⟩:=ht.1;subst bW;subst jS;have HX:Hid (tO w T N ra rc ta tc R tok ((w.alloc (.cells #[.int .i64 T,.int .i64 N,.slice ra R.length rc] 24)).alloc (.cells #[.slice none 0 0,.slice none 0 0] 44))):=OZ hr ht;have may:=sQ (T:=T) (N:=N) HX.out.rules;rw[hm]at may;have j0:(30:Int)<(tok.length:Int):=by omega
 clear hr ht hm
 go_enter Tryz.func10,Tryz.ntmps10
 go_wp2_with
  (go_at_call 13;refine may.mono ?_;rintro e w1 ⟨rfl,hB1⟩
   have hX:=HX.out.later hB1;have x0:=hX.x0;have x1:=hX.x1;have xf0:=hX.xf0;have xf1:=hX.xf1;have HB:Hid (Below w.heap.size w w1):=hX.below
   clear hX hB1 may)
 refine bodyPost_ret (v:=wF 1) (by simp[results,Tryz.results10,go_sem,x0,x1]) rfl ⟨rfl,(HB.out.setCell (by simp) _).setCell (by simp) _⟩
theorem ae0{w:World}{T N:Nat}{rv tv:Value}{R:List Ru}{tok:List Int}(hr:aD w w.heap.size rv R)(ht:aH w w.heap.size tv tok)(hm:aZ T N R=true)(pU:tok.length<=30)(hmo:More T N R 150):
 Calls Tryz.prog 10 #[.agg #[.int .i64 T,.int .i64 N,rv],tv] w fun e w'=>e= .returned (wF 1)/\Below w.heap.size w w':=by
 obtain⟨ra,rc,bW⟩:=hr.1;obtain⟨ta,tc,jS⟩:=ht.1;subst bW;subst jS;have HX:Hid (tO w T N ra rc ta tc R tok ((w.alloc (.cells #[.int .i64 T,.int .i64 N,.slice ra R.length rc] 24)).alloc (.cells #[.slice none 0 0,.slice none 0 0] 44))):=OZ hr ht;have may:=sQ (T:=T) (N:=N) HX.out.rules;rw[hm]at may;have HM:Hid (aZ T N R=true):=hm;have O0:Hid (More T N R 150):=hmo;have j0:decide ((30:Int)<(tok.length:Int))=false:=decide_eq_false (by omega);clear hr ht hm hmo
 go_enter Tryz.func10,Tryz.ntmps10
 go_wp2_with
  (first
   |(go_at_call 13;refine may.mono ?_;rintro e w1 ⟨rfl,hB1⟩
     have hX:=HX.out.later hB1;have b0:=hX.b0;have b1:=hX.b1;have b2:=hX.b2;have jZ:Hid (tO w T N ra rc ta tc R tok w1):=hX
     have FO:=(aes (T:=T) (N:=N) hX.rules HM.out).mono (R':=fun e w'=>e= .returned (.tuple #[.agg #[.slice none 0 0,.slice none 0 0],.int .i64 1])/\Below w1.heap.size w1 w') fun e w' h=>by
      rcases h with⟨h1,h2,_⟩|⟨K,cv,gv,_,_,h3,h4,_⟩
      ·exact⟨h1,h2⟩
      ·exact absurd O0.out (Jb h3 h4)
     clear hX hB1 may)
   |(go_at_call 15;refine FO.mono ?_;rintro e w2 ⟨rfl,hB2⟩
     have hX:=(jZ.out.later hB2).later ((Below.refl _ _).alloc (Nat.le_refl _) (.cells #[.slice none 0 0,.slice none 0 0] 44));have x0:=hX.x0;have x1:=hX.x1;have xf0:=hX.xf0;have xf1:=hX.xf1;have HB:Hid (Below w.heap.size w (w2.alloc (.cells #[.slice none 0 0,.slice none 0 0] 44))):=hX.below
     clear hX hB2 FO))
 refine bodyPost_ret (v:=wF 1) (by simp[results,Tryz.results10,go_sem,x0,x1]) rfl ⟨rfl,(HB.out.setCell (by simp) _).setCell (by simp) _⟩
theorem ae1{w:World}{T N:Nat}{rv tv:Value}{R:List Ru}{tok:List Int}(hr:aD w w.heap.size rv R)(ht:aH w w.heap.size tv tok)(hm:aZ T N R=true)(pU:tok.length<=30)(hmo:¬More T N R 150):
 Calls Tryz.prog 10 #[.agg #[.int .i64 T,.int .i64 N,rv],tv] w fun e w'=> ∃K,Whole T N R K/\K<=150/\Below w.heap.size w w'/\((jk T tok=false/\e= .returned (wF 3))\/(jk T tok=true/\0<iO (fU T N R K)/\e= .returned (wF 4))\/
  (jk T tok=true/\iO (fU T N R K)=0/\∃ca cc ga gc,e= .returned (.tuple #[.agg #[.slice ca K cc,.slice ga K gc],.int .i64 0])/\TabAt w' (.slice ca K cc) (.slice ga K gc) (fU T N R K) (lY T N R K))):=by
 obtain⟨hT,hN1,hN,hRl,zh⟩:=kM hm;obtain⟨ra,rc,bW⟩:=hr.1;obtain⟨ta,tc,jS⟩:=ht.1;subst bW;subst jS;have HX:Hid (tO w T N ra rc ta tc R tok ((w.alloc (.cells #[.int .i64 T,.int .i64 N,.slice ra R.length rc] 24)).alloc (.cells #[.slice none 0 0,.slice none 0 0] 44))):=OZ hr ht;have may:=sQ (T:=T) (N:=N) HX.out.rules;rw[hm]at may;have HM:Hid (aZ T N R=true):=hm;have O0:Hid (¬More T N R 150):=hmo;have HRl:Hid (R.length<=1000):=by show R.length<=1000;omega
 have ql:Hid (T<=900):=by show T<=900;omega
 have j0:decide ((30:Int)<(tok.length:Int))=false:=decide_eq_false (by omega);clear hr ht hm hmo zh
 go_enter Tryz.func10,Tryz.ntmps10
 go_upto_region 9 with
  (first
   |(go_at_call 13;refine may.mono ?_;rintro e w1 ⟨rfl,hB1⟩
     have hX:=HX.out.later hB1;have b0:=hX.b0;have b1:=hX.b1;have b2:=hX.b2;have jZ:Hid (tO w T N ra rc ta tc R tok w1):=hX
     have FO:=(V7 (T:=T) (N:=N) hX.rules HM.out).mono (R':=fun e w'=> ∃K ca cc ga gc,e= .returned (.tuple #[.agg #[.slice ca K cc,.slice ga K gc],.int .i64 0])/\Below w1.heap.size w1 w'/\Whole T N R K/\K<=150/\∀w'':World,(∀b,w1.heap.size<=b->b<w'.heap.size->w''.heap[b]?=w'.heap[b]?)->TabAt w'' (.slice ca K cc) (.slice ga K gc) (fU T N R K) (lY T N R K)) fun e w' h=>by
      rcases h with⟨_,_,h2⟩|⟨K,cv,gv,h1,h2,h3,h4,h5⟩
      ·exact absurd h2 O0.out
      ·have h6:=h5 w' fun _ _ _=>rfl
       obtain⟨ca,cc,hcv⟩:=h6.cells.1;obtain⟨ga,gc,hgv⟩:=h6.goto.1;rw[Cx]at hcv;rw[WC]at hgv;subst hcv;subst hgv;exact⟨K,ca,cc,ga,gc,h1,h2,h3,h4,h5⟩
     clear hX hB1 may)
   |(go_at_call 15;refine FO.mono ?_;rintro e w2 ⟨K,ca,cc,ga,gc,rfl,hB2,hW,hK,FP⟩
     have lW:Hid (tO w T N ra rc ta tc R tok (w2.alloc (.cells #[.slice ca K cc,.slice ga K gc] 44))):=(jZ.out.later hB2).later ((Below.refl _ _).alloc (Nat.le_refl _) (.cells #[.slice ca K cc,.slice ga K gc] 44));have zW:Hid (Whole T N R K):=hW;have hs2:w1.heap.size<=w2.heap.size:=hB2.size;have JX:Hid (∀w'':World,(∀b,w1.heap.size<=b->b<w2.heap.size->w''.heap[b]?=w2.heap[b]?)->TabAt w'' (.slice ca K cc) (.slice ga K gc) (fU T N R K) (lY T N R K)):=FP
     clear hB2 FO hW FP))
 obtain⟨W4,gD⟩:∃W,w2.alloc (.cells #[.slice ca K cc,.slice ga K gc] 44)=W:=⟨_,rfl⟩;have t0:W4.cell? ⟨w2.heap.size,0,none⟩=some (.slice ca K cc):=by rw[<-gD];simp[go_sem]
 have t1:W4.cell? ⟨w2.heap.size,1,none⟩=some (.slice ga K gc):=by rw[<-gD];simp[go_sem]
 have hs4:w2.heap.size<W4.heap.size:=by rw[<-gD];simp
 have zO:Hid (∀b,b<w2.heap.size->W4.heap[b]?=w2.heap[b]?):=fun b hb=>by rw[<-gD];exact heap_alloc_old w2 _ hb
 rw[gD]at lW⊢;have vk:=aeY lW.out.b0 lW.out.toks (by have:=lW.out.size;omega) (by omega);have HSz:Hid (w.heap.size+2<=w1.heap.size):=jZ.out.size;clear gD b0 b1 b2 HX jZ
 have Cz:Hid (∀wq,Below W4.heap.size W4 wq->tO w T N ra rc ta tc R tok wq/\wq.cell? ⟨w2.heap.size,0,none⟩=some (.slice ca K cc)/\wq.cell? ⟨w2.heap.size,1,none⟩=some (.slice ga K gc)/\(∀b,b<w2.heap.size->wq.heap[b]?=w2.heap[b]?)):=fun wq hq=>
  ⟨lW.out.later hq,(hq.cell (by simp only;omega)).trans t0,(hq.cell (by simp only;omega)).trans t1,fun b hb=>(hq.block b (by omega)).trans (zO.out b hb)⟩
 clear t0 t1;cases hin:jk T tok with
 |false=>
  rw[hin]at vk;simp only[Bool.not_false]at vk;have JY:Hid (jk T tok=false):=hin;clear hin
  go_wp2_with
   (go_at_call 17;refine vk.mono ?_;rintro e w5 ⟨rfl,ay⟩
    obtain⟨hX,-,-,-⟩:=Cz.out w5 ay;have x0:=hX.x0;have x1:=hX.x1;have xf0:=hX.xf0;have xf1:=hX.xf1;have HB:Hid (Below w.heap.size w w5):=hX.below
    clear hX ay vk)
  refine bodyPost_ret (v:=wF 3) (by simp[results,Tryz.results10,go_sem,x0,x1]) rfl ⟨K,zW.out,hK,(HB.out.setCell (by simp) _).setCell (by simp) _,.inl ⟨JY.out,rfl⟩⟩
 |true=>
  rw[hin]at vk;simp only[Bool.not_true]at vk;have JY:Hid (jk T tok=true):=hin;clear hin;obtain⟨cn,hcn⟩:∃cn,iO (fU T N R K)=cn:=⟨_,rfl⟩;have O1:Hid (iO (fU T N R K)=cn):=hcn
  have WG:Hid (∀wq,Below W4.heap.size W4 wq->Calls Tryz.prog 18 #[.agg #[.slice ca K cc,.slice ga K gc]] wq fun e w'=>e= .returned (.int .i64 cn)/\Below wq.heap.size wq w'):=fun wq hq=>by
   have h1:=JX.out wq fun b _ hb2=>(Cz.out wq hq).2.2.2 b hb2
   have h2:=aew h1 (by rw[Cx];omega) (fun i hi=>by rw[Cx]at hi;rw[Cw hi,OQ];have:=ql.out;omega) (fun i k hi hk=>by
    rw[Cx]at hi;rw[Cw hi,OQ]at hk;rw[Cw hi,WA (by omega)];unfold cellP;simp only[List.length_map];have:=List.length_filter_le (fun n=> @decide (tu T N R (ak T N R K).1 (ak T N R K).2 i k n) (Classical.propDecidable _)) (List.range R.length);simp only[List.length_range]at this;have:=HRl.out
    omega)
   rw[O1.out]at h2;exact h2
  clear hcn;by_cases hc0:cn=0
  ·subst hc0
   have hz0:decide ((0:Int)<((0:Nat):Int))=false:=by decide
   go_wp2_with
    (first
     |(go_at_call 17;refine vk.mono ?_;rintro e w5 ⟨rfl,ay⟩
       obtain⟨-,t0,t1,-⟩:=Cz.out w5 ay;have cl:=WG.out w5 ay;have bV:Hid (Below W4.heap.size W4 w5):=ay
       clear ay vk)
     |(go_at_call 18;refine cl.mono ?_;rintro e w6 ⟨rfl,aK⟩
       have hb6:Below W4.heap.size W4 w6:=bV.out.trans (aK.mono bV.out.size);obtain⟨hX,u0,u1,JD⟩:=Cz.out w6 hb6;have x0:=hX.x0;have x1:=hX.x1;have xf0:=hX.xf0;have xf1:=hX.xf1;have HB:Hid (Below w.heap.size w w6):=hX.below;have uQ:Hid (∀b,b<w2.heap.size->w6.heap[b]?=w2.heap[b]?):=JD
       clear hX aK cl hb6 JD))
   refine bodyPost_ret (v:= .tuple #[.agg #[.slice ca K cc,.slice ga K gc],.int .i64 0]) (by simp[results,Tryz.results10,go_sem,x0,x1]) rfl ⟨K,zW.out,hK,(HB.out.setCell (by simp) _).setCell (by simp) _,.inr (.inr ⟨JY.out,O1.out,ca,cc,ga,gc,rfl,JX.out _ fun b hb1 hb2=> ?_⟩)⟩;have h6:=HSz.out;rw[Below.heap_setCell _ _ _ _ (by simp only;omega),Below.heap_setCell _ _ _ _ (by simp only;omega)];exact uQ.out b hb2
  ·have hz0:decide ((0:Int)<(cn:Int))=true:=decide_eq_true (by omega)
   go_wp2_with
    (first
     |(go_at_call 17;refine vk.mono ?_;rintro e w5 ⟨rfl,ay⟩
       obtain⟨-,t0,t1,-⟩:=Cz.out w5 ay;have cl:=WG.out w5 ay;have bV:Hid (Below W4.heap.size W4 w5):=ay
       clear ay vk)
     |(go_at_call 18;refine cl.mono ?_;rintro e w6 ⟨rfl,aK⟩
       have hb6:Below W4.heap.size W4 w6:=bV.out.trans (aK.mono bV.out.size);obtain⟨hX,u0,u1,-⟩:=Cz.out w6 hb6;have x0:=hX.x0;have x1:=hX.x1;have xf0:=hX.xf0;have xf1:=hX.xf1;have HB:Hid (Below w.heap.size w w6):=hX.below
       clear hX aK cl hb6))
   refine bodyPost_ret (v:=wF 4) (by simp[results,Tryz.results10,go_sem,x0,x1]) rfl ⟨K,zW.out,hK,(HB.out.setCell (by simp) _).setCell (by simp) _,.inr (.inl ⟨JY.out,by have:=O1.out;omega,rfl⟩)⟩
abbrev Pl:=Nat×Value×List Int
def yu(x:Pl):List Value:=[.int .i64 x.1,x.2.1]
def jT(PL:List Pl):List Value:=PL.flatMap yu
abbrev fZ:Pl:=(0,.slice none 0 0,[])
section
variable{PL:List Pl}
theorem WH(PL:List Pl):(jT PL).length=PL.length*2:=by
 unfold jT
 induction PL with
 |nil=>rfl
 |cons a L ih=>rw[List.flatMap_cons,List.length_append,ih];simp[yu];omega
theorem WI{i j:Nat}(hi:i<PL.length)(hj:j<2):(jT PL)[i*2+j]?=(yu (PL.getD i fZ))[j]?:=by
 unfold jT
 induction PL generalizing i with
 |nil=>simp at hi
 |cons a L ih=>
  rw[List.flatMap_cons];cases i with
  |zero=>rw[List.getElem?_append_left (by simp[yu];omega)];simp
  |succ i=>
   rw[List.getElem?_append_right (by simp[yu];omega)];simp only[yu,List.length_cons,List.length_nil];rw[show (i+1)*2+j-(0+1+1)=i*2+j by omega];have:=ih (i:=i) (by simpa using hi);simpa [List.getD,yu] using this
theorem WJ(A C:List Pl):jT (A++C)=jT A++jT C:=by simp[jT]
theorem ae2{n:Nat}(h:n<=PL.length):jT (PL.take n)=(jT PL).take (n*2):=by
 have e:jT PL=jT (PL.take n)++jT (PL.drop n):=by rw[<-WJ,List.take_append_drop]
 have hl:(jT (PL.take n)).length=n*2:=by rw[WH,List.length_take,Nat.min_eq_left h]
 rw[e,<-hl,List.take_left]
end
def qN(w:World)(A:Nat->Prop)(v:Value)(D:List Int):Prop:=
 (D=[]/\v= .slice none 0 0)\/(0<D.length/\∃b c,v= .slice (some ⟨b,0,none⟩) D.length c/\A b/\b<w.heap.size/\D.length<=c/\∀p,p<D.length->w.cell? ⟨b,p,none⟩=some (.int .i64 (D.getD p 0)))
theorem qN.kept{w w':World}{A A':Nat->Prop}{v:Value}{D:List Int}(h:qN w A v D)(hs:w.heap.size<=w'.heap.size)(hb:∀b,A b->b<w.heap.size->w'.heap[b]?=w.heap[b]?/\A' b):qN w' A' v D:=by
 rcases h with h|⟨h0,b,c,h1,h2,h3,h5,h4⟩
 ·exact .inl h
 ·exact .inr ⟨h0,b,c,h1,(hb b h2 h3).2,by omega,h5,fun p hp=>(World.cell?_of_block (w:=w) (hb b h2 h3).1).trans (h4 p hp)⟩
theorem qN.list{w:World}{A:Nat->Prop}{v:Value}{D:List Int}(h:qN w A v D):aH w w.heap.size v D:=by
 rcases h with⟨rfl,rfl⟩|⟨h0,b,c,rfl,h2,h3,_,h4⟩
 ·exact⟨⟨_,_,rfl⟩,fun p hp=>absurd hp (Nat.not_lt_zero _)⟩
 ·exact⟨⟨_,_,rfl⟩,fun p hp=>⟨b,0,c,rfl,h3,by rw[Nat.zero_add];exact h4 p hp⟩⟩
def FQ(w:World)(v:Value)(D:List Int):Prop:=aH w w.heap.size v D/\∃a n c,v= .slice a n c/\n<=c
theorem qN.ae3{w:World}{A:Nat->Prop}{v:Value}{D:List Int}(h:qN w A v D):FQ w v D:=by
 refine⟨h.list,?_⟩;rcases h with⟨rfl,rfl⟩|⟨h0,b,c,rfl,h2,h3,h5,h4⟩
 ·exact⟨_,_,_,rfl,Nat.le_refl _⟩
 ·exact⟨_,_,_,rfl,h5⟩
structure qO where
 ra:Nat
 T:Nat
 N:Nat
 rv:Value
 cv:Value
 gv:Value
 tv:Value
inductive RnI where
 |ru
 |st
 deriving DecidableEq
def pV(d:qO)(sv:Value)(PL:List Pl)(p q:Nat):RnI->Option Row
 | .ru=>some ⟨.slice (some ⟨d.ra,0,none⟩) 1 1,52,9,1,[.int .i64 d.T,.int .i64 d.N,d.rv,d.cv,d.gv,d.tv,.int .i64 p,.int .i64 q,sv]⟩
 | .st=>some ⟨sv,49,2,PL.length,jT PL⟩
def JZ(d:qO)(sv:Value)(b:Nat):Prop:=b≠d.ra/\sv.ownBlock≠some b
structure bN(w0:World)(d:qO)(sv:Value)(PL:List Pl)(p q:Nat)(w:World):Prop where
 own:au w w0.heap.size (pV d sv PL p q)
 zX:∀x∈PL,qN w (JZ d sv) x.2.1 x.2.2
 since:Below w0.heap.size w0 w
structure zY(w0:World)(d:qO)(R:List Ru)(tok:List Int)(C:List (List Ce))(G:List (List Int)):Prop where
 rules:aD w0 w0.heap.size d.rv R
 toks:aH w0 w0.heap.size d.tv tok
 tab:TabAt w0 d.cv d.gv C G
section
variable{w0 w w':World}{d:qO}{sv dz:Value}{PL lH:List Pl}{p q:Nat}
theorem bN.le(h:bN w0 d sv PL p q w):w0.heap.size<=w.heap.size:=h.since.size
theorem bN.below(h:bN w0 d sv PL p q w)(hb:Below w.heap.size w w'):bN w0 d sv PL p q w':=
 ⟨h.own.below hb (Nat.le_refl _),fun x hx=>(h.zX x hx).kept hb.size fun b hA hlt=>⟨hb.block b hlt,hA⟩,h.since.trans (hb.mono h.le)⟩
theorem bN.alloc(h:bN w0 d sv PL p q w)(o:Obj):bN w0 d sv PL p q (w.alloc o):=h.below ((Below.refl _ _).alloc (Nat.le_refl _) o)
theorem bN.drew(h:bN w0 d sv PL p q w):bN w0 d sv PL p q w.drew:=h.below ((Below.refl _ _).drew)
theorem bN.lt(h:bN w0 d sv PL p q w):d.ra<w.heap.size/\w0.heap.size<=d.ra:=by
 have:=h.own.lt (i:= .ru) rfl (g:=d.ra) rfl;omega
theorem bN.cell(h:bN w0 d sv PL p q w){i:Nat}{u:Value}(hu:[Value.int .i64 d.T,.int .i64 d.N,d.rv,d.cv,d.gv,d.tv,.int .i64 p,.int .i64 q,sv][i]?=some u):w.cell? ⟨d.ra,i,none⟩=some u/\w.frozen? ⟨d.ra,i,none⟩=false:=by
 have hi:i<9:=by have:=(List.getElem?_eq_some_iff.1 hu).1;simpa using this
 have:=h.own.cell (i:= .ru) rfl i (by omega);exact⟨this.1.trans hu,this.2⟩
theorem bN.stack(h:bN w0 d sv PL p q w):w.ownsRow w0.heap.size 49 2 sv PL.length (jT PL):=h.own.own .st _ rfl
theorem bN.apart(h:bN w0 d sv PL p q w):sv.ownBlock≠some d.ra:=fun e=>h.own.apart .ru .st _ _ (by simp) rfl rfl d.ra rfl e
theorem bN.form(h:bN w0 d sv PL p q w)(hn:0<PL.length):∃g cap,sv= .slice (some ⟨g,0,none⟩) PL.length cap/\g<w.heap.size/\PL.length<=cap:=by
 obtain⟨_,⟨_,h0⟩|⟨g,cap,cur,e,_,hc,hle,_⟩⟩:=h.stack
 ·omega
 ·exact⟨g,cap,e,(h.stack.lt g (by rw[e];rfl)).2,hle⟩
theorem bN.place(h:bN w0 d sv PL p q w){g cap i:Nat}(hv:sv= .slice (some ⟨g,0,none⟩) PL.length cap)(hi:i<PL.length):w.cell? ⟨g,i*2,none⟩=some (.int .i64 (PL.getD i fZ).1)/\w.cell? ⟨g,i*2+1,none⟩=some (PL.getD i fZ).2.1:=by
 have ho:=h.stack;rw[hv]at ho;exact⟨(ho.cellAt (i*2) (by omega)).trans (WI (j:=0) hi (by omega)),(ho.cellAt (i*2+1) (by omega)).trans (WI (j:=1) hi (by omega))⟩
theorem bN.CB(h:bN w0 d sv PL p q w){i:Nat}(hi:i<PL.length):qN w (JZ d sv) (PL.getD i fZ).2.1 (PL.getD i fZ).2.2:=h.zX _ (by simp[List.getD,hi])
theorem bN.ae4(h:bN w0 d sv PL p q w)(p':Nat):bN w0 d sv PL p' q (w.setCell ⟨d.ra,6,none⟩ (.int .i64 p')):=by
 have h1:=h.own.store (i:= .ru) rfl 6 (.int .i64 p')
 have e:upd (pV d sv PL p q) .ru ⟨.slice (some ⟨d.ra,0,none⟩) 1 1,52,9,1,[Value.int .i64 d.T,.int .i64 d.N,d.rv,d.cv,d.gv,d.tv,.int .i64 p,.int .i64 q,sv].set 6 (.int .i64 p')⟩=pV d sv PL p' q:=by
  funext i
  cases i<;>simp[upd,pV]
 rw[e]at h1;refine⟨h1,fun x hx=>(h.zX x hx).kept (by simp) fun b hA hlt=>⟨Below.heap_setCell _ _ _ _ (fun e=>hA.1 e),hA⟩,h.since.setCell h.lt.2 _⟩
theorem bN.ae5(h:bN w0 d sv PL p q w)(q':Nat):bN w0 d sv PL p q' (w.setCell ⟨d.ra,7,none⟩ (.int .i64 q')):=by
 have h1:=h.own.store (i:= .ru) rfl 7 (.int .i64 q')
 have e:upd (pV d sv PL p q) .ru ⟨.slice (some ⟨d.ra,0,none⟩) 1 1,52,9,1,[Value.int .i64 d.T,.int .i64 d.N,d.rv,d.cv,d.gv,d.tv,.int .i64 p,.int .i64 q,sv].set 7 (.int .i64 q')⟩=pV d sv PL p q':=by
  funext i
  cases i<;>simp[upd,pV]
 rw[e]at h1;refine⟨h1,fun x hx=>(h.zX x hx).kept (by simp) fun b hA hlt=>⟨Below.heap_setCell _ _ _ _ (fun e=>hA.1 e),hA⟩,h.since.setCell h.lt.2 _⟩
theorem bN.turn(h:bN w0 d sv PL p q w)(hg:w.grownBy w' sv.ownBlock)(ho:w'.ownsRow w0.heap.size 49 2 dz lH.length (jT lH))(hat:∀g,dz.ownBlock=some g->sv.ownBlock=some g\/g=w.heap.size)(hd:∀x∈lH,qN w (JZ d sv) x.2.1 x.2.2):bN w0 d dz lH p q (w'.setCell ⟨d.ra,8,none⟩ dz):=by
 have h1:=h.own.turn (i:= .st) (r':=⟨dz,49,2,lH.length,jT lH⟩) rfl hg ho hat;have gF:upd (pV d sv PL p q) .st ⟨dz,49,2,lH.length,jT lH⟩ .ru=some ⟨.slice (some ⟨d.ra,0,none⟩) 1 1,52,9,1,[.int .i64 d.T,.int .i64 d.N,d.rv,d.cv,d.gv,d.tv,.int .i64 p,.int .i64 q,sv]⟩:=rfl;have h2:=h1.store (i:= .ru) gF 8 dz
 have e:upd (upd (pV d sv PL p q) .st ⟨dz,49,2,lH.length,jT lH⟩) .ru ⟨.slice (some ⟨d.ra,0,none⟩) 1 1,52,9,1,[Value.int .i64 d.T,.int .i64 d.N,d.rv,d.cv,d.gv,d.tv,.int .i64 p,.int .i64 q,sv].set 8 dz⟩=pV d dz lH p q:=by
  funext i
  cases i<;>simp[upd,pV]
 rw[e]at h2;have hl:=h.lt;refine⟨h2,fun x hx=>(hd x hx).kept (by simpa using hg.size) fun b hA hlt=>⟨?_,hA.1,fun e=> ?_⟩,(h.since.grown hg h.le fun k hk=>(h.stack.lt k hk).1).setCell h.lt.2 _⟩
 ·rw[Below.heap_setCell _ _ _ _ (fun e=>hA.1 e)]
  exact hg.block b hlt fun e=>hA.2 e.symm
 ·rcases hat b e with e'|e'
  ·exact hA.2 e'
  ·omega
theorem bN.cut(h:bN w0 d sv PL p q w){g cap n:Nat}(hv:sv= .slice (some ⟨g,0,none⟩) PL.length cap)(hn:n<=PL.length):bN w0 d (.slice (some ⟨g,0,none⟩) n cap) (PL.take n) p q (w.setCell ⟨d.ra,8,none⟩ (.slice (some ⟨g,0,none⟩) n cap)):=by
 refine h.turn ⟨rfl,rfl,rfl,Nat.le_refl _,fun _ _ _=>rfl⟩ ?_ (fun g' hg'=> .inl (by rw[hv];exact hg')) fun x hx=>h.zX x (List.mem_of_mem_take hx);have ho:=h.stack;rw[hv]at ho;obtain⟨h1,⟨hx,_⟩|⟨g',cap',cur,e,h2,h3,h4,h5,h6,h7⟩⟩:=ho
 ·cases hx
 ·injection e with e1 _ e3
  injection e1 with e1;injection e1 with e1;subst e1;subst e3;have hl:(PL.take n).length=n:=by rw[List.length_take,Nat.min_eq_left hn]
  refine⟨WH _,.inr ⟨g,cap,cur,by rw[hl],h2,h3,by rw[hl];omega,h5,h6,?_⟩⟩;rw[hl,ae2 hn,<-h7,List.take_take,Nat.min_eq_left (by omega)]
end
theorem Tryz.infoPl:(Tryz.prog.info? 49).map (fun i=>(i.zero,i.size,i.bytes))=some (some (.agg #[.int .i64 0,.slice none 0 0]),2,32):=by kernel_rfl
theorem aU.rQ{P:Program}{ops:Array Oper}{S:World->Prop}{K:Act->Prop}{i:Nat}{o:Oper}{l:List Nat}{a:Act}{v:Value}(ho:ops.toList[i]?=some o)(hw:Region.wanted o (yielded ops a.tmps)=true)(hy:∀w,S w->(execOp a.eval o).run P w= .ok (.value v) w)(h:aU P ops S K l (a.put o.dst v)):aU P ops S K (i::l) a:=
 aU.cons (by simpa using ho) hw hy h
theorem dQ.rQ{P:Program}{ops:Array Oper}{Q:Exit->Act->World->Prop}{S:World->Prop}{n k:Nat}{o:Oper}{l:List Nat}{a:Act}{w:World}(ho:ops.toList[k]?=some o)(h:∀K:Act->World->Prop,Shut (∀a w,(k<n->S w)->dQ P ops Q S n l a w->K a w)->if Region.wanted o (yielded ops a.tmps)=true then Oper.wp P o a w K Q else K (a.put o.dst undef) w):dQ P ops Q S n (k::l) a w:=
 dQ.cons (by simpa using ho) h
theorem qN.slice{w:World}{A:Nat->Prop}{v:Value}{D:List Int}(h:qN w A v D):∃a c,v= .slice a D.length c:=h.list.1
theorem O3{w0 w:World}{d:qO}{sv:Value}{PL:List Pl}{p q k:Nat}(h:bN w0 d sv PL p q w)(hk:PL.length=k+1)(hl:k<=10000){s:Nat}{dv:Value}(hs:(PL.getD k fZ).1=s)(hd:(PL.getD k fZ).2.1=dv):
 Calls Tryz.prog 20 #[.pointer (some ⟨d.ra,0,none⟩)] w fun e w'=>e= .returned (.agg #[.int .i64 s,dv])/\Below w.heap.size w w':=by
 obtain⟨g,cap,hsv,hg,_⟩:=h.form (by omega);obtain⟨c0,c1⟩:=h.place hsv (i:=k) (by omega);have hdv:=(h.CB (i:=k) (by omega)).slice;rw[hd]at hdv c1;obtain⟨dn,hdn⟩:∃n,(PL.getD k fZ).2.2.length=n:=⟨_,rfl⟩;rw[hdn]at hdv;obtain⟨da,dc,rfl⟩:=hdv;rw[hs]at c0;have c8:=(h.cell (i:=8) rfl).1;rw[hsv,hk]at c8;have hra:=h.lt.1;have a8:(w.alloc (.cells #[.int .i64 0,.slice none 0 0] 49)).cell? ⟨d.ra,8,none⟩=_:=(World.cell?_alloc_past _ _ _ hra).trans c8;have a0:(w.alloc (.cells #[.int .i64 0,.slice none 0 0] 49)).cell? ⟨g,k*2,none⟩=_:=(World.cell?_alloc_past _ _ _ hg).trans c0;have a1:(w.alloc (.cells #[.int .i64 0,.slice none 0 0] 49)).cell? ⟨g,k*2+1,none⟩=_:=(World.cell?_alloc_past _ _ _ hg).trans c1;have i0:(0:Int)<=(k:Int):=Int.natCast_nonneg _;have i1:(k:Int)<(k:Int)+1:=by omega
 have hwk:IntKind.i64.wrap (k:Int)=(k:Int):=IntWalk.i64_in _ (by omega);obtain⟨rb,hrb⟩:∃rb,d.ra=rb:=⟨_,rfl⟩;rw[hrb]at a8⊢;clear h hk hs hd hsv c0 c1 c8 hra hdn hg hrb
 go_enter Tryz.func20,Tryz.ntmps20
 go_wp2_with fail
 refine yB 12 (by kernel_rfl) (by kernel_rfl) ?_;simp only[List.take_succ_cons,List.take_zero,List.drop_succ_cons,List.drop_zero]
 repeat still_step
 refine wpStill_nil ?_
 go_wp2_with fail
 refine bodyPost_ret (v:= .agg #[.int .i64 s,.slice da dn dc]) (by simp[results,Tryz.results20,go_sem]) rfl ⟨rfl,?_⟩;exact((Below.refl _ _).alloc (Nat.le_refl _) _).drew
theorem ae6{w0 w:World}{d:qO}{sv:Value}{PL:List Pl}{p q:Nat}(h:bN w0 d sv PL p q w)(hn:0<PL.length)(hl:PL.length<=10000)(hp:p<=10000)(s:Nat):
 Calls Tryz.prog 21 #[.pointer (some ⟨d.ra,0,none⟩),.int .i64 s] w fun e w'=>e= .returned (.tuple #[])/\∃dz,bN w0 d dz (PL++[(s,.slice none 0 0,[])]) (p+1) q w':=by
 obtain⟨g,cap,hsv,hg,_⟩:=h.form hn;subst hsv;obtain⟨n,hn'⟩:∃n,PL.length=n:=⟨_,rfl⟩;rw[hn']at h hl hn;have h4:=h.alloc (.cells #[.int .i64 s,.slice none 0 0] 49);have d9:=h4.stack;rw[hn']at d9;have c8:=(h.cell (i:=8) rfl).1;have J2:=(h4.cell (i:=8) rfl).2;have J3:=(h4.cell (i:=8) rfl).1;have wY:=(h4.cell (i:=6) rfl).1;have c6f:=(h4.cell (i:=6) rfl).2;have hra:=h4.lt.1;have hne:some d.ra≠(Value.slice (some ⟨g,0,none⟩) n cap).ownBlock:=fun e=>h4.apart e.symm;have hn1:n+1<=maxLen:=by unfold maxLen;omega
 have hn2:(n+1)*32<=140737488355328:=by omega
 have hB4:w0.heap.size<=(w.alloc (.cells #[.int .i64 s,.slice none 0 0] 49)).heap.size:=h4.le;obtain⟨i0,hi0,hz0,hz1,hz2⟩:=info_parts Tryz.infoPl;have H4:Hid (bN w0 d (.slice (some ⟨g,0,none⟩) n cap) PL p q (w.alloc (.cells #[.int .i64 s,.slice none 0 0] 49))):=h4;have HN:Hid (PL.length=n):=hn';clear h h4 hn'
 go_enter Tryz.func21,Tryz.ntmps21
 go_wp2_with
  (at_builtin
   refine wpList_append_lies _ rfl _ _ _ rfl w0.heap.size 49 i0 _ 2 32 Tryz.underlying50 hi0 hz0 hz1 hz2 rfl (by omega) (.slice (some ⟨g,0,none⟩) n cap) n (jT PL) rfl d9 ⟨w.heap.size,0,none⟩ 1 1 [.int .i64 s,.slice none 0 0] rfl rfl (World.news_of_block (cs:= #[.int .i64 s,.slice none 0 0]) (t:=49) (fr:=(0,0)) (heap_alloc_new w _)) (by simp[Value.oneCell']) (by omega) hn1 hn2 hB4 (w.heap.size+1) (by simp) ?_;intro g6 cap6 w6 hown6 fF o6 uq;have d8:=(fF.cell_far ⟨d.ra,8,none⟩ hra hne).trans J3;have O4:=(fF.frozen_far ⟨d.ra,8,none⟩ hra hne).trans J2;have d6:=(fF.cell_far ⟨d.ra,6,none⟩ hra hne).trans wY
   have d6f:=(fF.frozen_far ⟨d.ra,6,none⟩ hra hne).trans c6f)
 go_end0
 refine⟨rfl,.slice (some ⟨g6,0,none⟩) (n+1) cap6,?_⟩
 have r:=H4.out.turn (dz:= .slice (some ⟨g6,0,none⟩) (n+1) cap6) (lH:=PL++[(s,.slice none 0 0,[])]) fF (by simpa [HN.out,jT,yu] using hown6) (fun g' hg'=>by
  obtain rfl:g6=g':=by simpa [Value.ownBlock] using hg'
  rcases o6 with h5|h5
  ·exact .inl h5
  ·exact .inr (by simpa using h5)) (fun x hx=>by
  rcases List.mem_append.1 hx with hx|hx
  ·exact H4.out.zX x hx
  ·simp only[List.mem_singleton]at hx
   subst hx
   exact .inl ⟨rfl,rfl⟩)
 exact r.ae4 (p+1)
end Go.Proofs.YtpkmpkphfflpjaaGreat
