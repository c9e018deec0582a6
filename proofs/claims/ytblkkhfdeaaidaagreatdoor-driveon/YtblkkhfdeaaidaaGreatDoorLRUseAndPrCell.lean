import Derived.Test.YtblkkhfdeaaidaaGreatDoorTkOfAndLRRun
import Derived.Test.YtblkkhfdeaaidaaGreatDoorChartOfAndSpreadMath
import Derived.Test.YtblkkhfdeaaidaaGreatDoorTxRlsAndMayG
import Derived.Deep.DeepCutAuto
import Derived.Test.YtblkkhfdeaaidaaGreatDoorTxNuAndHeldSeq
import Derived.Test.YtblkkhfdeaaidaaGreatDoorLooksMathAndTabMath
import Derived.BigQuiet
set_option maxHeartbeats 3200000
set_option maxRecDepth 100000
namespace Go.Proofs.YtblkkhfdeaaidaaGreatDoor
section
variable{T N:Nat}{R:List Ru}{NL:List (List Int)}{Ls:List aI}{tok:List Int}
theorem iW.acW(lr:nC T N R NL Ls){S:List Nat}{X:List Sy}{F:List (List Int)}{Z:List Int}(h:iW T N R NL Ls S X F Z):∀s∈S,s<Ls.length:=by
 induction h with
 |nil=>intro s hs;simp only[List.mem_singleton]at hs;rw[hs];exact lr.pos
 |push _ _ hg _ _ ih=>
  intro s hs;rcases List.mem_cons.1 hs with rfl|hs
  ·exact hg
  ·exact ih s hs
theorem lV.shape(lr:nC T N R NL Ls){c:PC}(h:lV T N R NL Ls tok c):c.S.length=c.F.length+1/\xR c<Ls.length/\∀s∈c.S,s<Ls.length:=by
 obtain⟨⟨S,X,F,h1,h2,h3⟩,_⟩:=h;have hl:=h3.lens;have ha:=h3.acW lr;cases S with
 |nil=>cases h3
 |cons e S=>
  refine⟨by rw[h1,h2,List.length_reverse,List.length_reverse];exact hl.1,by rw[lV.top h1];exact ha e (by simp),fun s hs=>ha s ?_⟩;rw[h1]at hs;exact List.mem_reverse.1 hs
theorem lV.red(lr:nC T N R NL Ls){c:PC}(h:lV T N R NL Ls tok c){t m:Nat}(hm:(m:Int)∈(cellP T N R NL Ls (xR c) t).2.1):
 m<R.length/\(R.getD m (0,[])).2.length<=c.F.length/\c.S.getD (c.F.length-(R.getD m (0,[])).2.length) 0<Ls.length/\∃g:Nat,jd T NL (c.S.getD (c.F.length-(R.getD m (0,[])).2.length) 0) (R.getD m (0,[])).1.toNat=(g:Int):=by
 obtain⟨⟨S,X,F,h1,h2,h3⟩,_⟩:=h;cases S with
 |nil=>cases h3
 |cons e S=>
 rw[lV.top h1]at hm;obtain⟨m',hme,Bq,hdn⟩:=Mg hm;have:m=m':=by omega
 subst this;obtain⟨q,S2,X2,F1,F2,Z1,Z2,a1,a2,a3,a4,_,a5,a6,a7⟩:=h3.back lr _ hdn.1;have hfl:F.length=F1.length+F2.length:=by rw[a2];simp
 have hrl:(R.getD m (0,[])).2.length=F1.length:=by rw[a3,Me Bq]
 have hk:c.F.length-(R.getD m (0,[])).2.length=F2.length:=by rw[h2,List.length_reverse,hrl,hfl];omega
 have hl2:=a6.lens;have hSd:e::S=(e::S).take F1.length++(q::S2):=by rw[a3,<-a1,List.take_append_drop]
 have hrev:c.S=(q::S2).reverse++((e::S).take F1.length).reverse:=by
  rw[h1];conv=>lhs;rw[hSd]
  rw[List.reverse_append]
 have t2:c.S.getD F2.length 0=q:=by
  rw[hrev]
  have Mh:S2.reverse.length=F2.length:=by
   have:=hl2.1;simp only[List.length_cons,List.length_reverse]at this⊢;omega
  simp only[List.reverse_cons,List.append_assoc];rw[<-Mh];simp[List.getD]
 rcases a6.awaits lr a7 with⟨h0,_⟩|⟨_,i,hi,hir,hin⟩
 ·omega
 ·have hq:=a6.lt lr
  obtain⟨g,g1,g2,g3,_⟩:=lr.goes hq hi hir hin;refine⟨Bq,by rw[h2,List.length_reverse,hrl,hfl];omega,by rw[hk,t2];exact hq,g,?_⟩;rw[hk,t2];unfold jd;have hg:=g1;unfold Mf at hg;have h0:0<=(R.getD m (0,[])).1:=(lr.fine.left (R.getD m (0,[])) (by simp[List.getD,Bq])).1;have e1:(dX T (false,(R.getD m (0,[])).1)).toNat=T+(R.getD m (0,[])).1.toNat:=by simp only[dX,Bool.false_eq_true,if_false];omega
  rw[e1]at hg;exact hg
end
section
variable{T N:Nat}{R:List Ru}{K:Nat}
theorem vQ{k:Nat}(hk:k<K):(bZ T N R K).getD k []=rowP T N R (af T N R K).1 (af T N R K).2 k:=by
 unfold bZ;simp[List.getD,hk]
theorem rQ:(bZ T N R K).length=K:=by simp[bZ]
theorem Es{NL:List (List Int)}{Ls:List aI}{k:Nat}:(rowP T N R NL Ls k).length=T+1:=by simp[rowP]
theorem Mj{NL:List (List Int)}{Ls:List aI}{k t:Nat}(ht:t<=T):(rowP T N R NL Ls k).getD t (0,[],false)=cellP T N R NL Ls k t:=by
 unfold rowP;simp[List.getD,show t<T+1 by omega]
theorem Uy{k:Nat}(hk:k<K):(iP T N R K).getD k []=((af T N R K).1.getD k []).drop T:=by
 unfold iP;simp[List.getD,hk]
theorem Uz:(iP T N R K).length=K:=by simp[iP]
theorem acX{k n:Nat}(hk:k<K):((iP T N R K).getD k []).getD n 0=jd T (af T N R K).1 k n:=by
 rw[Uy hk];simp[jd,List.getD,List.getElem?_drop]
theorem acY(h:fw (bZ T N R K)=0):∀k,k<K->∀t,t<=T->xh (cellP T N R (af T N R K).1 (af T N R K).2 k t)=true:=by
 intro k hk t ht;unfold fw at h
 have h1:mI ((bZ T N R K).getD k [])=0:=by
  have hm:mI ((bZ T N R K).getD k [])∈(bZ T N R K).map mI:=List.mem_map.2 ⟨_,by simp[List.getD,rQ,hk],rfl⟩;exact(List.sum_eq_zero_iff_forall_eq_nat.1 h) _ hm
 rw[vQ hk]at h1;unfold mI at h1;rw[List.length_eq_zero_iff,List.filter_eq_nil_iff]at h1;have h2:=h1 (cellP T N R (af T N R K).1 (af T N R K).2 k t) (by unfold rowP;exact List.mem_map.2 ⟨t,by simp;omega,rfl⟩);simpa using h2
theorem Et{K':Nat}(h:Whole T N R K)(h':Whole T N R K'):K=K':=by
 rcases Nat.lt_trichotomy K K' with hlt|heq|hlt
 ·have:=Dj h' K hlt
  unfold Whole at h;omega
 ·exact heq
 ·have:=Dj h K' hlt
  unfold Whole at h';omega
theorem UA(h:Whole T N R K):0<K:=by
 obtain⟨E,hE⟩:=KF (T:=T) (N:=N) (R:=R) 0 K (Nat.zero_le _);unfold Whole at h;rw[hE]at h;have:(af T N R 0).2.length=1:=rfl;rw[List.length_append,this]at h;omega
end
def Br:Mi->List Int×Int×Int
 | .done d=>(d,-1,0)
 | .none n=>([],n,0)
 | .size=>([],0,1)
def zi(T N:Nat)(R:List Ru)(tok:List Int)(a:List Int×Int×Int):Prop:=
 (More T N R 150/\a=([],0,1))\/∃K,Whole T N R K/\K<=150/\
  ((eG T N R tok≠0/\a=([],0,eG T N R tok))\/(eG T N R tok=0/\0<fw (bZ T N R K)/\a=([],0,4))\/
   (eG T N R tok=0/\fw (bZ T N R K)=0/\a=Br (qG T N R (af T N R K).1 (af T N R K).2 tok)))
theorem zi.one{T N:Nat}{R:List Ru}{tok:List Int}{a b:List Int×Int×Int}(h:zi T N R tok a)(k:zi T N R tok b):a=b:=by
 rcases h with⟨h1,rfl⟩|⟨K,h1,h2,h3⟩
 ·rcases k with⟨_,rfl⟩|⟨K',k1,k2,_⟩
  ·rfl
  ·exact absurd h1 (yN k1 k2)
 ·rcases k with⟨k1,_⟩|⟨K',k1,k2,k3⟩
  ·exact absurd k1 (yN h1 h2)
  ·have:=Et h1 k1
   subst this;rcases h3 with⟨h3,rfl⟩|⟨h3,h4,rfl⟩|⟨h3,h4,rfl⟩<;>rcases k3 with⟨k3,rfl⟩|⟨k3,k4,rfl⟩|⟨k3,k4,rfl⟩
   ·rfl
   ·exact absurd k3 h3
   ·exact absurd k3 h3
   ·exact absurd h3 k3
   ·rfl
   ·omega
   ·exact absurd h3 k3
   ·omega
   ·rfl
theorem acZ{T N:Nat}{R:List Ru}{K qs:Nat}(h:Whole T N R K)(hq:qs<K)(hN:0<N):((iP T N R K).getD qs []).length=N:=by
 rw[Uy hq,List.length_drop,(KG (Dj h) qs hq 0 (by omega)).1];omega
theorem Ic{T N:Nat}{R:List Ru}{m:Nat}(hm:0<m)(h:¬More T N R m):∃K,Whole T N R K/\K<=m:=by
 have f0:(af T N R 0).2.length=1:=rfl
 have whole:∀k,0<k->k<=m->k-1<(af T N R (k-1)).2.length->¬k<(af T N R k).2.length->∃K,Whole T N R K/\K<=m:=fun k hk hkm h1 h2=>by
  have h3:=KE (T:=T) (N:=N) (R:=R) (show k-1<=k by omega);exact⟨k,by unfold Whole;omega,hkm⟩
 have step:∀k,k<=m->(∀j,j<k->j<(af T N R j).2.length)\/∃K,Whole T N R K/\K<=m:=by
  intro k
  induction k with
  |zero=>exact fun _=> .inl fun j hj=>absurd hj (Nat.not_lt_zero _)
  |succ k ih=>
   intro hk;rcases ih (by omega) with h1|h1
   ·by_cases hlt:k<(af T N R k).2.length
    ·refine .inl fun j hj=> ?_
     rcases Nat.lt_succ_iff_lt_or_eq.1 hj with hj|rfl
     ·exact h1 j hj
     ·exact hlt
    ·have hk0:0<k:=by
      rcases Nat.eq_zero_or_pos k with h0|h0
      ·rw[h0]at hlt;omega
      ·exact h0
     exact .inr (whole k hk0 (by omega) (h1 (k-1) (by omega)) hlt)
   ·exact .inr h1
 rcases step m (Nat.le_refl _) with h1|h1
 ·by_cases hlt:m<(af T N R m).2.length
  ·exfalso
   refine h ⟨m-1,T+N,h1 (m-1) (by omega),Nat.le_refl _,?_⟩;have e:af T N R (m-1+1)=jK T N R (m-1) (af T N R (m-1)):=rfl;rw[show m-1+1=m by omega]at e;rw[e,jK]at hlt;exact hlt
  ·exact whole m hm (Nat.le_refl _) (h1 (m-1) (by omega)) hlt
 ·exact h1
theorem ac0{T:Nat}{tok:List Int}(hin:dx T tok=true):∀t∈tok,0<=t/\t<(T:Int):=fun t ht=>by
 unfold dx at hin;simpa using List.all_eq_true.1 hin t ht
theorem UB{T N:Nat}{R:List Ru}{tok:List Int}(hm:aD T N R=true)(h:eG T N R tok=0):tok.length<=30/\dx T tok=true:=by
 unfold eG at h;rw[hm]at h;simp only[Bool.true_eq_false,if_false]at h;split at h
 ·cases h
 ·split at h
  ·cases h
  ·rename_i h1 h2
   exact⟨by omega,by simpa using h2⟩
end Go.Proofs.YtblkkhfdeaaidaaGreatDoor
namespace Go.Proofs.YtblkkhfdeaaidaaGreatDoor
open Go.RowKit
theorem ac1{w:World}{gb:Nat}{T x:Int}(hg:w.cell? ⟨gb,0,none⟩=some (.int .i64 T)):
 Calls Tryz.prog 116 #[.int .i64 x,.pointer (some ⟨gb,0,none⟩)] w fun e w'=>e= .returned (.bool (!(decide (0<=x)&&decide (x<T))))/\Below w.heap.size w w':=by
 by_cases h0:x<0
 ·have e:(!(decide (0<=x)&&decide (x<T)))=true:=by simp;omega
  rw[e];clear e
  go_enter Tryz.func116,Tryz.ntmps116
  go_wp2_with fail
  go_ret;exact⟨rfl,Below.refl _ _⟩
 ·have hd:decide (x<0)=false:=decide_eq_false h0
  by_cases h1:T<=x
  ·have e:(!(decide (0<=x)&&decide (x<T)))=true:=by simp;omega
   rw[e];clear e
   go_enter Tryz.func116,Tryz.ntmps116
   go_wp2_with fail
   go_ret;exact⟨rfl,Below.refl _ _⟩
  ·have e:(!(decide (0<=x)&&decide (x<T)))=false:=by simp;omega
   have hd1:decide (T<=x)=false:=decide_eq_false h1;rw[e];clear e
   go_enter Tryz.func116,Tryz.ntmps116
   go_wp2_with fail
   go_ret;exact⟨rfl,Below.refl _ _⟩
theorem ac3{w:World}{gb lim:Nat}{T:Int}{tv:Value}{tok:List Int}(hg:w.cell? ⟨gb,0,none⟩=some (.int .i64 T))(ht:aP w lim tv tok)(hlim:lim<=w.heap.size)(gI:tok.length<=1000):
 Calls Tryz.prog 150 #[tv,.func (.func 116) #[] #[.pointer (some ⟨gb,0,none⟩)]] w fun e w'=> ∃z:Int,e= .returned (.int .i64 z)/\decide (0<=z)=(!dx T tok)/\Below w.heap.size w w':=by
 obtain⟨ta,tc,dW⟩:=ht.1;subst dW;have HT:Hid (aP w w.heap.size (.slice ta tok.length tc) tok):=ht.mono hlim;have HG:Hid (w.cell? ⟨gb,0,none⟩=some (.int .i64 T)):=hg;clear ht hg hlim
 go_enter Tryz.func150,Tryz.ntmps150
 go_wp2_with fail
 go_loopw [8] (fun s wr=> ∃k:Nat,s= .int .i64 k/\k<=tok.length/\Below w.heap.size w wr/\dx T (tok.take k)=true) (fun s _=>tok.length-(intOf s).toNat)
 case atStart=>exact⟨0,rfl,Nat.zero_le _,Below.refl _ _,rfl⟩
 case round=>
  obtain⟨k,rfl,hk,hB,hIn⟩:=hrel;have HB:Hid (Below w.heap.size w wr):=hB;have wT:Hid (dx T (tok.take k)=true):=hIn;by_cases hlt:k<tok.length
  ·obtain⟨b,o,c,hv,hbl,q0⟩:=HT.out.2 k hlt
   cases hv;have q1:=(hB.cell (p:=⟨b,o+k,none⟩) hbl).trans q0;obtain⟨x,hx⟩:∃x,tok.getD k 0=x:=⟨_,rfl⟩;rw[hx]at q1;have Bu:=ac1 (x:=x) ((hB.cell (World.block_lt_of_cell? _ _ HG.out)).trans HG.out);have hxe:tok[k]=x:=by rw[<-hx];simp[List.getD,hlt]
   have i0:(0:Int)<=(k:Int):=Int.natCast_nonneg _;have i1:(k:Int)<(tok.length:Int):=by omega
   clear hB hIn q0 hx;cases hw:(decide (0<=x)&&decide (x<T)) with
   |false=>
    rw[hw]at Bu
    have HE:Hid (dx T tok=false):=by
     show dx T tok=false;unfold dx;rw[List.all_eq_false];exact⟨tok[k],List.getElem_mem hlt,by rw[hxe,hw];simp⟩
    clear hxe hw;simp only[Bool.not_false]at Bu
    go_wp2_with (go_at_call 116;refine Bu.mono ?_;rintro e w1 ⟨rfl,hB1⟩)
    go_ret;exact⟨k,rfl,by rw[HE.out];simp,HB.out.trans (hB1.mono HB.out.size)⟩
   |true=>
    rw[hw]at Bu
    have HE:Hid (dx T (tok.take (k+1))=true):=by
     show dx T (tok.take (k+1))=true;have:=wT.out;unfold dx at this⊢;rw[List.take_succ_eq_append_getElem hlt,List.all_append,this,hxe];simpa using hw
    clear hxe hw;simp only[Bool.not_true]at Bu
    go_wp2_with (go_at_call 116;refine Bu.mono ?_;rintro e w1 ⟨rfl,hB1⟩)
    go_roundw
    case rel=>exact⟨k+1,by go_num,by omega,HB.out.trans (hB1.mono HB.out.size),HE.out⟩
    case measure=>simp[intOf];omega
  ·have HE:Hid (dx T tok=true):=by
    show dx T tok=true;have:=wT.out
    rwa [List.take_of_length_le (by omega)]at this
   clear hB hIn
   go_wp2_with fail
   go_ret;exact⟨-1,rfl,by rw[HE.out];rfl,HB.out⟩
theorem ac4{w:World}{gb lim:Nat}{T:Int}{tv:Value}{tok:List Int}(hg:w.cell? ⟨gb,0,none⟩=some (.int .i64 T))(ht:aP w lim tv tok)(hlim:lim<=w.heap.size)(gI:tok.length<=1000):
 Calls Tryz.prog 117 #[tv,.func (.func 116) #[] #[.pointer (some ⟨gb,0,none⟩)]] w fun e w'=>e= .returned (.bool (!dx T tok))/\Below w.heap.size w w':=by
 have ix:=ac3 hg ht hlim gI;obtain⟨ta,tc,dW⟩:=ht.1;subst dW;clear hg ht hlim
 go_enter Tryz.func117,Tryz.ntmps117
 go_wp2_with (go_at_call 150;refine ix.mono ?_;rintro e w1 ⟨z,rfl,hz,hB1⟩)
 go_ret;exact⟨rfl,hB1⟩
structure rR(w:World)(T N:Int)(ra:Option Addr)(rc:Nat)(ta:Option Addr)(tc:Nat)(R:List Ru)(tok:List Int)(wq:World):Prop where
 b0:wq.cell? ⟨w.heap.size,0,none⟩=some (.int .i64 T)
 b1:wq.cell? ⟨w.heap.size,1,none⟩=some (.int .i64 N)
 b2:wq.cell? ⟨w.heap.size,2,none⟩=some (.slice ra R.length rc)
 x0:wq.cell? ⟨w.heap.size+1,0,none⟩=some (.slice none 0 0)
 x1:wq.cell? ⟨w.heap.size+1,1,none⟩=some (.slice none 0 0)
 xf0:wq.frozen? ⟨w.heap.size+1,0,none⟩=false
 xf1:wq.frozen? ⟨w.heap.size+1,1,none⟩=false
 rules:au wq wq.heap.size (.slice ra R.length rc) R
 toks:aP wq w.heap.size (.slice ta tok.length tc) tok
 below:Below w.heap.size w wq
 size:w.heap.size+2<=wq.heap.size
theorem rR.later{w:World}{T N:Int}{ra:Option Addr}{rc:Nat}{ta:Option Addr}{tc:Nat}{R:List Ru}{tok:List Int}{wq w':World}(h:rR w T N ra rc ta tc R tok wq)(hb:Below wq.heap.size wq w'):rR w T N ra rc ta tc R tok w':=by
 have hs:=h.size;have hB:=h.below.trans (hb.mono (by omega));exact⟨(hb.cell (by simp only;omega)).trans h.b0,(hb.cell (by simp only;omega)).trans h.b1,(hb.cell (by simp only;omega)).trans h.b2,(hb.cell (by simp only;omega)).trans h.x0,(hb.cell (by simp only;omega)).trans h.x1,(hb.frozen (by simp only;omega)).trans h.xf0,(hb.frozen (by simp only;omega)).trans h.xf1,(h.rules.below hb).mono hb.size,h.toks.below (hb.mono (by omega)),hB,Nat.le_trans hs hb.size⟩
theorem Ml{w:World}{T N:Int}{ra:Option Addr}{rc:Nat}{ta:Option Addr}{tc:Nat}{R:List Ru}{tok:List Int}(hr:au w w.heap.size (.slice ra R.length rc) R)(ht:aP w w.heap.size (.slice ta tok.length tc) tok):
 rR w T N ra rc ta tc R tok ((w.alloc (.cells #[.int .i64 T,.int .i64 N,.slice ra R.length rc] 26)).alloc (.cells #[.slice none 0 0,.slice none 0 0] 67)):=by
 have hB:Below w.heap.size w ((w.alloc (.cells #[.int .i64 T,.int .i64 N,.slice ra R.length rc] 26)).alloc (.cells #[.slice none 0 0,.slice none 0 0] 67)):=((Below.refl _ _).alloc (Nat.le_refl _) _).alloc (by simp) _;exact⟨by simp[go_sem],by simp[go_sem],by simp[go_sem],by simp[go_sem],by simp[go_sem],by simp[go_sem],by simp[go_sem],(hr.below hB).mono hB.size,ht.below hB,hB,by simp⟩
abbrev vR(e:Int):Value:= .tuple #[.agg #[.slice none 0 0,.slice none 0 0],.int .i64 e]
theorem ac5{w:World}{T N:Int}{rv tv:Value}{R:List Ru}{tok:List Int}(hr:au w w.heap.size rv R)(ht:aP w w.heap.size tv tok)(hm:aD T N R=true)(gI:30<tok.length):
 Calls Tryz.prog 91 #[.agg #[.int .i64 T,.int .i64 N,rv],tv] w fun e w'=>e= .returned (vR 1)/\Below w.heap.size w w':=by
 obtain⟨ra,rc,aG⟩:=hr.1;obtain⟨ta,tc,dW⟩:=ht.1;subst aG;subst dW;have HX:Hid (rR w T N ra rc ta tc R tok ((w.alloc (.cells #[.int .i64 T,.int .i64 N,.slice ra R.length rc] 26)).alloc (.cells #[.slice none 0 0,.slice none 0 0] 67))):=Ml hr ht;have may:=lm (T:=T) (N:=N) HX.out.rules;rw[hm]at may;have j0:(30:Int)<(tok.length:Int):=by omega
 clear hr ht hm
 go_enter Tryz.func91,Tryz.ntmps91
 go_wp2_with
  (go_at_call 49;refine may.mono ?_;rintro e w1 ⟨rfl,hB1⟩
   have hX:=HX.out.later hB1;have x0:=hX.x0;have x1:=hX.x1;have xf0:=hX.xf0;have xf1:=hX.xf1;have HB:Hid (Below w.heap.size w w1):=hX.below
   clear hX hB1 may)
 refine bodyPost_ret (v:=vR 1) (by simp[results,Tryz.results91,go_sem,x0,x1]) rfl ⟨rfl,(HB.out.setCell (by simp) _).setCell (by simp) _⟩
theorem ac6{w:World}{T N:Nat}{rv tv:Value}{R:List Ru}{tok:List Int}(hr:au w w.heap.size rv R)(ht:aP w w.heap.size tv tok)(hm:aD T N R=true)(gI:tok.length<=30)(hmo:More T N R 150):
 Calls Tryz.prog 91 #[.agg #[.int .i64 T,.int .i64 N,rv],tv] w fun e w'=>e= .returned (vR 1)/\Below w.heap.size w w':=by
 obtain⟨ra,rc,aG⟩:=hr.1;obtain⟨ta,tc,dW⟩:=ht.1;subst aG;subst dW;have HX:Hid (rR w T N ra rc ta tc R tok ((w.alloc (.cells #[.int .i64 T,.int .i64 N,.slice ra R.length rc] 26)).alloc (.cells #[.slice none 0 0,.slice none 0 0] 67))):=Ml hr ht;have may:=lm (T:=T) (N:=N) HX.out.rules;rw[hm]at may;have HM:Hid (aD T N R=true):=hm;have Mq:Hid (More T N R 150):=hmo;have j0:decide ((30:Int)<(tok.length:Int))=false:=decide_eq_false (by omega);clear hr ht hm hmo
 go_enter Tryz.func91,Tryz.ntmps91
 go_wp2_with
  (first
   |(go_at_call 49;refine may.mono ?_;rintro e w1 ⟨rfl,hB1⟩
     have hX:=HX.out.later hB1;have b0:=hX.b0;have b1:=hX.b1;have b2:=hX.b2;have pI:Hid (rR w T N ra rc ta tc R tok w1):=hX
     have Eu:=(Uk (T:=T) (N:=N) hX.rules HM.out).mono (R':=fun e w'=>e= .returned (.tuple #[.agg #[.slice none 0 0,.slice none 0 0],.int .i64 1])/\Below w1.heap.size w1 w') fun e w' h=>by
      rcases h with⟨h1,h2,_⟩|⟨K,cv,gv,_,_,h3,h4,_⟩
      ·exact⟨h1,h2⟩
      ·exact absurd Mq.out (yN h3 h4)
     clear hX hB1 may)
   |(go_at_call 31;refine Eu.mono ?_;rintro e w2 ⟨rfl,hB2⟩
     have hX:=(pI.out.later hB2).later ((Below.refl _ _).alloc (Nat.le_refl _) (.cells #[.slice none 0 0,.slice none 0 0] 67));have x0:=hX.x0;have x1:=hX.x1;have xf0:=hX.xf0;have xf1:=hX.xf1;have HB:Hid (Below w.heap.size w (w2.alloc (.cells #[.slice none 0 0,.slice none 0 0] 67))):=hX.below
     clear hX hB2 Eu))
 refine bodyPost_ret (v:=vR 1) (by simp[results,Tryz.results91,go_sem,x0,x1]) rfl ⟨rfl,(HB.out.setCell (by simp) _).setCell (by simp) _⟩
theorem ac7{w:World}{T N:Nat}{rv tv:Value}{R:List Ru}{tok:List Int}(hr:au w w.heap.size rv R)(ht:aP w w.heap.size tv tok)(hm:aD T N R=true)(gI:tok.length<=30)(hmo:¬More T N R 150):
 Calls Tryz.prog 91 #[.agg #[.int .i64 T,.int .i64 N,rv],tv] w fun e w'=> ∃K,Whole T N R K/\K<=150/\Below w.heap.size w w'/\((dx T tok=false/\e= .returned (vR 3))\/(dx T tok=true/\0<fw (bZ T N R K)/\e= .returned (vR 4))\/
  (dx T tok=true/\fw (bZ T N R K)=0/\∃ca cc ga gc,e= .returned (.tuple #[.agg #[.slice ca K cc,.slice ga K gc],.int .i64 0])/\TabAt w' (.slice ca K cc) (.slice ga K gc) (bZ T N R K) (iP T N R K))):=by
 obtain⟨hT,hN1,hN,hRl,nP⟩:=fV hm;obtain⟨ra,rc,aG⟩:=hr.1;obtain⟨ta,tc,dW⟩:=ht.1;subst aG;subst dW;have HX:Hid (rR w T N ra rc ta tc R tok ((w.alloc (.cells #[.int .i64 T,.int .i64 N,.slice ra R.length rc] 26)).alloc (.cells #[.slice none 0 0,.slice none 0 0] 67))):=Ml hr ht;have may:=lm (T:=T) (N:=N) HX.out.rules;rw[hm]at may;have HM:Hid (aD T N R=true):=hm;have Mq:Hid (¬More T N R 150):=hmo;have Qz:Hid (R.length<=1000):=by show R.length<=1000;omega
 have rJ:Hid (T<=900):=by show T<=900;omega
 have j0:decide ((30:Int)<(tok.length:Int))=false:=decide_eq_false (by omega);clear hr ht hm hmo nP
 go_enter Tryz.func91,Tryz.ntmps91
 go_upto_region 9 with
  (first
   |(go_at_call 49;refine may.mono ?_;rintro e w1 ⟨rfl,hB1⟩
     have hX:=HX.out.later hB1;have b0:=hX.b0;have b1:=hX.b1;have b2:=hX.b2;have pI:Hid (rR w T N ra rc ta tc R tok w1):=hX
     have Eu:=(Ue (T:=T) (N:=N) hX.rules HM.out).mono (R':=fun e w'=> ∃K ca cc ga gc,e= .returned (.tuple #[.agg #[.slice ca K cc,.slice ga K gc],.int .i64 0])/\Below w1.heap.size w1 w'/\Whole T N R K/\K<=150/\∀w'':World,(∀b,w1.heap.size<=b->b<w'.heap.size->w''.heap[b]?=w'.heap[b]?)->TabAt w'' (.slice ca K cc) (.slice ga K gc) (bZ T N R K) (iP T N R K)) fun e w' h=>by
      rcases h with⟨_,_,h2⟩|⟨K,cv,gv,h1,h2,h3,h4,h5⟩
      ·exact absurd h2 Mq.out
      ·have h6:=h5 w' fun _ _ _=>rfl
       obtain⟨ca,cc,hcv⟩:=h6.cells.1;obtain⟨ga,gc,hgv⟩:=h6.goto.1;rw[rQ]at hcv;rw[Uz]at hgv;subst hcv;subst hgv;exact⟨K,ca,cc,ga,gc,h1,h2,h3,h4,h5⟩
     clear hX hB1 may)
   |(go_at_call 31;refine Eu.mono ?_;rintro e w2 ⟨K,ca,cc,ga,gc,rfl,hB2,hW,hK,Ev⟩
     have jZ:Hid (rR w T N ra rc ta tc R tok (w2.alloc (.cells #[.slice ca K cc,.slice ga K gc] 67))):=(pI.out.later hB2).later ((Below.refl _ _).alloc (Nat.le_refl _) (.cells #[.slice ca K cc,.slice ga K gc] 67));have zk:Hid (Whole T N R K):=hW;have hs2:w1.heap.size<=w2.heap.size:=hB2.size;have Ie:Hid (∀w'':World,(∀b,w1.heap.size<=b->b<w2.heap.size->w''.heap[b]?=w2.heap[b]?)->TabAt w'' (.slice ca K cc) (.slice ga K gc) (bZ T N R K) (iP T N R K)):=Ev
     clear hB2 Eu hW Ev))
 obtain⟨W4,dD⟩:∃W,w2.alloc (.cells #[.slice ca K cc,.slice ga K gc] 67)=W:=⟨_,rfl⟩;have t0:W4.cell? ⟨w2.heap.size,0,none⟩=some (.slice ca K cc):=by rw[<-dD];simp[go_sem]
 have t1:W4.cell? ⟨w2.heap.size,1,none⟩=some (.slice ga K gc):=by rw[<-dD];simp[go_sem]
 have hs4:w2.heap.size<W4.heap.size:=by rw[<-dD];simp
 have yZ:Hid (∀b,b<w2.heap.size->W4.heap[b]?=w2.heap[b]?):=fun b hb=>by rw[<-dD];exact heap_alloc_old w2 _ hb
 rw[dD]at jZ⊢;have ug:=ac4 jZ.out.b0 jZ.out.toks (by have:=jZ.out.size;omega) (by omega);have HSz:Hid (w.heap.size+2<=w1.heap.size):=pI.out.size;clear dD b0 b1 b2 HX pI
 have Bv:Hid (∀wq,Below W4.heap.size W4 wq->rR w T N ra rc ta tc R tok wq/\wq.cell? ⟨w2.heap.size,0,none⟩=some (.slice ca K cc)/\wq.cell? ⟨w2.heap.size,1,none⟩=some (.slice ga K gc)/\(∀b,b<w2.heap.size->wq.heap[b]?=w2.heap[b]?)):=fun wq hq=>
  ⟨jZ.out.later hq,(hq.cell (by simp only;omega)).trans t0,(hq.cell (by simp only;omega)).trans t1,fun b hb=>(hq.block b (by omega)).trans (yZ.out b hb)⟩
 clear t0 t1;cases hin:dx T tok with
 |false=>
  rw[hin]at ug;simp only[Bool.not_false]at ug;have wU:Hid (dx T tok=false):=hin;clear hin
  go_wp2_with
   (go_at_call 117;refine ug.mono ?_;rintro e w5 ⟨rfl,ak⟩
    obtain⟨hX,-,-,-⟩:=Bv.out w5 ak;have x0:=hX.x0;have x1:=hX.x1;have xf0:=hX.xf0;have xf1:=hX.xf1;have HB:Hid (Below w.heap.size w w5):=hX.below
    clear hX ak ug)
  refine bodyPost_ret (v:=vR 3) (by simp[results,Tryz.results91,go_sem,x0,x1]) rfl ⟨K,zk.out,hK,(HB.out.setCell (by simp) _).setCell (by simp) _,.inl ⟨wU.out,rfl⟩⟩
 |true=>
  rw[hin]at ug;simp only[Bool.not_true]at ug;have wU:Hid (dx T tok=true):=hin;clear hin;obtain⟨cn,hcn⟩:∃cn,fw (bZ T N R K)=cn:=⟨_,rfl⟩;have Mr:Hid (fw (bZ T N R K)=cn):=hcn
  have UC:Hid (∀wq,Below W4.heap.size W4 wq->Calls Tryz.prog 32 #[.agg #[.slice ca K cc,.slice ga K gc]] wq fun e w'=>e= .returned (.int .i64 cn)/\Below wq.heap.size wq w'):=fun wq hq=>by
   have h1:=Ie.out wq fun b _ hb2=>(Bv.out wq hq).2.2.2 b hb2
   have h2:=Ul h1 (by rw[rQ];omega) (fun i hi=>by rw[rQ]at hi;rw[vQ hi,Es];have:=rJ.out;omega) (fun i k hi hk=>by
    rw[rQ]at hi;rw[vQ hi,Es]at hk;rw[vQ hi,Mj (by omega)];unfold cellP;simp only[List.length_map];have:=List.length_filter_le (fun n=> @decide (xk T N R (af T N R K).1 (af T N R K).2 i k n) (Classical.propDecidable _)) (List.range R.length);simp only[List.length_range]at this;have:=Qz.out
    omega)
   rw[Mr.out]at h2;exact h2
  clear hcn;by_cases hc0:cn=0
  ·subst hc0
   have hz0:decide ((0:Int)<((0:Nat):Int))=false:=by decide
   go_wp2_with
    (first
     |(go_at_call 117;refine ug.mono ?_;rintro e w5 ⟨rfl,ak⟩
       obtain⟨-,t0,t1,-⟩:=Bv.out w5 ak;have cl:=UC.out w5 ak;have fA:Hid (Below W4.heap.size W4 w5):=ak
       clear ak ug)
     |(go_at_call 32;refine cl.mono ?_;rintro e w6 ⟨rfl,aQ⟩
       have hb6:Below W4.heap.size W4 w6:=fA.out.trans (aQ.mono fA.out.size);obtain⟨hX,u0,u1,GY⟩:=Bv.out w6 hb6;have x0:=hX.x0;have x1:=hX.x1;have xf0:=hX.xf0;have xf1:=hX.xf1;have HB:Hid (Below w.heap.size w w6):=hX.below;have uh:Hid (∀b,b<w2.heap.size->w6.heap[b]?=w2.heap[b]?):=GY
       clear hX aQ cl hb6 GY))
   refine bodyPost_ret (v:= .tuple #[.agg #[.slice ca K cc,.slice ga K gc],.int .i64 0]) (by simp[results,Tryz.results91,go_sem,x0,x1]) rfl ⟨K,zk.out,hK,(HB.out.setCell (by simp) _).setCell (by simp) _,.inr (.inr ⟨wU.out,Mr.out,ca,cc,ga,gc,rfl,Ie.out _ fun b hb1 hb2=> ?_⟩)⟩;have h6:=HSz.out;rw[Below.heap_setCell _ _ _ _ (by simp only;omega),Below.heap_setCell _ _ _ _ (by simp only;omega)];exact uh.out b hb2
  ·have hz0:decide ((0:Int)<(cn:Int))=true:=decide_eq_true (by omega)
   go_wp2_with
    (first
     |(go_at_call 117;refine ug.mono ?_;rintro e w5 ⟨rfl,ak⟩
       obtain⟨-,t0,t1,-⟩:=Bv.out w5 ak;have cl:=UC.out w5 ak;have fA:Hid (Below W4.heap.size W4 w5):=ak
       clear ak ug)
     |(go_at_call 32;refine cl.mono ?_;rintro e w6 ⟨rfl,aQ⟩
       have hb6:Below W4.heap.size W4 w6:=fA.out.trans (aQ.mono fA.out.size);obtain⟨hX,u0,u1,-⟩:=Bv.out w6 hb6;have x0:=hX.x0;have x1:=hX.x1;have xf0:=hX.xf0;have xf1:=hX.xf1;have HB:Hid (Below w.heap.size w w6):=hX.below
       clear hX aQ cl hb6))
   refine bodyPost_ret (v:=vR 4) (by simp[results,Tryz.results91,go_sem,x0,x1]) rfl ⟨K,zk.out,hK,(HB.out.setCell (by simp) _).setCell (by simp) _,.inr (.inl ⟨wU.out,by have:=Mr.out;omega,rfl⟩)⟩
abbrev Pl:=Nat×Value×List Int
def xS(x:Pl):List Value:=[.int .i64 x.1,x.2.1]
def iX(PL:List Pl):List Value:=PL.flatMap xS
abbrev eZ:Pl:=(0,.slice none 0 0,[])
section
variable{PL:List Pl}
theorem UD(PL:List Pl):(iX PL).length=PL.length*2:=by
 unfold iX
 induction PL with
 |nil=>rfl
 |cons a L ih=>rw[List.flatMap_cons,List.length_append,ih];simp[xS];omega
theorem UE{i j:Nat}(hi:i<PL.length)(hj:j<2):(iX PL)[i*2+j]?=(xS (PL.getD i eZ))[j]?:=by
 unfold iX
 induction PL generalizing i with
 |nil=>simp at hi
 |cons a L ih=>
  rw[List.flatMap_cons];cases i with
  |zero=>rw[List.getElem?_append_left (by simp[xS];omega)];simp
  |succ i=>
   rw[List.getElem?_append_right (by simp[xS];omega)];simp only[xS,List.length_cons,List.length_nil];rw[show (i+1)*2+j-(0+1+1)=i*2+j by omega];have:=ih (i:=i) (by simpa using hi);simpa [List.getD,xS] using this
theorem UF(A C:List Pl):iX (A++C)=iX A++iX C:=by simp[iX]
theorem ac8{n:Nat}(h:n<=PL.length):iX (PL.take n)=(iX PL).take (n*2):=by
 have e:iX PL=iX (PL.take n)++iX (PL.drop n):=by rw[<-UF,List.take_append_drop]
 have hl:(iX (PL.take n)).length=n*2:=by rw[UD,List.length_take,Nat.min_eq_left h]
 rw[e,<-hl,List.take_left]
end
def pQ(w:World)(A:Nat->Prop)(v:Value)(D:List Int):Prop:=
 (D=[]/\v= .slice none 0 0)\/(0<D.length/\∃b c,v= .slice (some ⟨b,0,none⟩) D.length c/\A b/\b<w.heap.size/\D.length<=c/\∀p,p<D.length->w.cell? ⟨b,p,none⟩=some (.int .i64 (D.getD p 0)))
theorem pQ.kept{w w':World}{A A':Nat->Prop}{v:Value}{D:List Int}(h:pQ w A v D)(hs:w.heap.size<=w'.heap.size)(hb:∀b,A b->b<w.heap.size->w'.heap[b]?=w.heap[b]?/\A' b):pQ w' A' v D:=by
 rcases h with h|⟨h0,b,c,h1,h2,h3,h5,h4⟩
 ·exact .inl h
 ·exact .inr ⟨h0,b,c,h1,(hb b h2 h3).2,by omega,h5,fun p hp=>(World.cell?_of_block (w:=w) (hb b h2 h3).1).trans (h4 p hp)⟩
theorem pQ.list{w:World}{A:Nat->Prop}{v:Value}{D:List Int}(h:pQ w A v D):aP w w.heap.size v D:=by
 rcases h with⟨rfl,rfl⟩|⟨h0,b,c,rfl,h2,h3,_,h4⟩
 ·exact⟨⟨_,_,rfl⟩,fun p hp=>absurd hp (Nat.not_lt_zero _)⟩
 ·exact⟨⟨_,_,rfl⟩,fun p hp=>⟨b,0,c,rfl,h3,by rw[Nat.zero_add];exact h4 p hp⟩⟩
def Ew(w:World)(v:Value)(D:List Int):Prop:=aP w w.heap.size v D/\∃a n c,v= .slice a n c/\n<=c
theorem pQ.ac9{w:World}{A:Nat->Prop}{v:Value}{D:List Int}(h:pQ w A v D):Ew w v D:=by
 refine⟨h.list,?_⟩;rcases h with⟨rfl,rfl⟩|⟨h0,b,c,rfl,h2,h3,h5,h4⟩
 ·exact⟨_,_,_,rfl,Nat.le_refl _⟩
 ·exact⟨_,_,_,rfl,h5⟩
structure pR where
 ra:Nat
 T:Nat
 N:Nat
 rv:Value
 cv:Value
 gv:Value
 tv:Value
inductive RnI where
 |ru
 |st
 deriving DecidableEq
def oD(d:pR)(sv:Value)(PL:List Pl)(p q:Nat):RnI->Option Row
 | .ru=>some ⟨.slice (some ⟨d.ra,0,none⟩) 1 1,161,9,1,[.int .i64 d.T,.int .i64 d.N,d.rv,d.cv,d.gv,d.tv,.int .i64 p,.int .i64 q,sv]⟩
 | .st=>some ⟨sv,158,2,PL.length,iX PL⟩
def Ig(d:pR)(sv:Value)(b:Nat):Prop:=b≠d.ra/\sv.ownBlock≠some b
structure aW(w0:World)(d:pR)(sv:Value)(PL:List Pl)(p q:Nat)(w:World):Prop where
 own:ah w w0.heap.size (oD d sv PL p q)
 zl:∀x∈PL,pQ w (Ig d sv) x.2.1 x.2.2
 since:Below w0.heap.size w0 w
structure zm(w0:World)(d:pR)(R:List Ru)(tok:List Int)(C:List (List Ce))(G:List (List Int)):Prop where
 rules:au w0 w0.heap.size d.rv R
 toks:aP w0 w0.heap.size d.tv tok
 tab:TabAt w0 d.cv d.gv C G
section
variable{w0 w w':World}{d:pR}{sv cu:Value}{PL jP:List Pl}{p q:Nat}
theorem aW.le(h:aW w0 d sv PL p q w):w0.heap.size<=w.heap.size:=h.since.size
theorem aW.below(h:aW w0 d sv PL p q w)(hb:Below w.heap.size w w'):aW w0 d sv PL p q w':=
 ⟨h.own.below hb (Nat.le_refl _),fun x hx=>(h.zl x hx).kept hb.size fun b hA hlt=>⟨hb.block b hlt,hA⟩,h.since.trans (hb.mono h.le)⟩
theorem aW.alloc(h:aW w0 d sv PL p q w)(o:Obj):aW w0 d sv PL p q (w.alloc o):=h.below ((Below.refl _ _).alloc (Nat.le_refl _) o)
theorem aW.drew(h:aW w0 d sv PL p q w):aW w0 d sv PL p q w.drew:=h.below ((Below.refl _ _).drew)
theorem aW.lt(h:aW w0 d sv PL p q w):d.ra<w.heap.size/\w0.heap.size<=d.ra:=by
 have:=h.own.lt (i:= .ru) rfl (g:=d.ra) rfl;omega
theorem aW.cell(h:aW w0 d sv PL p q w){i:Nat}{u:Value}(hu:[Value.int .i64 d.T,.int .i64 d.N,d.rv,d.cv,d.gv,d.tv,.int .i64 p,.int .i64 q,sv][i]?=some u):w.cell? ⟨d.ra,i,none⟩=some u/\w.frozen? ⟨d.ra,i,none⟩=false:=by
 have hi:i<9:=by have:=(List.getElem?_eq_some_iff.1 hu).1;simpa using this
 have:=h.own.cell (i:= .ru) rfl i (by omega);exact⟨this.1.trans hu,this.2⟩
theorem aW.stack(h:aW w0 d sv PL p q w):w.ownsRow w0.heap.size 158 2 sv PL.length (iX PL):=h.own.own .st _ rfl
theorem aW.apart(h:aW w0 d sv PL p q w):sv.ownBlock≠some d.ra:=fun e=>h.own.apart .ru .st _ _ (by simp) rfl rfl d.ra rfl e
theorem aW.form(h:aW w0 d sv PL p q w)(hn:0<PL.length):∃g cap,sv= .slice (some ⟨g,0,none⟩) PL.length cap/\g<w.heap.size/\PL.length<=cap:=by
 obtain⟨_,⟨_,h0⟩|⟨g,cap,cur,e,_,hc,hle,_⟩⟩:=h.stack
 ·omega
 ·exact⟨g,cap,e,(h.stack.lt g (by rw[e];rfl)).2,hle⟩
theorem aW.place(h:aW w0 d sv PL p q w){g cap i:Nat}(hv:sv= .slice (some ⟨g,0,none⟩) PL.length cap)(hi:i<PL.length):w.cell? ⟨g,i*2,none⟩=some (.int .i64 (PL.getD i eZ).1)/\w.cell? ⟨g,i*2+1,none⟩=some (PL.getD i eZ).2.1:=by
 have ho:=h.stack;rw[hv]at ho;exact⟨(ho.cellAt (i*2) (by omega)).trans (UE (j:=0) hi (by omega)),(ho.cellAt (i*2+1) (by omega)).trans (UE (j:=1) hi (by omega))⟩
theorem aW.Bw(h:aW w0 d sv PL p q w){i:Nat}(hi:i<PL.length):pQ w (Ig d sv) (PL.getD i eZ).2.1 (PL.getD i eZ).2.2:=h.zl _ (by simp[List.getD,hi])
theorem aW.ada(h:aW w0 d sv PL p q w)(p':Nat):aW w0 d sv PL p' q (w.setCell ⟨d.ra,6,none⟩ (.int .i64 p')):=by
 have h1:=h.own.store (i:= .ru) rfl 6 (.int .i64 p')
 have e:upd (oD d sv PL p q) .ru ⟨.slice (some ⟨d.ra,0,none⟩) 1 1,161,9,1,[Value.int .i64 d.T,.int .i64 d.N,d.rv,d.cv,d.gv,d.tv,.int .i64 p,.int .i64 q,sv].set 6 (.int .i64 p')⟩=oD d sv PL p' q:=by
  funext i
  cases i<;>simp[upd,oD]
 rw[e]at h1;refine⟨h1,fun x hx=>(h.zl x hx).kept (by simp) fun b hA hlt=>⟨Below.heap_setCell _ _ _ _ (fun e=>hA.1 e),hA⟩,h.since.setCell h.lt.2 _⟩
theorem aW.adb(h:aW w0 d sv PL p q w)(q':Nat):aW w0 d sv PL p q' (w.setCell ⟨d.ra,7,none⟩ (.int .i64 q')):=by
 have h1:=h.own.store (i:= .ru) rfl 7 (.int .i64 q')
 have e:upd (oD d sv PL p q) .ru ⟨.slice (some ⟨d.ra,0,none⟩) 1 1,161,9,1,[Value.int .i64 d.T,.int .i64 d.N,d.rv,d.cv,d.gv,d.tv,.int .i64 p,.int .i64 q,sv].set 7 (.int .i64 q')⟩=oD d sv PL p q':=by
  funext i
  cases i<;>simp[upd,oD]
 rw[e]at h1;refine⟨h1,fun x hx=>(h.zl x hx).kept (by simp) fun b hA hlt=>⟨Below.heap_setCell _ _ _ _ (fun e=>hA.1 e),hA⟩,h.since.setCell h.lt.2 _⟩
theorem aW.turn(h:aW w0 d sv PL p q w)(hg:w.grownBy w' sv.ownBlock)(ho:w'.ownsRow w0.heap.size 158 2 cu jP.length (iX jP))(hat:∀g,cu.ownBlock=some g->sv.ownBlock=some g\/g=w.heap.size)(hd:∀x∈jP,pQ w (Ig d sv) x.2.1 x.2.2):aW w0 d cu jP p q (w'.setCell ⟨d.ra,8,none⟩ cu):=by
 have h1:=h.own.turn (i:= .st) (r':=⟨cu,158,2,jP.length,iX jP⟩) rfl hg ho hat;have uK:upd (oD d sv PL p q) .st ⟨cu,158,2,jP.length,iX jP⟩ .ru=some ⟨.slice (some ⟨d.ra,0,none⟩) 1 1,161,9,1,[.int .i64 d.T,.int .i64 d.N,d.rv,d.cv,d.gv,d.tv,.int .i64 p,.int .i64 q,sv]⟩:=rfl;have h2:=h1.store (i:= .ru) uK 8 cu
 have e:upd (upd (oD d sv PL p q) .st ⟨cu,158,2,jP.length,iX jP⟩) .ru ⟨.slice (some ⟨d.ra,0,none⟩) 1 1,161,9,1,[Value.int .i64 d.T,.int .i64 d.N,d.rv,d.cv,d.gv,d.tv,.int .i64 p,.int .i64 q,sv].set 8 cu⟩=oD d cu jP p q:=by
  funext i
  cases i<;>simp[upd,oD]
 rw[e]at h2;have hl:=h.lt;refine⟨h2,fun x hx=>(hd x hx).kept (by simpa using hg.size) fun b hA hlt=>⟨?_,hA.1,fun e=> ?_⟩,(h.since.grown hg h.le fun k hk=>(h.stack.lt k hk).1).setCell h.lt.2 _⟩
 ·rw[Below.heap_setCell _ _ _ _ (fun e=>hA.1 e)]
  exact hg.block b hlt fun e=>hA.2 e.symm
 ·rcases hat b e with e'|e'
  ·exact hA.2 e'
  ·omega
theorem aW.cut(h:aW w0 d sv PL p q w){g cap n:Nat}(hv:sv= .slice (some ⟨g,0,none⟩) PL.length cap)(hn:n<=PL.length):aW w0 d (.slice (some ⟨g,0,none⟩) n cap) (PL.take n) p q (w.setCell ⟨d.ra,8,none⟩ (.slice (some ⟨g,0,none⟩) n cap)):=by
 refine h.turn ⟨rfl,rfl,rfl,Nat.le_refl _,fun _ _ _=>rfl⟩ ?_ (fun g' hg'=> .inl (by rw[hv];exact hg')) fun x hx=>h.zl x (List.mem_of_mem_take hx);have ho:=h.stack;rw[hv]at ho;obtain⟨h1,⟨hx,_⟩|⟨g',cap',cur,e,h2,h3,h4,h5,h6,h7⟩⟩:=ho
 ·cases hx
 ·injection e with e1 _ e3
  injection e1 with e1;injection e1 with e1;subst e1;subst e3;have hl:(PL.take n).length=n:=by rw[List.length_take,Nat.min_eq_left hn]
  refine⟨UD _,.inr ⟨g,cap,cur,by rw[hl],h2,h3,by rw[hl];omega,h5,h6,?_⟩⟩;rw[hl,ac8 hn,<-h7,List.take_take,Nat.min_eq_left (by omega)]
end
theorem Tryz.infoPl:(Tryz.prog.info? 158).map (fun i=>(i.zero,i.size,i.bytes))=some (some (.agg #[.int .i64 0,.slice none 0 0]),2,32):=by kernel_rfl
theorem aO.qH{P:Program}{ops:Array Oper}{S:World->Prop}{K:Act->Prop}{i:Nat}{o:Oper}{l:List Nat}{a:Act}{v:Value}(ho:ops.toList[i]?=some o)(hw:Region.wanted o (yielded ops a.tmps)=true)(hy:∀w,S w->(execOp a.eval o).run P w= .ok (.value v) w)(h:aO P ops S K l (a.put o.dst v)):aO P ops S K (i::l) a:=
 aO.cons (by simpa using ho) hw hy h
theorem dL.qH{P:Program}{ops:Array Oper}{Q:Exit->Act->World->Prop}{S:World->Prop}{n k:Nat}{o:Oper}{l:List Nat}{a:Act}{w:World}(ho:ops.toList[k]?=some o)(h:∀K:Act->World->Prop,Shut (∀a w,(k<n->S w)->dL P ops Q S n l a w->K a w)->if Region.wanted o (yielded ops a.tmps)=true then Oper.wp P o a w K Q else K (a.put o.dst undef) w):dL P ops Q S n (k::l) a w:=
 dL.cons (by simpa using ho) h
theorem pQ.slice{w:World}{A:Nat->Prop}{v:Value}{D:List Int}(h:pQ w A v D):∃a c,v= .slice a D.length c:=h.list.1
theorem Ms{w0 w:World}{d:pR}{sv:Value}{PL:List Pl}{p q k:Nat}(h:aW w0 d sv PL p q w)(hk:PL.length=k+1)(hl:k<=10000){s:Nat}{dv:Value}(hs:(PL.getD k eZ).1=s)(hd:(PL.getD k eZ).2.1=dv):
 Calls Tryz.prog 119 #[.pointer (some ⟨d.ra,0,none⟩)] w fun e w'=>e= .returned (.agg #[.int .i64 s,dv])/\Below w.heap.size w w':=by
 obtain⟨g,cap,hsv,hg,_⟩:=h.form (by omega);obtain⟨c0,c1⟩:=h.place hsv (i:=k) (by omega);have hdv:=(h.Bw (i:=k) (by omega)).slice;rw[hd]at hdv c1;obtain⟨dn,hdn⟩:∃n,(PL.getD k eZ).2.2.length=n:=⟨_,rfl⟩;rw[hdn]at hdv;obtain⟨da,dc,rfl⟩:=hdv;rw[hs]at c0;have c8:=(h.cell (i:=8) rfl).1;rw[hsv,hk]at c8;have hra:=h.lt.1;have a8:(w.alloc (.cells #[.int .i64 0,.slice none 0 0] 158)).cell? ⟨d.ra,8,none⟩=_:=(World.cell?_alloc_past _ _ _ hra).trans c8;have a0:(w.alloc (.cells #[.int .i64 0,.slice none 0 0] 158)).cell? ⟨g,k*2,none⟩=_:=(World.cell?_alloc_past _ _ _ hg).trans c0;have a1:(w.alloc (.cells #[.int .i64 0,.slice none 0 0] 158)).cell? ⟨g,k*2+1,none⟩=_:=(World.cell?_alloc_past _ _ _ hg).trans c1;have i0:(0:Int)<=(k:Int):=Int.natCast_nonneg _;have i1:(k:Int)<(k:Int)+1:=by omega
 have hwk:IntKind.i64.wrap (k:Int)=(k:Int):=IntWalk.i64_in _ (by omega);obtain⟨rb,hrb⟩:∃rb,d.ra=rb:=⟨_,rfl⟩;rw[hrb]at a8⊢;clear h hk hs hd hsv c0 c1 c8 hra hdn hg hrb
 go_enter Tryz.func119,Tryz.ntmps119
 go_wp2_with fail
 refine sM 12 (by kernel_rfl) (by kernel_rfl) ?_;simp only[List.take_succ_cons,List.take_zero,List.drop_succ_cons,List.drop_zero]
 repeat still_step
 refine wpStill_nil ?_
 go_wp2_with fail
 refine bodyPost_ret (v:= .agg #[.int .i64 s,.slice da dn dc]) (by simp[results,Tryz.results119,go_sem]) rfl ⟨rfl,?_⟩;exact((Below.refl _ _).alloc (Nat.le_refl _) _).drew
theorem ade{w0 w:World}{d:pR}{sv:Value}{PL:List Pl}{p q:Nat}(h:aW w0 d sv PL p q w)(hn:0<PL.length)(hl:PL.length<=10000)(hp:p<=10000)(s:Nat):
 Calls Tryz.prog 120 #[.pointer (some ⟨d.ra,0,none⟩),.int .i64 s] w fun e w'=>e= .returned (.tuple #[])/\∃cu,aW w0 d cu (PL++[(s,.slice none 0 0,[])]) (p+1) q w':=by
 obtain⟨g,cap,hsv,hg,_⟩:=h.form hn;subst hsv;obtain⟨n,hn'⟩:∃n,PL.length=n:=⟨_,rfl⟩;rw[hn']at h hl hn;have h4:=h.alloc (.cells #[.int .i64 s,.slice none 0 0] 158);have dz:=h4.stack;rw[hn']at dz;have c8:=(h.cell (i:=8) rfl).1;have Ih:=(h4.cell (i:=8) rfl).2;have Ii:=(h4.cell (i:=8) rfl).1;have y8:=(h4.cell (i:=6) rfl).1;have c6f:=(h4.cell (i:=6) rfl).2;have hra:=h4.lt.1;have hne:some d.ra≠(Value.slice (some ⟨g,0,none⟩) n cap).ownBlock:=fun e=>h4.apart e.symm;have hn1:n+1<=maxLen:=by unfold maxLen;omega
 have hn2:(n+1)*32<=140737488355328:=by omega
 have hB4:w0.heap.size<=(w.alloc (.cells #[.int .i64 s,.slice none 0 0] 158)).heap.size:=h4.le;obtain⟨i0,hi0,hz0,hz1,hz2⟩:=info_parts Tryz.infoPl;have H4:Hid (aW w0 d (.slice (some ⟨g,0,none⟩) n cap) PL p q (w.alloc (.cells #[.int .i64 s,.slice none 0 0] 158))):=h4;have HN:Hid (PL.length=n):=hn';clear h h4 hn'
 go_enter Tryz.func120,Tryz.ntmps120
 go_wp2_with
  (at_builtin
   refine wpList_append_lies _ rfl _ _ _ rfl w0.heap.size 158 i0 _ 2 32 Tryz.underlying159 hi0 hz0 hz1 hz2 rfl (by omega) (.slice (some ⟨g,0,none⟩) n cap) n (iX PL) rfl dz ⟨w.heap.size,0,none⟩ 1 1 [.int .i64 s,.slice none 0 0] rfl rfl (World.news_of_block (cs:= #[.int .i64 s,.slice none 0 0]) (t:=158) (fr:=(0,0)) (heap_alloc_new w _)) (by simp[Value.oneCell']) (by omega) hn1 hn2 hB4 (w.heap.size+1) (by simp) ?_;intro g6 cap6 w6 hown6 dO lI rq;have d8:=(dO.cell_far ⟨d.ra,8,none⟩ hra hne).trans Ii;have Mt:=(dO.frozen_far ⟨d.ra,8,none⟩ hra hne).trans Ih;have d6:=(dO.cell_far ⟨d.ra,6,none⟩ hra hne).trans y8
   have d6f:=(dO.frozen_far ⟨d.ra,6,none⟩ hra hne).trans c6f)
 go_end0
 refine⟨rfl,.slice (some ⟨g6,0,none⟩) (n+1) cap6,?_⟩
 have r:=H4.out.turn (cu:= .slice (some ⟨g6,0,none⟩) (n+1) cap6) (jP:=PL++[(s,.slice none 0 0,[])]) dO (by simpa [HN.out,iX,xS] using hown6) (fun g' hg'=>by
  obtain rfl:g6=g':=by simpa [Value.ownBlock] using hg'
  rcases lI with h5|h5
  ·exact .inl h5
  ·exact .inr (by simpa using h5)) (fun x hx=>by
  rcases List.mem_append.1 hx with hx|hx
  ·exact H4.out.zl x hx
  ·simp only[List.mem_singleton]at hx
   subst hx
   exact .inl ⟨rfl,rfl⟩)
 exact r.ada (p+1)
theorem adf{w0 w:World}{d:pR}{sv:Value}{PL:List Pl}{p q k tp nt:Nat}{R:List Ru}{tok:List Int}{C:List (List Ce)}{G:List (List Int)}(h:aW w0 d sv PL p q w)(E:zm w0 d R tok C G)(hk:PL.length=k+1)(hl:k<=10000)(hs:(PL.getD k eZ).1=tp)(htp:tp<C.length)(hnt:nt<(C.getD tp []).length)
 (hlt:p<tok.length->tok.getD p 0=(nt:Int)) (hge:¬p<tok.length->d.T=nt) {sh:Int} {mO:List Int} {en:Bool} (hce:(C.getD tp []).getD nt (0,[],false)=(sh,mO,en)):
 Calls Tryz.prog 118 #[.pointer (some ⟨d.ra,0,none⟩)] w fun e w'=> ∃rl,e= .returned (.agg #[.int .i64 sh,rl,.bool en])/\aP w' w'.heap.size rl mO/\Below w.heap.size w w':=by
 have hR:=h.alloc (.cells #[.int .i64 0,.slice none 0 0,.bool false] 112);obtain⟨W1,hW1⟩:∃W,w.alloc (.cells #[.int .i64 0,.slice none 0 0,.bool false] 112)=W:=⟨_,rfl⟩;have hB1:Below w.heap.size w W1:=by rw[<-hW1];exact(Below.refl _ _).alloc (Nat.le_refl _) _
 have r0:W1.cell? ⟨w.heap.size,0,none⟩=some (.int .i64 0):=by rw[<-hW1];simp[go_sem]
 have r1:W1.cell? ⟨w.heap.size,1,none⟩=some (.slice none 0 0):=by rw[<-hW1];simp[go_sem]
 have r2:W1.cell? ⟨w.heap.size,2,none⟩=some (.bool false):=by rw[<-hW1];simp[go_sem]
 have rf:∀o,W1.frozen? ⟨w.heap.size,o,none⟩=false:=fun o=>by rw[<-hW1];simp[go_sem]
 have hs1:W1.heap.size=w.heap.size+1:=by rw[<-hW1];simp
 rw[hW1]at hR;have HB1:Hid (Below w.heap.size w W1):=hB1;have HZ:Hid (Below w0.heap.size w0 w):=h.since;have HM:Hid (aW w0 d sv PL p q W1):=hR;have HE:Hid (zm w0 d R tok C G):=E;obtain⟨ta,tc,dW⟩:=E.toks.1;obtain⟨ca,cc,hcv⟩:=E.tab.cells.1;have c0:=(hR.cell (i:=0) rfl).1;have c3:=(hR.cell (i:=3) rfl).1;have c5:=(hR.cell (i:=5) rfl).1;have c6:=(hR.cell (i:=6) rfl).1;rw[dW]at c5;rw[hcv]at c3;have HTv:Hid (d.tv= .slice ta tok.length tc):=dW;have Ey:Hid (d.cv= .slice ca C.length cc):=hcv;have UG:Hid (nt<(C.getD tp []).length):=hnt;have Ij:Hid ((C.getD tp []).getD nt (0,[],false)=(sh,mO,en)):=hce;have HLt:Hid (p<tok.length->tok.getD p 0=(nt:Int)):=hlt;obtain⟨x3,hx3⟩:∃x,(PL.getD k eZ).2.1=x:=⟨_,rfl⟩;have UH:Hid (∀wq,Below W1.heap.size W1 wq->Calls Tryz.prog 119 #[.pointer (some ⟨d.ra,0,none⟩)] wq fun e w'=>e= .returned (.agg #[.int .i64 tp,x3])/\Below wq.heap.size wq w'):=fun wq hq=>Ms (hR.below hq) hk hl hs hx3
 have mZ:Hid (∃a n c,x3= .slice a n c):=by
  obtain⟨a,c,e⟩:=(hR.Bw (i:=k) (by omega)).slice;exact⟨a,_,c,by rw[<-hx3,e]⟩
 clear h E hk hs hR dW hcv hnt hce hlt hx3 hB1;obtain⟨rb,hrb⟩:∃rb,d.ra=rb:=⟨_,rfl⟩;rw[hrb]at c0 c3 c5 c6 UH⊢;obtain⟨dT,kW⟩:∃x,d.T=x:=⟨_,rfl⟩;rw[kW]at c0 hge;clear hrb kW
 go_enter Tryz.func118,Tryz.ntmps118
 go_upto_region 2 with fail
 clear hW1;have p0:(0:Int)<=(p:Int):=Int.natCast_nonneg _;by_cases hpt:p<tok.length
 case' pos=>
  obtain⟨tb',to',QA,hte,_,x1⟩:=(HE.out.toks.below HM.out.since).2 p hpt;rw[HTv.out]at hte;injection hte with h5 _ h6;subst h5;subst h6;rw[HLt.out hpt]at x1;have p1:(p:Int)<(tok.length:Int):=by omega
  go_big_quiet (fail)
  generalize nq=q1
  go_wp2_with fail
  go_big_quiet (fail)
  go_wp2_with fail
  obtain⟨W2,hW2⟩:∃W,(W1.drewN q1).drewN nq=W:=⟨_,rfl⟩;have hB2:Below W1.heap.size W1 W2.drew:=by rw[<-hW2];exact(below_drewN (below_drewN (Below.refl _ _) _) _).drew
  rw[hW2];clear x1 p1
 case' neg=>
  have p1:decide ((p:Int)<(tok.length:Int))=false:=decide_eq_false (by omega);have xO:=(hge hpt).symm;subst xO
  go_big_quiet (fail)
  go_wp2_with fail
  obtain⟨W2,hW2⟩:∃W,W1.drewN nq=W:=⟨_,rfl⟩;have hB2:Below W1.heap.size W1 W2.drew:=by rw[<-hW2];exact(below_drewN (Below.refl _ _) _).drew
  rw[hW2];clear p1
 all_goals
  clear hW2;obtain⟨cb,co,cc',rk,hcv,k1,hrow⟩:=HE.out.tab.cells.2 tp htp;rw[Ey.out]at hcv;injection hcv with hca _ hcc;subst hca;subst hcc;obtain⟨Ik,Il,UI,rl,Im,k2,k3,k4,k5⟩:=hrow.2 nt UG.out;rw[Ij.out]at k2 k4 k5;simp only at k2 k4 k5;obtain⟨ua,uc,hrl⟩:=k4.1;have hn1:=UG.out;obtain⟨m2,hm2⟩:∃m2,mO.length=m2:=⟨_,rfl⟩;obtain⟨rn,hrn⟩:∃x,(C.getD tp []).length=x:=⟨_,rfl⟩;rw[hm2]at hrl;rw[hrn]at Im hn1;subst hrl;subst Im;obtain⟨xa,xn,xc,rfl⟩:=mZ.out;have Ez:Hid (aP w0 w0.heap.size (.slice ua m2 uc) mO):=k4;have HB2:Hid (Below W1.heap.size W1 W2.drew):=hB2;have la:=UH.out W2.drew hB2;have c3':W2.drew.cell? ⟨rb,3,none⟩=some (.slice (some ⟨cb,co,none⟩) C.length cc):=(hB2.cell (World.block_lt_of_cell? _ _ c3)).trans c3
  have Mv:Hid (∀wq,Below W2.drew.heap.size W2.drew wq->wq.cell? ⟨rb,3,none⟩=some (.slice (some ⟨cb,co,none⟩) C.length cc)/\wq.cell? ⟨cb,co+tp,none⟩=some (.slice (some ⟨Ik,Il,none⟩) rn UI)/\wq.cell? ⟨Ik,Il+nt*3,none⟩=some (.int .i64 sh)/\wq.cell? ⟨Ik,Il+nt*3+1,none⟩=some (.slice ua m2 uc)/\wq.cell? ⟨Ik,Il+nt*3+2,none⟩=some (.bool en)/\
   wq.cell? ⟨w.heap.size,0,none⟩=some (.int .i64 0)/\wq.cell? ⟨w.heap.size,1,none⟩=some (.slice none 0 0)/\wq.cell? ⟨w.heap.size,2,none⟩=some (.bool false)/\(∀o,wq.frozen? ⟨w.heap.size,o,none⟩=false)/\w.heap.size<wq.heap.size):=fun wq hq=>by
   have hb:Below W1.heap.size W1 wq:=HB2.out.trans (hq.mono HB2.out.size);have hz:Below w0.heap.size w0 wq:=HM.out.since.trans (hb.mono HM.out.le)
   exact⟨(hq.cell (World.block_lt_of_cell? _ _ c3')).trans c3',(hz.cell (World.block_lt_of_cell? _ _ k1)).trans k1,(hz.cell (World.block_lt_of_cell? _ _ k2)).trans k2,(hz.cell (World.block_lt_of_cell? _ _ k3)).trans k3,(hz.cell (World.block_lt_of_cell? _ _ k5)).trans k5,
    (hb.cell (by simp only;omega)).trans r0,(hb.cell (by simp only;omega)).trans r1,(hb.cell (by simp only;omega)).trans r2,fun o=>(hb.frozen (by simp only;omega)).trans (rf o),by have:=hb.size;omega⟩
  have j0:(0:Int)<=(tp:Int):=Int.natCast_nonneg _;have j1:(tp:Int)<(C.length:Int):=by omega
  have l0:(0:Int)<=(nt:Int):=Int.natCast_nonneg _;have l1:(nt:Int)<(rn:Int):=by omega
  clear hB2 k1 k2 k3 k4 k5 hrow hm2 hrn hn1 c0 c3 c5 c6 r0 r1 r2 rf;refine Fu [0,1,2,3,4,5,10] [6,7,8,9,11,12,13] 13 (fun w'=>w'.cell? ⟨rb,3,none⟩=some (.slice (some ⟨cb,co,none⟩) C.length cc)) (by kernel_rfl) (by kernel_rfl) c3' ?_
  iterate 7
   refine aO.qH (v:= ?_) rfl (by rfl) ?_ ?_;rotate_left
   ·intro w' hSw
    go_simp
    try with_reducible rfl
   simp only[Act.put,List.setIfInBounds_toArray,List.set_cons_zero,List.set_cons_succ]
  rw[aO];refine dL.qH rfl (fun K hK=> ?_)
  go_simp
  refine la.mono ?_;rintro e w5 ⟨rfl,ak⟩;dsimp only;have fA:Hid (Below W2.drew.heap.size W2.drew w5):=ak;obtain⟨m3,m4,m5,m6,m7,m8,m9,m10,m11,m12⟩:=Mv.out w5 ak;have f0:=m11 0;have f1:=m11 1;have f2:=m11 2;refine hK.out _ _ (fun _=>m3) ?_;clear hK la ak c3' m11;refine dL.qH rfl (fun K hK=> ?_)
  go_simp
  refine hK.out _ _ (fun _=>m3) ?_;clear hK;refine dL.qH rfl (fun K hK=> ?_)
  go_simp
  refine hK.out _ _ (fun _=>m3) ?_;clear hK;refine dL.qH rfl (fun K hK=> ?_)
  go_simp
  refine hK.out _ _ (fun _=>m3) ?_;clear hK;refine dL.qH rfl (fun K hK=> ?_)
  go_simp
  refine hK.out _ _ (fun _=>m3) ?_;clear hK;refine dL.qH rfl (fun K hK=> ?_)
  go_simp
  refine hK.out _ _ (fun _=>m3) ?_;clear hK;refine dL.qH rfl (fun K hK=> ?_)
  go_simp
  refine hK.out _ _ (fun h=>absurd h (by omega)) ?_;clear hK;rw[dL];refine NoPanic.normal ?_
  have UJ:Hid (Below w.heap.size w (((w5.setCell ⟨w.heap.size,0,none⟩ (.int .i64 sh)).setCell ⟨w.heap.size,1,none⟩ (.slice ua m2 uc)).setCell ⟨w.heap.size,2,none⟩ (.bool en))):=
   ((((HB1.out.trans (HB2.out.mono (by omega))).trans (fA.out.mono (by have:=HB2.out.size;omega))).setCell (by simp) _).setCell (by simp) _).setCell (by simp) _
  go_wp2_with fail
  refine bodyPost_ret (v:= .agg #[.int .i64 sh,.slice ua m2 uc,.bool en]) (by simp[results,Tryz.results118,go_sem,m8,m9,m10]) rfl ⟨_,rfl,?_,UJ.out⟩;have hz:=HZ.out.trans (UJ.out.mono HZ.out.size);exact(Ez.out.below hz).mono hz.size
end Go.Proofs.YtblkkhfdeaaidaaGreatDoor
