import Derived.Test.YtpkmpkphfflpjaaGreatLRUseAndPrSmall
import Derived.Test.YtpkmpkphfflpjaaGreatPrCellAndPrRun
import Derived.Test.YtpkmpkphfflpjaaGreatRows
import Derived.Test.YtpkmpkphfflpjaaGreatMathAndHeldSeq
import Derived.WalkKit
import Derived.WalkSpells
import Derived.Deep.QuietTactic
import Derived.BigQuiet
import Derived.Test.YtpkmpkphfflpjaaGreatTrDoAndLooksMath
set_option maxHeartbeats 6400000
set_option maxRecDepth 100000
namespace Go.Proofs.YtpkmpkphfflpjaaGreat
open Go.RowKit
theorem J9{w:World}{T N x:Int}{rv tv:Value}{R:List Ru}{tok:List Int}(hr:aD w w.heap.size rv R)(ht:aH w w.heap.size tv tok)(hx:x≠0)
 (tf:Calls Tryz.prog 10 #[.agg #[.int .i64 T,.int .i64 N,rv],tv] (w.alloc (.cells #[.int .i64 T,.int .i64 N,rv] 24)) fun e w'=>e= .returned (wF x)/\Below (w.alloc (.cells #[.int .i64 T,.int .i64 N,rv] 24)).heap.size (w.alloc (.cells #[.int .i64 T,.int .i64 N,rv] 24)) w'):
 Calls Tryz.prog 5 #[.agg #[.int .i64 T,.int .i64 N,rv],tv] w fun e w'=>e= .returned (.tuple #[.slice none 0 0,.int .i64 0,.int .i64 x])/\Below w.heap.size w w':=by
 obtain⟨ra,rc,bW⟩:=hr.1;obtain⟨ta,tc,jS⟩:=ht.1;subst bW;subst jS;have HB0:Hid (Below w.heap.size w (w.alloc (.cells #[.int .i64 T,.int .i64 N,.slice ra R.length rc] 24))):=(Below.refl _ _).alloc (Nat.le_refl _) _;have hxn:(x !=0)=true:=by simpa using hx
 clear hr ht
 go_enter Tryz.func5,Tryz.ntmps5
 go_wp2_with
  (go_at_call 10;refine tf.mono ?_;rintro e w1 ⟨rfl,hB1⟩
   have HB1:Hid (Below w.heap.size w (w1.alloc (.cells #[.slice none 0 0,.slice none 0 0] 44))):=(HB0.out.trans (hB1.mono (by simp))).alloc (by have:=hB1.size;simp at this;omega) _
   clear hB1)
 refine bodyPost_ret (v:= .tuple #[.slice none 0 0,.int .i64 0,.int .i64 x]) (by simp[results,Tryz.results5,go_sem]) rfl ⟨rfl,HB1.out⟩
theorem afn{w:World}{T N K:Nat}{rv tv:Value}{R:List Ru}{tok:List Int}(hr:aD w w.heap.size rv R)(ht:aH w w.heap.size tv tok)(hf:cO T N R)(hN:0<N)(hW:Whole T N R K)(hcl:iO (fU T N R K)=0)(hin:jk T tok=true)(pU:tok.length<=30)
 (tf:Calls Tryz.prog 10 #[.agg #[.int .i64 T,.int .i64 N,rv],tv] (w.alloc (.cells #[.int .i64 T,.int .i64 N,rv] 24)) fun e w'=>Below (w.alloc (.cells #[.int .i64 T,.int .i64 N,rv] 24)).heap.size (w.alloc (.cells #[.int .i64 T,.int .i64 N,rv] 24)) w'/\
   ∃ca cc ga gc,e= .returned (.tuple #[.agg #[.slice ca K cc,.slice ga K gc],.int .i64 0])/\TabAt w' (.slice ca K cc) (.slice ga K gc) (fU T N R K) (lY T N R K)):
 Calls Tryz.prog 5 #[.agg #[.int .i64 T,.int .i64 N,rv],tv] w fun e w'=> ∃dv D a x,e= .returned (.tuple #[dv,.int .i64 a,.int .i64 x])/\FQ w' dv D/\(D,a,x)=JW (mK T N R (ak T N R K).1 (ak T N R K).2 tok)/\Below w.heap.size w w':=by
 obtain⟨ra,rc,bW⟩:=hr.1;obtain⟨ta,tc,jS⟩:=ht.1;subst bW;subst jS;have HB0:Hid (Below w.heap.size w (w.alloc (.cells #[.int .i64 T,.int .i64 N,.slice ra R.length rc] 24))):=(Below.refl _ _).alloc (Nat.le_refl _) _;have HR:Hid (aD w w.heap.size (.slice ra R.length rc) R):=hr;have HT:Hid (aH w w.heap.size (.slice ta tok.length tc) tok):=ht
 have Aa:Hid (∀t∈tok,0<=t/\t<(T:Int)):=by
  intro t ht;unfold jk at hin;have:=List.all_eq_true.1 hin t ht;simpa using this
 have HF:Hid (cO T N R):=hf;have HW:Hid (Whole T N R K/\iO (fU T N R K)=0):=⟨hW,hcl⟩;clear hr ht hf hW hcl hin
 go_enter Tryz.func5,Tryz.ntmps5
 go_upto_region 4 with
  (go_at_call 10
   go_loud
    (refine tf.mono ?_
     rintro e w1 ⟨hB1,ca,cc,ga,gc,rfl,FP⟩;rw[World.size_alloc]at hB1;have HB1:Hid (Below (w.heap.size+1) (w.alloc (.cells #[.int .i64 T,.int .i64 N,.slice ra R.length rc] 24)) w1):=hB1;have JX:Hid (TabAt w1 (.slice ca K cc) (.slice ga K gc) (fU T N R K) (lY T N R K)):=FP
     clear hB1 FP))
 have hs1:w.heap.size+1<=w1.heap.size:=by have:=HB1.out.size;simpa using this
 obtain⟨W2,hW2⟩:∃W,w1.alloc (.cells #[.slice ca K cc,.slice ga K gc] 44)=W:=⟨_,rfl⟩;have hB2:Below w1.heap.size w1 W2:=by rw[<-hW2];exact(Below.refl _ _).alloc (Nat.le_refl _) _
 have hBw:Below w.heap.size w W2:=(HB0.out.trans (HB1.out.mono (by omega))).trans (hB2.mono (by omega));have b0:W2.cell? ⟨w.heap.size,0,none⟩=some (.int .i64 T):=(hB2.cell (by simp only;omega)).trans ((HB1.out.cell (by simp)).trans (by simp[go_sem]));have b1:W2.cell? ⟨w.heap.size,1,none⟩=some (.int .i64 N):=(hB2.cell (by simp only;omega)).trans ((HB1.out.cell (by simp)).trans (by simp[go_sem]));have b2:W2.cell? ⟨w.heap.size,2,none⟩=some (.slice ra R.length rc):=(hB2.cell (by simp only;omega)).trans ((HB1.out.cell (by simp)).trans (by simp[go_sem]));have t0:W2.cell? ⟨w1.heap.size,0,none⟩=some (.slice ca K cc):=by rw[<-hW2];simp[go_sem]
 have t1:W2.cell? ⟨w1.heap.size,1,none⟩=some (.slice ga K gc):=by rw[<-hW2];simp[go_sem]
 rw[hW2];clear hW2
 have E:zY W2 ⟨W2.heap.size+1,T,N,.slice ra R.length rc,.slice ca K cc,.slice ga K gc,.slice ta tok.length tc⟩ R tok (fU T N R K) (lY T N R K):=
  ⟨(HR.out.below hBw).mono hBw.size,(HT.out.below hBw).mono hBw.size,JX.out.below hB2⟩
 have M0:bN W2 ⟨W2.heap.size+1,T,N,.slice ra R.length rc,.slice ca K cc,.slice ga K gc,.slice ta tok.length tc⟩ (.slice (some ⟨W2.heap.size,0,none⟩) 1 1) [fZ] 0 0
  ((W2.alloc (.cells #[.int .i64 0,.slice none 0 0] 49)).alloc (.cells #[.int .i64 T,.int .i64 N,.slice ra R.length rc,.slice ca K cc,.slice ga K gc,.slice ta tok.length tc,.int .i64 0,.int .i64 0,.slice (some ⟨W2.heap.size,0,none⟩) 1 1] 52)):=by
  refine⟨⟨fun i r hr=> ?_,fun i j x y hij hx hy g h1 h2=> ?_⟩,fun x hx=> ?_,((Below.refl _ _).alloc (Nat.le_refl _) _).alloc (by simp) _⟩
  ·cases i with
   |ru=>
    simp only[pV,Option.some.injEq]at hr;subst hr;have:=World.ownsRow_lit (base:=W2.heap.size) (e:=52) (size:=9) (W2.alloc (.cells #[.int .i64 0,.slice none 0 0] 49)) #[.int .i64 T,.int .i64 N,.slice ra R.length rc,.slice ca K cc,.slice ga K gc,.slice ta tok.length tc,.int .i64 0,.int .i64 0,.slice (some ⟨W2.heap.size,0,none⟩) 1 1] 1 (by simp) (by unfold maxLen;omega) rfl;simp only[World.size_alloc]at this;exact this
   |st=>
    simp only[pV,Option.some.injEq]at hr;subst hr;have:=World.ownsRow_lit (base:=W2.heap.size) (e:=49) (size:=2) W2 #[.int .i64 0,.slice none 0 0] 1 (Nat.le_refl _) (by unfold maxLen;omega) rfl;exact this.alloc _
  ·cases i<;>cases j<;>simp only[pV,Option.some.injEq]at hx hy<;>subst hx<;>subst hy
   ·exact hij rfl
   ·simp only[Value.ownBlock,Option.some.injEq]at h1 h2;omega
   ·simp only[Value.ownBlock,Option.some.injEq]at h1 h2;omega
   ·exact hij rfl
  ·simp only[List.mem_singleton]at hx
   subst hx;exact .inl ⟨rfl,rfl⟩
 have rr:=afi M0 E HF.out HW.out.1 hN HW.out.2 Aa.out pU;have iK:Hid (Below w.heap.size w W2):=hBw;clear E M0 hB2 hBw
 go_wp2_with
  (go_at_call 11;refine rr.mono ?_;rintro e w3 ⟨dv,D,a,x,rfl,hL,hA,hB⟩
   obtain⟨da,dc,hdv⟩:=hL.1.1;obtain⟨dn,hdn⟩:∃n,D.length=n:=⟨_,rfl⟩;rw[hdn]at hdv;subst hdv;have Cs:Hid (FQ w3 (.slice da dn dc) D/\(D,a,x)=JW (mK T N R (ak T N R K).1 (ak T N R K).2 tok)/\Below W2.heap.size W2 w3):=⟨hL,hA,hB⟩
   clear hL hA hB hdn rr)
 refine bodyPost_ret (v:= .tuple #[.slice da dn dc,.int .i64 a,.int .i64 x]) (by simp[results,Tryz.results5,go_sem]) rfl ?_;exact⟨_,D,a,x,rfl,Cs.out.1,Cs.out.2.1,iK.out.trans (Cs.out.2.2.mono iK.out.size)⟩
theorem Ka(w:World):aH w w.heap.size (.slice none 0 0) []:=⟨⟨_,_,rfl⟩,fun _ hp=>absurd hp (Nat.not_lt_zero _)⟩
theorem Xd{w:World}{T N:Nat}{rv tv:Value}{R:List Ru}{tok:List Int}(hr:aD w w.heap.size rv R)(ht:aH w w.heap.size tv tok)(hm:aZ T N R=true):
 Calls Tryz.prog 5 #[.agg #[.int .i64 T,.int .i64 N,rv],tv] w fun e w'=> ∃dv D a x,e= .returned (.tuple #[dv,.int .i64 a,.int .i64 x])/\FQ w' dv D/\yt T N R tok (D,a,x)/\Below w.heap.size w w':=by
 have hr1:=hr.boxed (.cells #[.int .i64 T,.int .i64 N,rv] 24);have ht1:=ht.boxed (.cells #[.int .i64 T,.int .i64 N,rv] 24);by_cases pU:30<tok.length
 ·refine(J9 hr ht (by decide) (aeZ hr1 ht1 hm pU)).mono fun e w' ⟨h1,h2⟩=>⟨_,[],0,1,h1,⟨Ka _,_,_,_,rfl,Nat.le_refl _⟩,?_,h2⟩
  by_cases hmo:More T N R 150
  ·exact .inl ⟨hmo,rfl⟩
  ·obtain⟨K,hW,hK⟩:=OX (by omega) hmo
   have e:qM T N R tok=1:=by simp[qM,hm,pU]
   exact .inr ⟨K,hW,hK,.inl ⟨by rw[e];decide,by rw[e]⟩⟩
 ·by_cases hmo:More T N R 150
  ·exact(J9 hr ht (by decide) (ae0 hr1 ht1 hm (by omega) hmo)).mono fun e w' ⟨h1,h2⟩=>⟨_,[],0,1,h1,⟨Ka _,_,_,_,rfl,Nat.le_refl _⟩,.inl ⟨hmo,rfl⟩,h2⟩
  ·obtain⟨K,hW,hK⟩:=OX (by omega) hmo
   have tf:=ae1 hr1 ht1 hm (by omega) hmo;cases hin:jk T tok with
   |false=>
    have Xe:qM T N R tok=3:=by simp[qM,hm,pU,hin]
    refine(J9 (x:=3) hr ht (by decide) (tf.mono fun e w' ⟨K',k1,k2,k3,k4⟩=> ?_)).mono fun e w' ⟨h1,h2⟩=>⟨_,[],0,3,h1,⟨Ka _,_,_,_,rfl,Nat.le_refl _⟩,.inr ⟨K,hW,hK,.inl ⟨by rw[Xe];decide,by rw[Xe]⟩⟩,h2⟩
    ·rcases k4 with⟨_,k5⟩|⟨k5,_⟩|⟨k5,_⟩
     ·exact⟨k5,k3⟩
     ·rw[hin]at k5;cases k5
     ·rw[hin]at k5;cases k5
   |true=>
    have e0:qM T N R tok=0:=by simp[qM,hm,pU,hin]
    by_cases hcl:iO (fU T N R K)=0
    ·obtain⟨_,hN1,_,_,_⟩:=kM hm
     refine(afn hr ht (OW hm) hN1 hW hcl hin (by omega) (tf.mono fun e w' ⟨K',k1,k2,k3,k4⟩=> ?_)).mono fun e w' ⟨dv,D,a,x,h1,h2,h3,h4⟩=>⟨dv,D,a,x,h1,h2,.inr ⟨K,hW,hK,.inr (.inr ⟨e0,hcl,h3⟩)⟩,h4⟩;have:=OU k1 hW;subst this;rcases k4 with⟨k5,_⟩|⟨_,k5,_⟩|⟨_,_,k5⟩
     ·rw[hin]at k5;cases k5
     ·omega
     ·exact⟨k3,k5⟩
    ·refine(J9 (x:=4) hr ht (by decide) (tf.mono fun e w' ⟨K',k1,k2,k3,k4⟩=> ?_)).mono fun e w' ⟨h1,h2⟩=>⟨_,[],0,4,h1,⟨Ka _,_,_,_,rfl,Nat.le_refl _⟩,.inr ⟨K,hW,hK,.inr (.inl ⟨e0,by omega,rfl⟩)⟩,h2⟩
     have:=OU k1 hW;subst this;rcases k4 with⟨k5,_⟩|⟨_,_,k5⟩|⟨_,k5,_⟩
     ·rw[hin]at k5;cases k5
     ·exact⟨k5,k3⟩
     ·exact absurd k5 hcl
theorem Xf{w:World}{la lb:Nat}{a b:Value}{X:List Int}(ha:aH w la a X)(hb:aH w lb b X)(hl:X.length<=1000000):
 Calls Tryz.prog 8 #[a,b] w fun e w'=>e= .returned (.bool true)/\∃m,w'=w.drewN m:=by
 obtain⟨aa,ac,Fu⟩:=ha.1;obtain⟨ba,bc,hbv⟩:=hb.1;have HA:Hid (aH w la a X):=ha;have HB:Hid (aH w lb b X):=hb;clear ha hb;subst Fu;subst hbv;have e0:((X.length:Int) !=(X.length:Int))=false:=by simp
 go_enter Tryz.func8,Tryz.ntmps8
 go_wp2_with fail
 go_loopw [5] (fun k wr=> ∃i m:Nat,k= .int .i64 i/\i<=X.length/\wr=w.drewN m) (fun k _=>X.length-(intOf k).toNat)
 case atStart=>exact⟨0,0,rfl,Nat.zero_le _,rfl⟩
 case round=>
  obtain⟨i,m,rfl,hi,rfl⟩:=hrel;by_cases hlt:i<X.length
  ·obtain⟨g1,o1,c1,hv1,_,k1⟩:=HA.out.2 i hlt
   obtain⟨g2,o2,c2,hv2,_,k2⟩:=HB.out.2 i hlt;cases hv1;cases hv2;obtain⟨z,hz⟩:∃z,X.getD i 0=z:=⟨_,rfl⟩;rw[hz]at k1 k2;have j0:(0:Int)<=(i:Int):=Int.natCast_nonneg _;have j1:(i:Int)<(X.length:Int):=by omega
   have e1:(z !=z)=false:=by simp
   clear hz
   go_wp2_with fail
   go_big_quiet (fail)
   go_wp2_with fail
   go_roundw
   case rel=>exact⟨i+1,_,by go_num,by omega,rfl⟩
   case measure=>simp[intOf];omega
  ·go_wp2_with fail
   go_ret;exact⟨rfl,m,rfl⟩
section
variable{T N:Nat}{R:List Ru}{tok:List Int}
theorem Xg{X:List Int}{a x:Int}(hm:aZ T N R=true)(h:yt T N R tok (X,a,x)):
 x≠0\/(x=0/\((∃n:Nat,a=n/\¬wM R 0 tok)\/(a= -1/\X.length<=400/\wM R 0 tok/\(∃st,jD R X=some st/\st.Y=tok)/\∀d,jf R 0 d tok->d.length<=400->d=X))):=by
 rcases h with⟨_,h2⟩|⟨K,h1,_,⟨h3,h2⟩|⟨_,_,h2⟩|⟨h3,h4,h2⟩⟩
 ·cases h2;exact .inl (by decide)
 ·cases h2;exact .inl h3
 ·cases h2;exact .inl (by decide)
 ·obtain⟨pU,hin⟩:=WE hm h3
  have hlr:=OE (OW hm) h1 (OV h1);have hone:∀k,k<(ak T N R K).2.length->∀t,t<=T->mG (cellP T N R (ak T N R K).1 (ak T N R K).2 k t)=true:=by rw[show (ak T N R K).2.length=K from h1];exact OT h4
  have hs:=Wz hlr hone (OY hin);cases he:mK T N R (ak T N R K).1 (ak T N R K).2 tok with
  |done d=>
   rw[he]at h2;cases h2;obtain⟨k1,k2⟩:=hs.1 _ he;refine .inr ⟨rfl,.inr ⟨rfl,k2,Aj.2 ⟨_,k1⟩,XY k1 k2,fun d' hd' hl'=> ?_⟩⟩;have:=(Wx hlr hone (OY hin) hd').1 hl';rw[he]at this;injection this with this;exact this.symm
  |none n=>
   rw[he]at h2;cases h2;exact .inr ⟨rfl,.inl ⟨n,rfl,(hs.2 n he).2⟩⟩
  |size=>rw[he]at h2;cases h2;exact .inl (by decide)
theorem afo{s:Stp}(hf:cO T N R)(hs:aR N R s=true){Z:List Int}:wM R 0 Z↔wM (aM N R s) 0 Z:=by
 constructor
 ·intro h
  obtain⟨d,hd⟩:=Aj.1 h;obtain⟨t,ht,_,hy⟩:=tT.1 hd;obtain⟨k1,k2,_,_⟩:=K9 hf hs ht;exact Aj.2 ⟨_,tT.2 ⟨_,k1,rfl,by rw[k2,hy]⟩⟩
 ·intro h
  obtain⟨d,hd⟩:=Aj.1 h;obtain⟨t,ht,_,hy⟩:=tT.1 hd;obtain⟨k1,k2,_,_⟩:=Ld hf hs ht;exact Aj.2 ⟨_,tT.2 ⟨_,k1,rfl,by rw[k2,hy]⟩⟩
theorem Xh(T N:Nat)(R:List Ru)(tok:List Int):∃z,yt T N R tok z:=by
 by_cases hM:More T N R 150
 ·exact⟨_,.inl ⟨hM,rfl⟩⟩
 ·obtain⟨K,hW,hK⟩:=OX (by omega) hM
  by_cases hw:qM T N R tok=0
  ·by_cases hc:iO (fU T N R K)=0
   ·exact⟨_,.inr ⟨K,hW,hK,.inr (.inr ⟨hw,hc,rfl⟩)⟩⟩
   ·exact⟨_,.inr ⟨K,hW,hK,.inr (.inl ⟨hw,by omega,rfl⟩)⟩⟩
  ·exact⟨_,.inr ⟨K,hW,hK,.inl ⟨hw,rfl⟩⟩⟩
theorem afp{s:Stp}{C D:List Int}{st:St}(hf:cO T N R)(hs:aR N R s=true)(h:jD R C=some st)(hY:st.Y=tok)(hC:C.length<=200)(hone:∀d,jf (aM N R s) 0 d tok->d.length<=400->d=D):vU R (qX N R s) C (some D):=by
 obtain⟨hd,hl⟩:=CR h;obtain⟨t,ht,hfl,hy⟩:=tT.1 hd;obtain⟨k1,k2,k3,k4⟩:=K9 hf hs ht;rw[hfl]at k4;have hX:(ai (qX N R s t)).length<=400:=by omega
 have e:=hone _ (tT.2 ⟨_,k1,rfl,by rw[k2,hy,hY]⟩) hX;exact .inr ⟨st,t,h,ht,hfl,AA k1,by omega,by rw[if_pos hX,e]⟩
theorem afq{s:Stp}{C D:List Int}{st:St}(hf:cO T N R)(hs:aR N R s=true)(h:jD (aM N R s) D=some st)(hY:st.Y=tok)(hD:D.length<=200)(hone:∀d,jf R 0 d tok->d.length<=400->d=C):vU (aM N R s) (qY N R s) D (some C):=by
 obtain⟨hd,hl⟩:=CR h;obtain⟨t,ht,hfl,hy⟩:=tT.1 hd;obtain⟨k1,k2,k3,k4⟩:=Ld hf hs ht;rw[hfl]at k4;have hX:(ai (qY N R s t)).length<=400:=by omega
 have e:=hone _ (tT.2 ⟨_,k1,rfl,by rw[k2,hy,hY]⟩) hX;exact .inr ⟨st,t,h,ht,hfl,AA k1,by omega,by rw[if_pos hX,e]⟩
theorem Xi{s:Stp}{D:List Int}(hf:cO T N R)(hs:aR N R s=true){st:St}(h:jD R D=some st):∃Z,vU R (qX N R s) D Z:=by
 obtain⟨hd,hl⟩:=CR h;obtain⟨t,ht,hfl,-⟩:=tT.1 hd;obtain⟨k1,-,-,k4⟩:=K9 hf hs ht;exact⟨_,.inr ⟨st,t,h,ht,hfl,AA k1,by rw[hfl]at k4;omega,rfl⟩⟩
theorem Xj{s:Stp}{D:List Int}(hf:cO T N R)(hs:aR N R s=true){st:St}(h:jD (aM N R s) D=some st):∃Z,vU (aM N R s) (qY N R s) D Z:=by
 obtain⟨hd,hl⟩:=CR h;obtain⟨t,ht,hfl,-⟩:=tT.1 hd;obtain⟨k1,-,-,k4⟩:=Ld hf hs ht;exact⟨_,.inr ⟨st,t,h,ht,hfl,AA k1,by rw[hfl]at k4;omega,rfl⟩⟩
end
theorem Ph{w:World}{T N:Int}{ra:Option Addr}{rc:Nat}{R:List Ru}(hr:aD w w.heap.size (.slice ra R.length rc) R)(s:Stp):
 Calls Tryz.prog 4 #[.agg #[.int .i64 T,.int .i64 N,.slice ra R.length rc],.agg #[.int .i64 s.op,.int .i64 s.a,.int .i64 s.b,.int .i64 s.c]] w fun e w'=> ∃oa oc,e= .returned (.tuple #[.agg #[.int .i64 (fJ T N R s).1,.int .i64 (fJ T N R s).2.1,.slice oa (fJ T N R s).2.2.2.length oc],.int .i64 (fJ T N R s).2.2.1])/\aD w' w'.heap.size (.slice oa (fJ T N R s).2.2.2.length oc) (fJ T N R s).2.2.2/\Below w.heap.size w w':=by
 refine(abD hr s).mono ?_;rintro e w' ⟨lv,RL,rfl,hR2,hmap,hB⟩;have gF:=hR2.rules;rw[hmap]at gF;obtain⟨oa,oc,hlv⟩:=gF.1;subst hlv;exact⟨oa,oc,rfl,gF,hB⟩
theorem afr{T N:Int}{R:List Ru}(s:Stp):(∃V M,fJ T N R s=(V,M,1,[]))\/(∃V M,fJ T N R s=(V,M,2,[]))\/∃t n:Nat,T=t/\N=n/\aZ t n R=true/\aR n R s=true/\aZ t (gm n s:Nat) (aM n R s)=true/\fJ t n R s=((t:Int),((gm n s:Nat):Int),0,aM n R s):=by
 cases hm:aZ T N R with
 |false=>exact .inr (.inl ⟨0,0,by unfold fJ;rw[hm];rfl⟩)
 |true=>
  obtain⟨t,n,rfl,rfl⟩:=Ty hm;cases hs:aR n R s with
  |false=>exact .inr (.inl ⟨0,0,by unfold fJ;rw[hm,hs];rfl⟩)
  |true=>
   cases hz:aZ t (gm n s:Nat) (aM n R s) with
   |false=>exact .inl ⟨0,0,by unfold fJ;rw[hm,hs,Int.toNat_natCast,hz];rfl⟩
   |true=>exact .inr (.inr ⟨t,n,rfl,rfl,hm,hs,hz,by unfold fJ;rw[hm,hs,Int.toNat_natCast,hz];rfl⟩)
section
variable{w:World}{ra:Option Addr}{rc:Nat}{R:List Ru}{tv:Value}{tok:List Int}
theorem afs{T N V M:Int}(hr:aD w w.heap.size (.slice ra R.length rc) R)(ht:aH w w.heap.size tv tok)(s:Stp)(hV:fJ T N R s=(V,M,1,[])):
 Calls Tryz.prog 3 #[.agg #[.int .i64 T,.int .i64 N,.slice ra R.length rc],.agg #[.int .i64 s.op,.int .i64 s.a,.int .i64 s.b,.int .i64 s.c],tv] w fun e w'=>e= .returned (.bool true)/\Below w.heap.size w w':=by
 obtain⟨W0,hW0⟩:∃W,(w.alloc (.cells #[.int .i64 T,.int .i64 N,.slice ra R.length rc] 24)).alloc (.cells #[.int .i64 s.op,.int .i64 s.a,.int .i64 s.b,.int .i64 s.c] 26)=W:=⟨_,rfl⟩;have hK:=EN (T:=T) (N:=N) (s:=s) hr ht;rw[hW0]at hK;have HK:Hid (gI w T N ra rc R s tv tok W0):=hK;obtain⟨ta,tc,jS⟩:=ht.1;subst jS;have g0:=hK.g0;have g1:=hK.g1;have g2:=hK.g2;have s0:=hK.s0;have s1:=hK.s1;have s2:=hK.s2;have s3:=hK.s3;have d8:=Ph (T:=T) (N:=N) hK.all s;rw[hV]at d8;simp only at d8;simp only[List.length_nil]at d8;clear hr ht hK hV
 go_enter Tryz.func3,Tryz.ntmps3
 go_wp2_with
  (go_at_call 4;refine d8.mono ?_;rintro e w2 ⟨oa,oc,rfl,_,hB2⟩
   have HB3:Hid (Below w.heap.size w (w2.alloc (.cells #[.int .i64 V,.int .i64 M,.slice oa 0 oc] 24))):=(HK.out.next (hB2.alloc hB2.size (.cells #[.int .i64 V,.int .i64 M,.slice oa 0 oc] 24))).below
   clear d8 hB2)
 go_ret;exact⟨rfl,HB3.out⟩
theorem aft{T N V M:Int}(hr:aD w w.heap.size (.slice ra R.length rc) R)(ht:aH w w.heap.size tv tok)(s:Stp)(hV:fJ T N R s=(V,M,2,[])):
 Calls Tryz.prog 3 #[.agg #[.int .i64 T,.int .i64 N,.slice ra R.length rc],.agg #[.int .i64 s.op,.int .i64 s.a,.int .i64 s.b,.int .i64 s.c],tv] w fun e w'=>e= .returned (.bool true)/\Below w.heap.size w w':=by
 obtain⟨W0,hW0⟩:∃W,(w.alloc (.cells #[.int .i64 T,.int .i64 N,.slice ra R.length rc] 24)).alloc (.cells #[.int .i64 s.op,.int .i64 s.a,.int .i64 s.b,.int .i64 s.c] 26)=W:=⟨_,rfl⟩;have hK:=EN (T:=T) (N:=N) (s:=s) hr ht;rw[hW0]at hK;have HK:Hid (gI w T N ra rc R s tv tok W0):=hK;obtain⟨ta,tc,jS⟩:=ht.1;subst jS;have g0:=hK.g0;have g1:=hK.g1;have g2:=hK.g2;have s0:=hK.s0;have s1:=hK.s1;have s2:=hK.s2;have s3:=hK.s3;have d8:=Ph (T:=T) (N:=N) hK.all s;rw[hV]at d8;simp only at d8;simp only[List.length_nil]at d8;clear hr ht hK hV
 go_enter Tryz.func3,Tryz.ntmps3
 go_wp2_with
  (go_at_call 4;refine d8.mono ?_;rintro e w2 ⟨oa,oc,rfl,_,hB2⟩
   have HB3:Hid (Below w.heap.size w (w2.alloc (.cells #[.int .i64 V,.int .i64 M,.slice oa 0 oc] 24))):=(HK.out.next (hB2.alloc hB2.size (.cells #[.int .i64 V,.int .i64 M,.slice oa 0 oc] 24))).below
   clear d8 hB2)
 go_ret;exact⟨rfl,HB3.out⟩
theorem afu{T N:Nat}(hr:aD w w.heap.size (.slice ra R.length rc) R)(ht:aH w w.heap.size tv tok)(s:Stp)(hm:aZ T N R=true)(hs:aR N R s=true)(hz:aZ T (gm N s:Nat) (aM N R s)=true)(hV:fJ T N R s=((T:Int),((gm N s:Nat):Int),0,aM N R s)):
 Calls Tryz.prog 3 #[.agg #[.int .i64 T,.int .i64 N,.slice ra R.length rc],.agg #[.int .i64 s.op,.int .i64 s.a,.int .i64 s.b,.int .i64 s.c],tv] w fun e w'=>e= .returned (.bool true)/\Below w.heap.size w w':=by
 obtain⟨W0,hW0⟩:∃W,(w.alloc (.cells #[.int .i64 T,.int .i64 N,.slice ra R.length rc] 24)).alloc (.cells #[.int .i64 s.op,.int .i64 s.a,.int .i64 s.b,.int .i64 s.c] 26)=W:=⟨_,rfl⟩;have hK:=EN (T:=T) (N:=N) (s:=s) hr ht;rw[hW0]at hK;have HK:Hid (gI w T N ra rc R s tv tok W0):=hK;obtain⟨⟨X,a,x⟩,hA⟩:=Xh T N R tok;obtain⟨⟨Y,b,y⟩,hC⟩:=Xh T (gm N s) (aM N R s) tok
 have CG:Hid (∀wq,Below W0.heap.size W0 wq->Calls Tryz.prog 5 #[.agg #[.int .i64 T,.int .i64 N,.slice ra R.length rc],tv] wq fun e w'=> ∃xa xc,e= .returned (.tuple #[.slice xa X.length xc,.int .i64 a,.int .i64 x])/\aH w' w'.heap.size (.slice xa X.length xc) X/\X.length<=xc/\Below wq.heap.size wq w'):=fun wq hq=>by
  refine(Xd (HK.out.next hq).all (HK.out.next hq).allT hm).mono fun e w' ⟨dv,X',a',x',k1,k2,k3,k4⟩=> ?_;cases k3.one hA;obtain⟨xa,xc,hdv⟩:=k2.1.1;subst hdv;obtain⟨_,_,_,e,hle⟩:=k2.2;injection e with _ e2 e3;exact⟨xa,xc,k1,k2.1,by omega,k4⟩
 have Ab:Hid (∀wq oa oc,Below W0.heap.size W0 wq->aD wq wq.heap.size (.slice oa (aM N R s).length oc) (aM N R s)->Calls Tryz.prog 5 #[.agg #[.int .i64 T,.int .i64 ((gm N s:Nat):Int),.slice oa (aM N R s).length oc],tv] wq fun e w'=> ∃xa xc,e= .returned (.tuple #[.slice xa Y.length xc,.int .i64 b,.int .i64 y])/\aH w' w'.heap.size (.slice xa Y.length xc) Y/\Y.length<=xc/\Below wq.heap.size wq w'):=fun wq oa oc hq gF=>by
  refine(Xd gF (HK.out.next hq).allT hz).mono fun e w' ⟨dv,X',a',x',k1,k2,k3,k4⟩=> ?_;cases k3.one hC;obtain⟨xa,xc,hdv⟩:=k2.1.1;subst hdv;obtain⟨_,_,_,e,hle⟩:=k2.2;injection e with _ e2 e3;exact⟨xa,xc,k1,k2.1,by omega,k4⟩
 have hfi:=zf hm;have hN1:=(kM hz).2.1;have hkeep:wM R 0 tok↔wM (aM N R s) 0 tok:=afo hfi hs;have HF:Hid (cO T N R/\aR N R s=true/\aZ T N R=true/\aZ T (gm N s:Nat) (aM N R s)=true):=⟨hfi,hs,hm,hz⟩;have hsA:=Xg hm hA;have CJ:=Xg hz hC;obtain⟨ta,tc,jS⟩:=ht.1;subst jS;have g0:=hK.g0;have g1:=hK.g1;have g2:=hK.g2;have s0:=hK.s0;have s1:=hK.s1;have s2:=hK.s2;have s3:=hK.s3;have d8:=Ph (T:=T) (N:=N) hK.all s;rw[hV]at d8;simp only at d8;obtain⟨M,uR⟩:∃M:Nat,gm N s=M:=⟨_,rfl⟩;obtain⟨RR,hRR⟩:∃RR,aM N R s=RR:=⟨_,rfl⟩;have HRR:Hid (aM N R s=RR/\gm N s=M):=⟨hRR,uR⟩;rw[uR,hRR]at d8 Ab;rw[hRR]at hkeep CJ;rw[uR]at hN1;have hM0:((M:Int)==0)=false:=by simp;omega
 have hM1:decide (0<M)=true:=decide_eq_true (by omega);have hM2:decide ((0:Int)<(M:Int))=true:=decide_eq_true (by omega);clear hr ht hK hV hm hs hz hA hC hfi uR hRR hN1;rcases hsA with hx|⟨rfl,hsA⟩
 ·have e1:(x==0)=false:=by simpa using hx
  have e2:(x !=0)=true:=by simpa using hx
  have e3:decide (x=0)=false:=decide_eq_false hx;clear hx CJ hkeep
  go_enter Tryz.func3,Tryz.ntmps3
  go_wp2_with
   (first
    |(go_at_call 4;refine d8.mono ?_;rintro e w2 ⟨oa,oc,rfl,gF,hB2⟩
      have hB3:Below W0.heap.size W0 (w2.alloc (.cells #[.int .i64 (T:Int),.int .i64 (M:Int),.slice oa RR.length oc] 24)):=hB2.alloc hB2.size _;have hbx:iD (T:Int) (M:Int) oa oc RR w2.heap.size (w2.alloc (.cells #[.int .i64 (T:Int),.int .i64 (M:Int),.slice oa RR.length oc] 24)):=BD gF;obtain⟨w3,hw3⟩:∃W,w2.alloc (.cells #[.int .i64 (T:Int),.int .i64 (M:Int),.slice oa RR.length oc] 24)=W:=⟨_,rfl⟩;rw[hw3]at hB3 hbx;have hK3:=HK.out.next hB3;have u0:=hK3.g0;have u1:=hK3.g1;have u2:=hK3.g2;have v0:=hbx.c0;have v1:=hbx.c1;have v2:=hbx.c2;have pa:=CG.out w3 hB3;have HB3:Hid (Below W0.heap.size W0 w3/\iD (T:Int) (M:Int) oa oc RR w2.heap.size w3):=⟨hB3,hbx⟩
      clear d8 hB2 hB3 hK3 gF hbx g0 g1 g2 s0 s1 s2 s3 hW0)
    |(go_at_call 5;with_reducible refine pa.mono ?_;rintro e w4 ⟨xa,xc,rfl,hlx,hxc,hB4⟩
      have eY:Below W0.heap.size W0 w4:=HB3.out.1.trans (hB4.mono HB3.out.1.size);have hb4:=HB3.out.2.next hB4;have v0:=hb4.c0;have v1:=hb4.c1;have v2:=hb4.c2;have pb:=Ab.out w4 oa oc eY hb4.rules;have bB:Hid (Below W0.heap.size W0 w4/\iD (T:Int) (M:Int) oa oc RR w2.heap.size w4/\aH w4 w4.heap.size (.slice xa X.length xc) X/\X.length<=xc):=⟨eY,hb4,hlx,hxc⟩
      clear pa hB4 eY hb4 hlx hxc u0 u1 u2)
    |(go_at_call 5;with_reducible refine pb.mono ?_;rintro e w5 ⟨ya,yc,rfl,nG,gq,ay⟩
      have dU:Below W0.heap.size W0 w5:=bB.out.1.trans (ay.mono bB.out.1.size);have hb5:=bB.out.2.1.next ay;have v1:=hb5.c1;have bL:=HK.out.next dU;have u0:=bL.g0;have u1:=bL.g1;have u2:=bL.g2;have u3:=bL.s0;have u4:=bL.s1;have u5:=bL.s2;have u6:=bL.s3;have bV:Hid (Below W0.heap.size W0 w5/\aH w5 w5.heap.size (.slice xa X.length xc) X/\X.length<=xc/\aH w5 w5.heap.size (.slice ya Y.length yc) Y/\Y.length<=yc):=⟨dU,(bB.out.2.2.1.below ay).mono ay.size,bB.out.2.2.2,nG,gq⟩
      clear pb ay dU hb5 bL nG gq))
  go_ret;exact⟨rfl,(HK.out.next bV.out.1).below⟩
 rcases CJ with hy|⟨rfl,CJ⟩
 ·have e1:(y==0)=false:=by simpa using hy
  have e2:(y !=0)=true:=by simpa using hy
  have e3:decide (y=0)=false:=decide_eq_false hy;clear hy hsA hkeep
  go_enter Tryz.func3,Tryz.ntmps3
  go_wp2_with
   (first
    |(go_at_call 4;refine d8.mono ?_;rintro e w2 ⟨oa,oc,rfl,gF,hB2⟩
      have hB3:Below W0.heap.size W0 (w2.alloc (.cells #[.int .i64 (T:Int),.int .i64 (M:Int),.slice oa RR.length oc] 24)):=hB2.alloc hB2.size _;have hbx:iD (T:Int) (M:Int) oa oc RR w2.heap.size (w2.alloc (.cells #[.int .i64 (T:Int),.int .i64 (M:Int),.slice oa RR.length oc] 24)):=BD gF;obtain⟨w3,hw3⟩:∃W,w2.alloc (.cells #[.int .i64 (T:Int),.int .i64 (M:Int),.slice oa RR.length oc] 24)=W:=⟨_,rfl⟩;rw[hw3]at hB3 hbx;have hK3:=HK.out.next hB3;have u0:=hK3.g0;have u1:=hK3.g1;have u2:=hK3.g2;have v0:=hbx.c0;have v1:=hbx.c1;have v2:=hbx.c2;have pa:=CG.out w3 hB3;have HB3:Hid (Below W0.heap.size W0 w3/\iD (T:Int) (M:Int) oa oc RR w2.heap.size w3):=⟨hB3,hbx⟩
      clear d8 hB2 hB3 hK3 gF hbx g0 g1 g2 s0 s1 s2 s3 hW0)
    |(go_at_call 5;with_reducible refine pa.mono ?_;rintro e w4 ⟨xa,xc,rfl,hlx,hxc,hB4⟩
      have eY:Below W0.heap.size W0 w4:=HB3.out.1.trans (hB4.mono HB3.out.1.size);have hb4:=HB3.out.2.next hB4;have v0:=hb4.c0;have v1:=hb4.c1;have v2:=hb4.c2;have pb:=Ab.out w4 oa oc eY hb4.rules;have bB:Hid (Below W0.heap.size W0 w4/\iD (T:Int) (M:Int) oa oc RR w2.heap.size w4/\aH w4 w4.heap.size (.slice xa X.length xc) X/\X.length<=xc):=⟨eY,hb4,hlx,hxc⟩
      clear pa hB4 eY hb4 hlx hxc u0 u1 u2)
    |(go_at_call 5;with_reducible refine pb.mono ?_;rintro e w5 ⟨ya,yc,rfl,nG,gq,ay⟩
      have dU:Below W0.heap.size W0 w5:=bB.out.1.trans (ay.mono bB.out.1.size);have hb5:=bB.out.2.1.next ay;have v1:=hb5.c1;have bL:=HK.out.next dU;have u0:=bL.g0;have u1:=bL.g1;have u2:=bL.g2;have u3:=bL.s0;have u4:=bL.s1;have u5:=bL.s2;have u6:=bL.s3;have bV:Hid (Below W0.heap.size W0 w5/\aH w5 w5.heap.size (.slice xa X.length xc) X/\X.length<=xc/\aH w5 w5.heap.size (.slice ya Y.length yc) Y/\Y.length<=yc):=⟨dU,(bB.out.2.2.1.below ay).mono ay.size,bB.out.2.2.2,nG,gq⟩
      clear pb ay dU hb5 bL nG gq))
  go_ret;exact⟨rfl,(HK.out.next bV.out.1).below⟩
 rcases hsA with⟨na,rfl,vD⟩|⟨rfl,FM,Xk,⟨st,Xl,Xm⟩,Xn⟩
 ·rcases CJ with⟨nb,rfl,Pj⟩|⟨rfl,hYl,Pk,_,_⟩
  ·have e1:decide ((0:Int)<=(na:Int))=true:=decide_eq_true (by omega)
   have e2:decide ((0:Int)<=(nb:Int))=true:=decide_eq_true (by omega);clear hkeep vD Pj
   go_enter Tryz.func3,Tryz.ntmps3
   go_wp2_with
    (first
     |(go_at_call 4;refine d8.mono ?_;rintro e w2 ⟨oa,oc,rfl,gF,hB2⟩
       have hB3:Below W0.heap.size W0 (w2.alloc (.cells #[.int .i64 (T:Int),.int .i64 (M:Int),.slice oa RR.length oc] 24)):=hB2.alloc hB2.size _;have hbx:iD (T:Int) (M:Int) oa oc RR w2.heap.size (w2.alloc (.cells #[.int .i64 (T:Int),.int .i64 (M:Int),.slice oa RR.length oc] 24)):=BD gF;obtain⟨w3,hw3⟩:∃W,w2.alloc (.cells #[.int .i64 (T:Int),.int .i64 (M:Int),.slice oa RR.length oc] 24)=W:=⟨_,rfl⟩;rw[hw3]at hB3 hbx;have hK3:=HK.out.next hB3;have u0:=hK3.g0;have u1:=hK3.g1;have u2:=hK3.g2;have v0:=hbx.c0;have v1:=hbx.c1;have v2:=hbx.c2;have pa:=CG.out w3 hB3;have HB3:Hid (Below W0.heap.size W0 w3/\iD (T:Int) (M:Int) oa oc RR w2.heap.size w3):=⟨hB3,hbx⟩
       clear d8 hB2 hB3 hK3 gF hbx g0 g1 g2 s0 s1 s2 s3 hW0)
     |(go_at_call 5;with_reducible refine pa.mono ?_;rintro e w4 ⟨xa,xc,rfl,hlx,hxc,hB4⟩
       have eY:Below W0.heap.size W0 w4:=HB3.out.1.trans (hB4.mono HB3.out.1.size);have hb4:=HB3.out.2.next hB4;have v0:=hb4.c0;have v1:=hb4.c1;have v2:=hb4.c2;have pb:=Ab.out w4 oa oc eY hb4.rules;have bB:Hid (Below W0.heap.size W0 w4/\iD (T:Int) (M:Int) oa oc RR w2.heap.size w4/\aH w4 w4.heap.size (.slice xa X.length xc) X/\X.length<=xc):=⟨eY,hb4,hlx,hxc⟩
       clear pa hB4 eY hb4 hlx hxc u0 u1 u2)
     |(go_at_call 5;with_reducible refine pb.mono ?_;rintro e w5 ⟨ya,yc,rfl,nG,gq,ay⟩
       have dU:Below W0.heap.size W0 w5:=bB.out.1.trans (ay.mono bB.out.1.size);have hb5:=bB.out.2.1.next ay;have v1:=hb5.c1;have bL:=HK.out.next dU;have u0:=bL.g0;have u1:=bL.g1;have u2:=bL.g2;have u3:=bL.s0;have u4:=bL.s1;have u5:=bL.s2;have u6:=bL.s3;have bV:Hid (Below W0.heap.size W0 w5/\aH w5 w5.heap.size (.slice xa X.length xc) X/\X.length<=xc/\aH w5 w5.heap.size (.slice ya Y.length yc) Y/\Y.length<=yc):=⟨dU,(bB.out.2.2.1.below ay).mono ay.size,bB.out.2.2.2,nG,gq⟩
       clear pb ay dU hb5 bL nG gq))
   go_ret;exact⟨rfl,(HK.out.next bV.out.1).below⟩
  ·exact absurd (hkeep.2 Pk) vD
 ·rcases CJ with⟨nb,rfl,Pj⟩|⟨rfl,hYl,Pk,⟨st',Xo,Xp⟩,Xq⟩
  ·exact absurd (hkeep.1 Xk) Pj
  ·have HX:Hid (jD R X=some st/\st.Y=tok/\(∀d,jf R 0 d tok->d.length<=400->d=X)/\jD RR Y=some st'/\st'.Y=tok/\∀d,jf RR 0 d tok->d.length<=400->d=Y):=⟨Xl,Xm,Xn,Xo,Xp,Xq⟩
   have Xt:Hid (X.length<=400/\Y.length<=400):=⟨FM,hYl⟩;clear hkeep Xk Pk Xl Xm Xn Xo Xp Xq;rcases Nat.lt_or_ge 200 X.length with hX2|hX2
   ·have j1:decide (200<X.length)=true:=decide_eq_true hX2
    have j2:decide ((200:Int)<(X.length:Int))=true:=decide_eq_true (by omega);clear FM hYl hX2;obtain⟨Z1,hZ1⟩:=Xi HF.out.1 HF.out.2.1 HX.out.1;obtain⟨Z2,hZ2⟩:=Xj (R:=R) (N:=N) (s:=s) (D:=Y) (st:=st') HF.out.1 HF.out.2.1 (by rw[HRR.out.1];exact HX.out.2.2.2.1)
    have FW:Hid (∀wq xa xc,Below W0.heap.size W0 wq->aH wq wq.heap.size (.slice xa X.length xc) X->X.length<=xc->Calls Tryz.prog 6 #[.agg #[.int .i64 T,.int .i64 N,.slice ra R.length rc],.agg #[.int .i64 s.op,.int .i64 s.a,.int .i64 s.b,.int .i64 s.c],.slice xa X.length xc] wq fun e w'=> ∃lv bo,e= .returned (.tuple #[lv,.bool bo])/\Below wq.heap.size wq w'):=fun wq xa xc hq hx hxc=>by
     refine(M9 (HK.out.next hq).all hx ⟨_,_,_,rfl,hxc⟩ s HF.out.2.2.1 HF.out.2.1 HF.out.2.2.2 hZ1).mono ?_;rintro e w' ⟨lv,bo,rfl,_,hB⟩;exact⟨lv,bo,rfl,hB⟩
    have FX:Hid (∀wq xa xc,Below W0.heap.size W0 wq->aH wq wq.heap.size (.slice xa Y.length xc) Y->Y.length<=xc->Calls Tryz.prog 7 #[.agg #[.int .i64 T,.int .i64 N,.slice ra R.length rc],.agg #[.int .i64 s.op,.int .i64 s.a,.int .i64 s.b,.int .i64 s.c],.slice xa Y.length xc] wq fun e w'=> ∃lv bo,e= .returned (.tuple #[lv,.bool bo])/\Below wq.heap.size wq w'):=fun wq xa xc hq hx hxc=>by
     refine(Na (HK.out.next hq).all hx ⟨_,_,_,rfl,hxc⟩ s HF.out.2.2.1 HF.out.2.1 HF.out.2.2.2 hZ2).mono ?_;rintro e w' ⟨lv,bo,rfl,_,hB⟩;exact⟨lv,bo,rfl,hB⟩
    clear hZ1 hZ2
    go_enter Tryz.func3,Tryz.ntmps3
    go_wp2_with
     (first
      |(go_at_call 4;refine d8.mono ?_;rintro e w2 ⟨oa,oc,rfl,gF,hB2⟩
        have hB3:Below W0.heap.size W0 (w2.alloc (.cells #[.int .i64 (T:Int),.int .i64 (M:Int),.slice oa RR.length oc] 24)):=hB2.alloc hB2.size _;have hbx:iD (T:Int) (M:Int) oa oc RR w2.heap.size (w2.alloc (.cells #[.int .i64 (T:Int),.int .i64 (M:Int),.slice oa RR.length oc] 24)):=BD gF;obtain⟨w3,hw3⟩:∃W,w2.alloc (.cells #[.int .i64 (T:Int),.int .i64 (M:Int),.slice oa RR.length oc] 24)=W:=⟨_,rfl⟩;rw[hw3]at hB3 hbx;have hK3:=HK.out.next hB3;have u0:=hK3.g0;have u1:=hK3.g1;have u2:=hK3.g2;have v0:=hbx.c0;have v1:=hbx.c1;have v2:=hbx.c2;have pa:=CG.out w3 hB3;have HB3:Hid (Below W0.heap.size W0 w3/\iD (T:Int) (M:Int) oa oc RR w2.heap.size w3):=⟨hB3,hbx⟩
        clear d8 hB2 hB3 hK3 gF hbx g0 g1 g2 s0 s1 s2 s3 hW0)
      |(go_at_call 5;with_reducible refine pa.mono ?_;rintro e w4 ⟨xa,xc,rfl,hlx,hxc,hB4⟩
        have eY:Below W0.heap.size W0 w4:=HB3.out.1.trans (hB4.mono HB3.out.1.size);have hb4:=HB3.out.2.next hB4;have v0:=hb4.c0;have v1:=hb4.c1;have v2:=hb4.c2;have pb:=Ab.out w4 oa oc eY hb4.rules;have bB:Hid (Below W0.heap.size W0 w4/\iD (T:Int) (M:Int) oa oc RR w2.heap.size w4/\aH w4 w4.heap.size (.slice xa X.length xc) X/\X.length<=xc):=⟨eY,hb4,hlx,hxc⟩
        clear pa hB4 eY hb4 hlx hxc u0 u1 u2)
      |(go_at_call 5;with_reducible refine pb.mono ?_;rintro e w5 ⟨ya,yc,rfl,nG,gq,ay⟩
        have dU:Below W0.heap.size W0 w5:=bB.out.1.trans (ay.mono bB.out.1.size);have hb5:=bB.out.2.1.next ay;have v1:=hb5.c1;have bL:=HK.out.next dU;have u0:=bL.g0;have u1:=bL.g1;have u2:=bL.g2;have u3:=bL.s0;have u4:=bL.s1;have u5:=bL.s2;have u6:=bL.s3;have bV:Hid (Below W0.heap.size W0 w5/\aH w5 w5.heap.size (.slice xa X.length xc) X/\X.length<=xc/\aH w5 w5.heap.size (.slice ya Y.length yc) Y/\Y.length<=yc):=⟨dU,(bB.out.2.2.1.below ay).mono ay.size,bB.out.2.2.2,nG,gq⟩;have fw:=FW.out w5 xa xc dU ((bB.out.2.2.1.below ay).mono ay.size) bB.out.2.2.2
        clear pb ay dU hb5 bL nG gq)
      |(go_at_call 6;refine fw.mono ?_;rintro e w6 ⟨lv,bo,rfl,aK⟩
        have dL:Below W0.heap.size W0 w6:=bV.out.1.trans (aK.mono bV.out.1.size);have bS:=HK.out.next dL;have u0:=bS.g0;have u1:=bS.g1;have u2:=bS.g2;have u3:=bS.s0;have u4:=bS.s1;have u5:=bS.s2;have u6:=bS.s3;have bk:=FX.out w6 ya yc dL ((bV.out.2.2.2.1.below aK).mono aK.size) bV.out.2.2.2.2;have jM:Hid (Below W0.heap.size W0 w6):=dL
        clear fw aK dL bS)
      |(go_at_call 7;refine bk.mono ?_;rintro e w7 ⟨lv2,bo2,rfl,bD⟩
        have nM:Hid (Below W0.heap.size W0 w7):=jM.out.trans (bD.mono jM.out.size)
        clear bk bD))
    go_ret;exact⟨rfl,(HK.out.next nM.out).below⟩
   rcases Nat.lt_or_ge 200 Y.length with hY2|hY2
   ·have j1:decide (200<X.length)=false:=decide_eq_false (by omega)
    have j2:decide ((200:Int)<(X.length:Int))=false:=decide_eq_false (by omega);have j3:decide (200<Y.length)=true:=decide_eq_true hY2;have j4:decide ((200:Int)<(Y.length:Int))=true:=decide_eq_true (by omega);clear FM hYl hX2 hY2;obtain⟨Z1,hZ1⟩:=Xi HF.out.1 HF.out.2.1 HX.out.1;obtain⟨Z2,hZ2⟩:=Xj (R:=R) (N:=N) (s:=s) (D:=Y) (st:=st') HF.out.1 HF.out.2.1 (by rw[HRR.out.1];exact HX.out.2.2.2.1)
    have FW:Hid (∀wq xa xc,Below W0.heap.size W0 wq->aH wq wq.heap.size (.slice xa X.length xc) X->X.length<=xc->Calls Tryz.prog 6 #[.agg #[.int .i64 T,.int .i64 N,.slice ra R.length rc],.agg #[.int .i64 s.op,.int .i64 s.a,.int .i64 s.b,.int .i64 s.c],.slice xa X.length xc] wq fun e w'=> ∃lv bo,e= .returned (.tuple #[lv,.bool bo])/\Below wq.heap.size wq w'):=fun wq xa xc hq hx hxc=>by
     refine(M9 (HK.out.next hq).all hx ⟨_,_,_,rfl,hxc⟩ s HF.out.2.2.1 HF.out.2.1 HF.out.2.2.2 hZ1).mono ?_;rintro e w' ⟨lv,bo,rfl,_,hB⟩;exact⟨lv,bo,rfl,hB⟩
    have FX:Hid (∀wq xa xc,Below W0.heap.size W0 wq->aH wq wq.heap.size (.slice xa Y.length xc) Y->Y.length<=xc->Calls Tryz.prog 7 #[.agg #[.int .i64 T,.int .i64 N,.slice ra R.length rc],.agg #[.int .i64 s.op,.int .i64 s.a,.int .i64 s.b,.int .i64 s.c],.slice xa Y.length xc] wq fun e w'=> ∃lv bo,e= .returned (.tuple #[lv,.bool bo])/\Below wq.heap.size wq w'):=fun wq xa xc hq hx hxc=>by
     refine(Na (HK.out.next hq).all hx ⟨_,_,_,rfl,hxc⟩ s HF.out.2.2.1 HF.out.2.1 HF.out.2.2.2 hZ2).mono ?_;rintro e w' ⟨lv,bo,rfl,_,hB⟩;exact⟨lv,bo,rfl,hB⟩
    clear hZ1 hZ2
    go_enter Tryz.func3,Tryz.ntmps3
    go_wp2_with
     (first
      |(go_at_call 4;refine d8.mono ?_;rintro e w2 ⟨oa,oc,rfl,gF,hB2⟩
        have hB3:Below W0.heap.size W0 (w2.alloc (.cells #[.int .i64 (T:Int),.int .i64 (M:Int),.slice oa RR.length oc] 24)):=hB2.alloc hB2.size _;have hbx:iD (T:Int) (M:Int) oa oc RR w2.heap.size (w2.alloc (.cells #[.int .i64 (T:Int),.int .i64 (M:Int),.slice oa RR.length oc] 24)):=BD gF;obtain⟨w3,hw3⟩:∃W,w2.alloc (.cells #[.int .i64 (T:Int),.int .i64 (M:Int),.slice oa RR.length oc] 24)=W:=⟨_,rfl⟩;rw[hw3]at hB3 hbx;have hK3:=HK.out.next hB3;have u0:=hK3.g0;have u1:=hK3.g1;have u2:=hK3.g2;have v0:=hbx.c0;have v1:=hbx.c1;have v2:=hbx.c2;have pa:=CG.out w3 hB3;have HB3:Hid (Below W0.heap.size W0 w3/\iD (T:Int) (M:Int) oa oc RR w2.heap.size w3):=⟨hB3,hbx⟩
        clear d8 hB2 hB3 hK3 gF hbx g0 g1 g2 s0 s1 s2 s3 hW0)
      |(go_at_call 5;with_reducible refine pa.mono ?_;rintro e w4 ⟨xa,xc,rfl,hlx,hxc,hB4⟩
        have eY:Below W0.heap.size W0 w4:=HB3.out.1.trans (hB4.mono HB3.out.1.size);have hb4:=HB3.out.2.next hB4;have v0:=hb4.c0;have v1:=hb4.c1;have v2:=hb4.c2;have pb:=Ab.out w4 oa oc eY hb4.rules;have bB:Hid (Below W0.heap.size W0 w4/\iD (T:Int) (M:Int) oa oc RR w2.heap.size w4/\aH w4 w4.heap.size (.slice xa X.length xc) X/\X.length<=xc):=⟨eY,hb4,hlx,hxc⟩
        clear pa hB4 eY hb4 hlx hxc u0 u1 u2)
      |(go_at_call 5;with_reducible refine pb.mono ?_;rintro e w5 ⟨ya,yc,rfl,nG,gq,ay⟩
        have dU:Below W0.heap.size W0 w5:=bB.out.1.trans (ay.mono bB.out.1.size);have hb5:=bB.out.2.1.next ay;have v1:=hb5.c1;have bL:=HK.out.next dU;have u0:=bL.g0;have u1:=bL.g1;have u2:=bL.g2;have u3:=bL.s0;have u4:=bL.s1;have u5:=bL.s2;have u6:=bL.s3;have bV:Hid (Below W0.heap.size W0 w5/\aH w5 w5.heap.size (.slice xa X.length xc) X/\X.length<=xc/\aH w5 w5.heap.size (.slice ya Y.length yc) Y/\Y.length<=yc):=⟨dU,(bB.out.2.2.1.below ay).mono ay.size,bB.out.2.2.2,nG,gq⟩;have fw:=FW.out w5 xa xc dU ((bB.out.2.2.1.below ay).mono ay.size) bB.out.2.2.2
        clear pb ay dU hb5 bL nG gq)
      |(go_at_call 6;refine fw.mono ?_;rintro e w6 ⟨lv,bo,rfl,aK⟩
        have dL:Below W0.heap.size W0 w6:=bV.out.1.trans (aK.mono bV.out.1.size);have bS:=HK.out.next dL;have u0:=bS.g0;have u1:=bS.g1;have u2:=bS.g2;have u3:=bS.s0;have u4:=bS.s1;have u5:=bS.s2;have u6:=bS.s3;have bk:=FX.out w6 ya yc dL ((bV.out.2.2.2.1.below aK).mono aK.size) bV.out.2.2.2.2;have jM:Hid (Below W0.heap.size W0 w6):=dL
        clear fw aK dL bS)
      |(go_at_call 7;refine bk.mono ?_;rintro e w7 ⟨lv2,bo2,rfl,bD⟩
        have nM:Hid (Below W0.heap.size W0 w7):=jM.out.trans (bD.mono jM.out.size)
        clear bk bD))
    go_ret;exact⟨rfl,(HK.out.next nM.out).below⟩
   ·have j1:decide (200<X.length)=false:=decide_eq_false (by omega)
    have j2:decide ((200:Int)<(X.length:Int))=false:=decide_eq_false (by omega);have j3:decide (200<Y.length)=false:=decide_eq_false (by omega);have j4:decide ((200:Int)<(Y.length:Int))=false:=decide_eq_false (by omega);have hZ1:=afp HF.out.1 HF.out.2.1 HX.out.1 HX.out.2.1 hX2 (by rw[HRR.out.1];exact HX.out.2.2.2.2.2);have hZ2:=afq (R:=R) (N:=N) (s:=s) (D:=Y) (st:=st') HF.out.1 HF.out.2.1 (by rw[HRR.out.1];exact HX.out.2.2.2.1) HX.out.2.2.2.2.1 hY2 HX.out.2.2.1
    have FW:Hid (∀wq xa xc,Below W0.heap.size W0 wq->aH wq wq.heap.size (.slice xa X.length xc) X->X.length<=xc->Calls Tryz.prog 6 #[.agg #[.int .i64 T,.int .i64 N,.slice ra R.length rc],.agg #[.int .i64 s.op,.int .i64 s.a,.int .i64 s.b,.int .i64 s.c],.slice xa X.length xc] wq fun e w'=> ∃za zc,e= .returned (.tuple #[.slice za Y.length zc,.bool true])/\aH w' w'.heap.size (.slice za Y.length zc) Y/\Below wq.heap.size wq w'):=fun wq xa xc hq hx hxc=>by
     refine(M9 (HK.out.next hq).all hx ⟨_,_,_,rfl,hxc⟩ s HF.out.2.2.1 HF.out.2.1 HF.out.2.2.2 hZ1).mono ?_;rintro e w' ⟨lv,bo,rfl,⟨rfl,h1,h2⟩,hB⟩;obtain⟨za,zc,rfl⟩:=h1.1;exact⟨za,zc,rfl,h1,hB⟩
    have FX:Hid (∀wq xa xc,Below W0.heap.size W0 wq->aH wq wq.heap.size (.slice xa Y.length xc) Y->Y.length<=xc->Calls Tryz.prog 7 #[.agg #[.int .i64 T,.int .i64 N,.slice ra R.length rc],.agg #[.int .i64 s.op,.int .i64 s.a,.int .i64 s.b,.int .i64 s.c],.slice xa Y.length xc] wq fun e w'=> ∃za zc,e= .returned (.tuple #[.slice za X.length zc,.bool true])/\aH w' w'.heap.size (.slice za X.length zc) X/\Below wq.heap.size wq w'):=fun wq xa xc hq hx hxc=>by
     refine(Na (HK.out.next hq).all hx ⟨_,_,_,rfl,hxc⟩ s HF.out.2.2.1 HF.out.2.1 HF.out.2.2.2 hZ2).mono ?_;rintro e w' ⟨lv,bo,rfl,⟨rfl,h1,h2⟩,hB⟩;obtain⟨za,zc,rfl⟩:=h1.1;exact⟨za,zc,rfl,h1,hB⟩
    clear FM hYl hX2 hY2 hZ1 hZ2
    go_enter Tryz.func3,Tryz.ntmps3
    go_wp2_with
     (first
      |(go_at_call 4;refine d8.mono ?_;rintro e w2 ⟨oa,oc,rfl,gF,hB2⟩
        have hB3:Below W0.heap.size W0 (w2.alloc (.cells #[.int .i64 (T:Int),.int .i64 (M:Int),.slice oa RR.length oc] 24)):=hB2.alloc hB2.size _;have hbx:iD (T:Int) (M:Int) oa oc RR w2.heap.size (w2.alloc (.cells #[.int .i64 (T:Int),.int .i64 (M:Int),.slice oa RR.length oc] 24)):=BD gF;obtain⟨w3,hw3⟩:∃W,w2.alloc (.cells #[.int .i64 (T:Int),.int .i64 (M:Int),.slice oa RR.length oc] 24)=W:=⟨_,rfl⟩;rw[hw3]at hB3 hbx;have hK3:=HK.out.next hB3;have u0:=hK3.g0;have u1:=hK3.g1;have u2:=hK3.g2;have v0:=hbx.c0;have v1:=hbx.c1;have v2:=hbx.c2;have pa:=CG.out w3 hB3;have HB3:Hid (Below W0.heap.size W0 w3/\iD (T:Int) (M:Int) oa oc RR w2.heap.size w3):=⟨hB3,hbx⟩
        clear d8 hB2 hB3 hK3 gF hbx g0 g1 g2 s0 s1 s2 s3 hW0)
      |(go_at_call 5;with_reducible refine pa.mono ?_;rintro e w4 ⟨xa,xc,rfl,hlx,hxc,hB4⟩
        have eY:Below W0.heap.size W0 w4:=HB3.out.1.trans (hB4.mono HB3.out.1.size);have hb4:=HB3.out.2.next hB4;have v0:=hb4.c0;have v1:=hb4.c1;have v2:=hb4.c2;have pb:=Ab.out w4 oa oc eY hb4.rules;have bB:Hid (Below W0.heap.size W0 w4/\iD (T:Int) (M:Int) oa oc RR w2.heap.size w4/\aH w4 w4.heap.size (.slice xa X.length xc) X/\X.length<=xc):=⟨eY,hb4,hlx,hxc⟩
        clear pa hB4 eY hb4 hlx hxc u0 u1 u2)
      |(go_at_call 5;with_reducible refine pb.mono ?_;rintro e w5 ⟨ya,yc,rfl,nG,gq,ay⟩
        have dU:Below W0.heap.size W0 w5:=bB.out.1.trans (ay.mono bB.out.1.size);have hb5:=bB.out.2.1.next ay;have v1:=hb5.c1;have bL:=HK.out.next dU;have u0:=bL.g0;have u1:=bL.g1;have u2:=bL.g2;have u3:=bL.s0;have u4:=bL.s1;have u5:=bL.s2;have u6:=bL.s3;have bV:Hid (Below W0.heap.size W0 w5/\aH w5 w5.heap.size (.slice xa X.length xc) X/\X.length<=xc/\aH w5 w5.heap.size (.slice ya Y.length yc) Y/\Y.length<=yc):=⟨dU,(bB.out.2.2.1.below ay).mono ay.size,bB.out.2.2.2,nG,gq⟩;have fw:=FW.out w5 xa xc dU ((bB.out.2.2.1.below ay).mono ay.size) bB.out.2.2.2
        clear pb ay dU hb5 bL nG gq)
      |(go_at_call 6;refine fw.mono ?_;rintro e w6 ⟨za,zc,rfl,hlz,aK⟩
        have dL:Below W0.heap.size W0 w6:=bV.out.1.trans (aK.mono bV.out.1.size);have bS:=HK.out.next dL;have u0:=bS.g0;have u1:=bS.g1;have u2:=bS.g2;have u3:=bS.s0;have u4:=bS.s1;have u5:=bS.s2;have u6:=bS.s3;have Pm:=(bV.out.2.2.2.1.below aK).mono aK.size;have bk:=FX.out w6 ya yc dL Pm bV.out.2.2.2.2;have jM:Hid (Below W0.heap.size W0 w6/\aH w6 w6.heap.size (.slice xa X.length xc) X/\aH w6 w6.heap.size (.slice ya Y.length yc) Y/\aH w6 w6.heap.size (.slice za Y.length zc) Y):=⟨dL,(bV.out.2.1.below aK).mono aK.size,Pm,hlz⟩
        clear fw aK dL bS hlz Pm)
      |(go_at_call 7;refine bk.mono ?_;rintro e w7 ⟨qa,qc,rfl,hlq,bD⟩
        have dh:Below W0.heap.size W0 w7:=jM.out.1.trans (bD.mono jM.out.1.size);have i1:=Xf ((jM.out.2.2.2.below bD).mono bD.size) ((jM.out.2.2.1.below bD).mono bD.size) (by have:=Xt.out.2;omega);have nM:Hid (Below W0.heap.size W0 w7/\aH w7 w7.heap.size (.slice qa X.length qc) X/\aH w7 w7.heap.size (.slice xa X.length xc) X):=⟨dh,hlq,(jM.out.2.1.below bD).mono bD.size⟩
        clear bk bD dh hlq)
      |(go_at_call 8;with_reducible refine i1.mono ?_;rintro e w8 ⟨rfl,m8,hw8⟩
        have gW:Below w7.heap.size w7 w8:=by rw[hw8];exact below_drewN (Below.refl _ _) _
        have gX:Below W0.heap.size W0 w8:=nM.out.1.trans (gW.mono nM.out.1.size);have i2:=Xf ((nM.out.2.1.below gW).mono gW.size) ((nM.out.2.2.below gW).mono gW.size) (by have:=Xt.out.1;omega);have xA:Hid (Below W0.heap.size W0 w8):=gX
        clear i1 gW gX hw8)
      |(go_at_call 8;with_reducible refine i2.mono ?_;rintro e w9 ⟨rfl,m9,Xu⟩
        have Cm:Hid (Below W0.heap.size W0 w9):=by show Below _ _ _;rw[Xu];exact below_drewN xA.out _
        clear i2 Xu))
    go_ret;exact⟨rfl,(HK.out.next Cm.out).below⟩
end
theorem afv{w:World}{T N:Int}{rv tv:Value}{R:List Ru}{tok:List Int}(hr:aD w w.heap.size rv R)(ht:aH w w.heap.size tv tok)(s:Stp):
 Calls Tryz.prog 3 #[.agg #[.int .i64 T,.int .i64 N,rv],.agg #[.int .i64 s.op,.int .i64 s.a,.int .i64 s.b,.int .i64 s.c],tv] w fun e w'=>e= .returned (.bool true)/\Below w.heap.size w w':=by
 obtain⟨ra,rc,bW⟩:=hr.1;subst bW;rcases afr (T:=T) (N:=N) (R:=R) s with⟨V,M,hV⟩|⟨V,M,hV⟩|⟨t,n,rfl,rfl,hm,hs,hz,hV⟩
 ·exact afs hr ht s hV
 ·exact aft hr ht s hV
 ·exact afu hr ht s hm hs hz hV
end Go.Proofs.YtpkmpkphfflpjaaGreat
