import Derived.Test.YtblkkhfdeaaidaaGreatDoorTkMemAndTkRules
import Derived.Laws.BitsAllLaws
import Derived.Deep.RegionHeld3
import Derived.RegionTactic
import Derived.Deep.RegionLaw
set_option maxHeartbeats 6400000
set_option maxRecDepth 100000
namespace Go.Proofs.YtblkkhfdeaaidaaGreatDoor
open Go.RowKit
theorem RX(L:List Bool)(n:Nat):maskN L n<2^n:=Nat.lt_pow_two_of_testBit _ fun i hi=>by rw[Rn];simp;omega
theorem aaM(m n:Nat):decide (((m&&&2^n:Nat):Int)≠0)=m.testBit n:=by
 cases h:m.testBit n with
 |false=>
  have:m&&&2^n=0:=Nat.eq_of_testBit_eq fun i=>by
   rw[Nat.testBit_and,Nat.testBit_two_pow,Nat.zero_testBit];by_cases e:n=i
   ·subst e;simp[h]
   ·simp[e]
  simp[this]
 |true=>
  have:m&&&2^n≠0:=fun e=>by
   have h2:(m&&&2^n).testBit n=true:=by rw[Nat.testBit_and,Nat.testBit_two_pow,h];simp
   rw[e]at h2;simp at h2
  simpa using this
theorem aaN{w:World}{m n:Nat}(hm:m<4294967296)(hn:n<=8):
 Calls Tryz.prog 109 #[.int .u32 m,.int .i64 n] w fun e w'=>e= .returned (.bool (m.testBit n))/\w'=w:=by
 have one:=Gq (w:=w) hn;have hp:2^n<4294967296:=Nat.lt_of_le_of_lt (Nat.pow_le_pow_right (by omega) hn) (by decide);rw[<-aaM];obtain⟨p,hp'⟩:∃p,2^n=p:=⟨_,rfl⟩;rw[hp']at one hp⊢;have hb:=u32_and_nat m p hm hp;clear hp';obtain⟨q,hq⟩:∃q,m&&&p=q:=⟨_,rfl⟩;rw[hq]at hb⊢;clear hq;by_cases h0:q=0
 ·subst h0
  go_enter Tryz.func109,Tryz.ntmps109
  go_wp2_with (go_at_call 83;refine one.mono ?_;rintro e w1 ⟨rfl,rfl⟩)
  go_ret;exact⟨rfl,rfl⟩
 ·have e1:((q:Int) !=0)=true:=by simpa using h0
  have e2:decide ((q:Int)≠0)=true:=by simpa using h0
  rw[e2]
  go_enter Tryz.func109,Tryz.ntmps109
  go_wp2_with (go_at_call 83;refine one.mono ?_;rintro e w1 ⟨rfl,rfl⟩)
  go_ret;exact⟨rfl,rfl⟩
structure Knows(w:World)(ab T N:Nat)(nv fv:Value)(Nu:List Bool)(Fi:List (List Bool)):Prop where
 c3:w.cell? ⟨ab,3,none⟩=some nv
 c4:w.cell? ⟨ab,4,none⟩=some fv
 kM:kL w nv Nu
 nX:oZ w fv Fi
 Gj:Nu.length=N
 xu:Fi.length=N
 yR:∀n,n<N->(Fi.getD n []).length=T
 hT:T<=8
theorem Knows.later{w w':World}{ab T N:Nat}{nv fv:Value}{Nu:List Bool}{Fi:List (List Bool)}(h:Knows w ab T N nv fv Nu Fi)(hb:Below w.heap.size w w'):Knows w' ab T N nv fv Nu Fi:=
 ⟨(hb.cell (World.block_lt_of_cell? _ _ h.c3)).trans h.c3,(hb.cell (World.block_lt_of_cell? _ _ h.c4)).trans h.c4,h.kM.same (iH hb),h.nX.same (iH hb),h.Gj,h.xu,h.yR,h.hT⟩
theorem aj.knows{w0 w:World}{d:eD}{v:bS}{G:Wy->Option Value}{ng:Nat}{st:LS}{R:List Ru}{Nu:List Bool}{Fi:List (List Bool)}(h:aj w0 w d v G ng st)(E:iT w0 d R Nu Fi):Knows w d.ma d.T d.N d.nv d.fv Nu Fi:=
 ⟨(h.cell (i:=3) rfl (by omega)).1,(h.cell (i:=4) rfl (by omega)).1,E.kM.same (iH h.since),E.nX.same (iH h.since),E.Gj,E.xu,E.yR,E.hT⟩
theorem aaO{w:World}{ab T N:Nat}{nv fv:Value}{Nu:List Bool}{Fi:List (List Bool)}{s:Sy}(hK:Knows w ab T N nv fv Nu Fi)(h1:s.1=true->0<=s.2/\s.2<(T:Int))(h2:s.1=false->0<=s.2/\s.2<(N:Int)):
 Calls Tryz.prog 139 #[.pointer (some ⟨ab,0,none⟩),.agg #[.bool s.1,.int .i64 s.2]] w fun e w'=>e= .returned (.int .u32 (jX Fi s))/\jX Fi s<512/\Below w.heap.size w w':=by
 have hT:=hK.hT;obtain⟨b,v⟩:=s;simp only at h1 h2⊢;cases b with
 |true=>
  obtain⟨v0,v1⟩:=h1 rfl;obtain⟨n,rfl⟩:∃n:Nat,v=n:=⟨v.toNat,by omega⟩;have one:=Gq (w:=w.alloc (.cells #[.bool true,.int .i64 n] 116)) (n:=n) (by omega);have HF:Hid (jX Fi (true,(n:Int))=2^n):=by show jX Fi (true,(n:Int))=_;simp[jX]
  have HL:Hid (2^n<512):=by show 2^n<512;exact Nat.lt_of_le_of_lt (Nat.pow_le_pow_right (by omega) (show n<=8 by omega)) (by decide)
  obtain⟨p,hp⟩:∃p,2^n=p:=⟨_,rfl⟩;rw[hp]at one HF HL;clear hK h1 h2 hp
  go_enter Tryz.func139,Tryz.ntmps139
  go_wp2_with (go_at_call 83;refine one.mono ?_;rintro e w1 ⟨rfl,rfl⟩)
  go_ret;exact⟨by rw[HF.out];rfl,by rw[HF.out];exact HL.out,(Below.refl _ _).alloc (Nat.le_refl _) _⟩
 |false=>
  obtain⟨v0,v1⟩:=h2 rfl;obtain⟨n,rfl⟩:∃n:Nat,v=n:=⟨v.toNat,by omega⟩;have RY:n<N:=by omega
  have hK1:=hK.later ((Below.refl _ _).alloc (Nat.le_refl _) (.cells #[.bool false,.int .i64 n] 116));obtain⟨g,o,c,rv,o8,d0,hrow⟩:=hK1.nX.2 n (by rw[hK1.xu];omega);obtain⟨L,hL⟩:∃L,Fi.getD n []=L:=⟨_,rfl⟩;have DN:L.length=T:=by rw[<-hL];exact hK.yR n RY
  rw[hL]at hrow;obtain⟨ra,rc,aG⟩:=hrow.1;subst aG;subst o8;have c4:=hK1.c4;have i0:(0:Int)<=(n:Int):=Int.natCast_nonneg _;have i1:(n:Int)<(Fi.length:Int):=by rw[hK.xu];omega
  have HR:Hid (kL (w.alloc (.cells #[.bool false,.int .i64 n] 116)) (.slice ra L.length rc) L):=hrow;have HF:Hid (jX Fi (false,(n:Int))=maskN L L.length):=by show jX Fi (false,(n:Int))=_;simp[jX,<-hL]
  have HT:Hid (L.length=T/\T<=8):=⟨DN,hT⟩;have hL8:L.length<=8:=by omega
  clear hK h1 h2 hK1 hrow hL DN hT
  go_enter Tryz.func139,Tryz.ntmps139
  go_wp2_with fail
  go_big_quiet (fail)
  go_wp2_with fail
  clear c4 d0
  go_loopw [5,23] (fun s5 s23 wr=> ∃k:Nat,s5= .int .u32 (maskN L k)/\s23= .int .i64 k/\k<=L.length/\wr=(w.alloc (.cells #[.bool false,.int .i64 n] 116)).drewN nq) (fun _ s _=>L.length-(intOf s).toNat)
  case atStart=>exact⟨0,rfl,rfl,Nat.zero_le _,rfl⟩
  case round=>
   obtain⟨k,rfl,rfl,hk,rfl⟩:=hrel;by_cases hlt:k<L.length
   ·obtain⟨g',o',c',hv',e0⟩:=HR.out.2 k hlt
    cases hv';have one:=Gq (w:=(w.alloc (.cells #[.bool false,.int .i64 n] 116)).drewN nq) (n:=k) (by omega);have hml:=RX L k;have hpk:2^k<=256:=Nat.le_trans (Nat.pow_le_pow_right (by omega) (show k<=8 by omega)) (by decide);have k0:(0:Int)<=(k:Int):=Int.natCast_nonneg _;have k1:(k:Int)<(L.length:Int):=by omega
    obtain⟨x,hx⟩:∃x,L.getD k false=x:=⟨_,rfl⟩;rw[hx]at e0;have HM:Hid (maskN L (k+1)=if x then maskN L k|||2^k else maskN L k):=by show maskN L (k+1)=_;rw[maskN,hx]
    obtain⟨p,hp⟩:∃p,2^k=p:=⟨_,rfl⟩;obtain⟨q,hq⟩:∃q,maskN L k=q:=⟨_,rfl⟩;rw[hp]at one hml hpk HM;rw[hq]at hml HM⊢;have hor:=u32_or_nat q p (by omega) (by omega);clear hx hp hq;cases x with
    |true=>
     go_wp2_with (go_at_call 83;refine one.mono ?_;rintro e w1 ⟨rfl,rfl⟩)
     go_roundw
     case rel=>exact⟨k+1,by rw[HM.out];rfl,by go_num,by omega,trivial⟩
     case measure=>simp[intOf];omega
    |false=>
     go_wp2_with fail
     go_roundw
     case rel=>exact⟨k+1,by rw[HM.out];rfl,by go_num,by omega,trivial⟩
     case measure=>simp[intOf];omega
   ·obtain rfl:k=L.length:=by omega
    have HL:Hid (maskN L L.length<512):=by
     show maskN L L.length<512;have:=RX L L.length;have:2^L.length<=256:=Nat.le_trans (Nat.pow_le_pow_right (by omega) (show L.length<=8 by omega)) (by decide);omega
    go_wp2_with fail
    go_ret;exact⟨by rw[HF.out];rfl,by rw[HF.out];exact HL.out,below_drewN ((Below.refl _ _).alloc (Nat.le_refl _) _) _⟩
theorem Gr{a b:Nat}(ha:a<512)(hb:b<512):a|||b<512:=Nat.or_lt_two_pow (n:=9) ha hb
theorem aaP{Nu:List Bool}{Fi:List (List Bool)}{a k:Nat}{l:List Sy}{s:Sy}(h:l.drop k=s::l.drop (k+1)):
 jr Nu Fi a (l.drop k)=if s.1|| !Nu.getD s.2.toNat false then (a|||jX Fi s,false) else jr Nu Fi (a|||jX Fi s) (l.drop (k+1)):=by rw[h,jr]
theorem aaQ{la:Option Addr}{n lc b:Nat}(hb:b+1<=n):∃A,(∀w:World,Sem.run Tryz.prog (Instr.sliceAt 89 (.slice la n lc) (some (.int .i64 ((b:Int)+1))) none none) w= .ok (.slice A (n-(b+1)) (lc-(b+1))) w)/\(lc≠b+1->A=la.map (·.add ((b+1)*2))):=by
 have h0:(0:Int)<=(b:Int)+1:=by omega
 have h1:(b:Int)+1<=(n:Int):=by omega
 refine⟨if lc=b+1 then la else la.map (·.add ((b+1)*2)),fun w=> ?_,fun h=>by rw[if_neg h]⟩
 go_simp
theorem aaR{w:World}{lim ab T N a b:Nat}{rv nv fv:Value}{R:List Ru}{Nu:List Bool}{Fi:List (List Bool)}(hA:iC w lim ab T N rv R)(hK:Knows w ab T N nv fv Nu Fi)(hr:a<=R.length)(hb:b<(aH R a).length)(h8:(aH R a).length<=8)
 (hsy:∀s∈aH R a,(s.1=true->0<=s.2/\s.2<(T:Int))/\(s.1=false->0<=s.2/\s.2<(N:Int))):
 Calls Tryz.prog 106 #[.pointer (some ⟨ab,0,none⟩),.agg #[.int .i64 a,.int .i64 b]] w fun e w'=>e= .returned (.tuple #[.int .u32 (mV R Nu Fi (a,b)).1,.bool (mV R Nu Fi (a,b)).2])/\(mV R Nu Fi (a,b)).1<512/\Below w.heap.size w w':=by
 obtain⟨W1,hW1⟩:∃W1,w.alloc (.cells #[.int .i64 a,.int .i64 b] 138)=W1:=⟨_,rfl⟩;have hB1:Below w.heap.size w W1:=by rw[<-hW1];exact(Below.refl _ _).alloc (Nat.le_refl _) _
 have rg:=KT ((hA.later hB1).later (Below.refl _ _).drew) hr;have HK:Hid (Knows W1 ab T N nv fv Nu Fi):=hK.later hB1;have b0:W1.cell? ⟨w.heap.size,0,none⟩=some (.int .i64 a):=by rw[<-hW1];simp[go_sem]
 have b1:W1.cell? ⟨w.heap.size,1,none⟩=some (.int .i64 b):=by rw[<-hW1];simp[go_sem]
 have hsz:w.heap.size<W1.heap.size:=by rw[<-hW1];simp
 obtain⟨Rt,lq⟩:∃x,aH R a=x:=⟨_,rfl⟩;have HM:Hid (mV R Nu Fi (a,b)=jr Nu Fi 0 (Rt.drop (b+1))):=by show mV R Nu Fi (a,b)=_;rw[<-lq];rfl
 rw[lq]at rg hb h8 hsy;have HS:Hid (∀s∈Rt,(s.1=true->0<=s.2/\s.2<(T:Int))/\(s.1=false->0<=s.2/\s.2<(N:Int))):=hsy;obtain⟨m,hm⟩:∃m,Rt.drop (b+1)=m:=⟨_,rfl⟩;have hml:m.length=Rt.length-(b+1):=by rw[<-hm];simp
 have KW:Hid (∀j,j<m.length->m.getD j (false,0)=Rt.getD (b+1+j) (false,0)):=fun j hj=>by
  rw[<-hm,List.getD,List.getD,List.getElem?_drop]
 rw[hm]at HM;have HB1:Hid (Below w.heap.size w W1):=hB1;clear hA hK lq hsy hm hr hB1
 go_enter Tryz.func106,Tryz.ntmps106
 go_wp2_with fail
 clear hW1;have j0:(0:Int)<=(b:Int)+1:=by omega
 have j1:(b:Int)+1<=(Rt.length:Int):=by omega
 have hw:IntKind.i64.wrap ((b:Int)+1)=(b:Int)+1:=IntWalk.i64_in _ (by omega)
 go_cut [15,16,17] from 8 (fun s15 s16 KX wx=> ∃la lc,s15= .slice la m.length lc/\s16= .int .i64 m.length/\KX= .int .i64 0/\bG wx (.slice la m.length lc) m/\Below W1.heap.size W1 wx)
 case first=>
  go_region_held3 (fun w'=>w'.cell? ⟨w.heap.size,0,none⟩=some (.int .i64 a)/\w'.cell? ⟨w.heap.size,1,none⟩=some (.int .i64 b)) (first|(refine⟨?_,?_⟩<;>assumption)|go_keep)
   (first
    |(go_at_call 138;refine rg.mono ?_;rintro e w2 ⟨la,lc,rfl,hsy,hB2⟩
      have c0:=(hB2.cell (p:=⟨w.heap.size,0,none⟩) hsz).trans b0;have c1:=(hB2.cell (p:=⟨w.heap.size,1,none⟩) hsz).trans b1;obtain⟨_,_,hx1,hx2⟩:=hsy.1;cases hx1;obtain⟨A,hsl,yT⟩:=aaQ (la:=la) (lc:=lc) (b:=b) (n:=Rt.length) hb;have HX:Hid (bG w2 (.slice la Rt.length lc) Rt/\Rt.length<=lc/\(lc≠b+1->A=la.map (·.add ((b+1)*2)))/\Below W1.heap.size W1 w2):=⟨hsy,hx2,yT,(Below.refl _ _).drew.trans hB2⟩
      clear hsy yT hB2 hx2))
  go_wp2_with fail
  go_meet
  case rel=>
   obtain⟨hsy,hx2,yT,hB⟩:=HX.out;refine⟨A,lc-(b+1),by rw[hml],by rw[hml],rfl,⟨⟨_,_,rfl,by omega⟩,fun j hj=> ?_⟩,hB⟩;obtain⟨g,o,c,hv,e1,e2⟩:=hsy.2 (b+1+j) (by omega);cases hv;have hA':=yT (by omega);subst hA';rw[KW.out j hj];refine⟨g,o+(b+1)*2,lc-(b+1),rfl,?_,?_⟩
   ·rw[show o+(b+1)*2+j*2=o+(b+1+j)*2 by omega];exact e1
   ·rw[show o+(b+1)*2+j*2+1=o+(b+1+j)*2+1 by omega];exact e2
 case rest=>
  obtain⟨la,lc,rfl,rfl,rfl,hsy,nZ⟩:=hcut;have jH:Hid (bG wc (.slice la m.length lc) m):=hsy;have AB:Hid (Below w.heap.size w wc):=HB1.out.trans (nZ.mono (by omega));have HKc:Hid (Knows wc ab T N nv fv Nu Fi):=HK.out.later nZ
  have HMS:Hid (∀s∈m,(s.1=true->0<=s.2/\s.2<(T:Int))/\(s.1=false->0<=s.2/\s.2<(N:Int))):=fun s hs=>by
   obtain⟨j,hj,rfl⟩:=List.getElem_of_mem hs;have h1:=KW.out j hj;have e:m.getD j (false,0)=m[j]:=by simp[List.getD,hj]
   rw[<-e,h1];exact HS.out _ (by rw[List.getD,List.getElem?_eq_getElem (show b+1+j<Rt.length by omega)];exact List.getElem_mem _)
  have hm8:m.length<=8:=by omega
  clear hsy nZ rg HK b0 b1 HS KW j0 j1 hw hml
  go_wp2_with fail
  go_loopw [4,17] (fun s4 KX wr=> ∃k acc:Nat,s4= .int .u32 acc/\KX= .int .i64 k/\k<=m.length/\acc<512/\jr Nu Fi 0 m=jr Nu Fi acc (m.drop k)/\Below wc.heap.size wc wr) (fun _ s _=>m.length-(intOf s).toNat)
  case atStart=>exact⟨0,0,rfl,rfl,Nat.zero_le _,by omega,rfl,Below.refl _ _⟩
  case round=>
   obtain⟨k,acc,rfl,rfl,hk,hacc,hbe,hB⟩:=hrel;have kP:Hid (jr Nu Fi 0 m=jr Nu Fi acc (m.drop k)):=hbe;have HB:Hid (Below wc.heap.size wc wr):=hB;have jk:Hid (Below w.heap.size w wr):=AB.out.trans (hB.mono AB.out.size);clear hbe;by_cases hlt:k<m.length
   ·obtain⟨g,o,c,hv,k1,k2⟩:=(jH.out.same (iH hB)).2 k hlt
    cases hv;have hmem:m.getD k (false,0)∈m:=by simp[List.getD,hlt]
    have hin:=HMS.out _ hmem;have hdrop:m.drop k=m.getD k (false,0)::m.drop (k+1):=by rw[List.drop_eq_getElem_cons hlt];simp[List.getD,hlt]
    obtain⟨s,hs⟩:∃s,m.getD k (false,0)=s:=⟨_,rfl⟩;rw[hs]at k1 k2 hin hdrop;have HD:=aaP (Nu:=Nu) (Fi:=Fi) (a:=acc) hdrop;have hKr:=(HKc.out.later hB).later ((Below.refl _ _).alloc (Nat.le_refl _) (.cells #[.bool s.1,.int .i64 s.2] 116));have nX:=aaO hKr hin.1 hin.2;have lM:Hid (Knows (wr.alloc (.cells #[.bool s.1,.int .i64 s.2] 116)) ab T N nv fv Nu Fi):=hKr;have wT:Hid (s.1=false->0<=s.2/\s.2<(N:Int)):=hin.2;have i0:(0:Int)<=(k:Int):=Int.natCast_nonneg _;have i1:(k:Int)<(m.length:Int):=by omega
    obtain⟨f,hf⟩:∃f,jX Fi s=f:=⟨_,rfl⟩;rw[hf]at nX HD;rw[<-kP.out]at HD;have xw:Hid (jr Nu Fi 0 m=if s.1|| !Nu.getD s.2.toNat false then (acc|||f,false) else jr Nu Fi (acc|||f) (m.drop (k+1))):=HD;clear hB hmem hin hdrop hs hf hKr HD kP;obtain⟨sb,sn⟩:=s;simp only at k1 k2 nX lM xw wT;cases sb with
    |true=>
     go_wp2_with
      (go_at_call 139;refine nX.mono ?_;rintro e w2 ⟨rfl,AJ,hB2⟩
       have hor:=u32_or_nat acc f (by omega) (by omega);have b0:w2.cell? ⟨wr.heap.size,0,none⟩=some (.bool true):=(hB2.cell (by simp)).trans (by simp[go_sem]);have hxl:=Gr hacc AJ;have HB2:Hid (Below wr.heap.size wr w2):=((Below.refl _ _).alloc (Nat.le_refl _) _).trans (hB2.mono (by simp));obtain⟨x,hx⟩:∃x,acc|||f=x:=⟨_,rfl⟩;rw[hx]at hor xw hxl
       clear hx hB2 nX)
     go_big_quiet (fail)
     go_wp2_with fail
     have e9:mV R Nu Fi (a,b)=(x,false):=by rw[HM.out,xw.out];simp
     rw[e9];refine bodyPost_ret (v:= .tuple #[.int .u32 x,.bool false]) (by simp[results,Tryz.results106,go_sem]) rfl ⟨rfl,hxl,?_⟩;exact below_drewN (jk.out.trans (HB2.out.mono jk.out.size)) _
    |false=>
     obtain⟨n0,n1⟩:=wT.out rfl;obtain⟨n,rfl⟩:∃n:Nat,sn=n:=⟨sn.toNat,by omega⟩;obtain⟨na,nc,vE⟩:=lM.out.kM.1;subst vE;have hNl:=lM.out.Gj;simp only[Int.toNat_natCast,Bool.false_or]at xw;have q1:(n:Int)<(Nu.length:Int):=by omega
     obtain⟨z,hz⟩:∃z,Nu.getD n false=z:=⟨_,rfl⟩;rw[hz]at xw;have HZ:Hid (Nu.getD n false=z):=hz;clear hz hNl
     go_wp2_with
      (go_at_call 139;refine nX.mono ?_;rintro e w2 ⟨rfl,AJ,hB2⟩
       have hor:=u32_or_nat acc f (by omega) (by omega);have b0:w2.cell? ⟨wr.heap.size,0,none⟩=some (.bool false):=(hB2.cell (by simp)).trans (by simp[go_sem]);have b1:w2.cell? ⟨wr.heap.size,1,none⟩=some (.int .i64 n):=(hB2.cell (by simp)).trans (by simp[go_sem]);have hK2:=lM.out.later hB2;have c3:=hK2.c3;obtain⟨g',o',c',hv',d0⟩:=hK2.kM.2 n (by omega);cases hv';rw[HZ.out]at d0;have hxl:=Gr hacc AJ;have HB2:Hid (Below wr.heap.size wr w2):=((Below.refl _ _).alloc (Nat.le_refl _) _).trans (hB2.mono (by simp));obtain⟨x,hx⟩:∃x,acc|||f=x:=⟨_,rfl⟩;rw[hx]at hor xw hxl
       clear hx hB2 nX hK2)
     cases z with
     |true=>
      go_big_quiet (fail)
      go_wp2_with fail
      go_roundw
      case rel=>exact⟨k+1,x,rfl,by go_num,by omega,hxl,by rw[xw.out];simp,below_drewN (HB.out.trans (HB2.out.mono HB.out.size)) _⟩
      case measure=>simp[intOf];omega
     |false=>
      go_big_quiet (fail)
      go_wp2_with fail
      have e9:mV R Nu Fi (a,b)=(x,false):=by rw[HM.out,xw.out];simp
      rw[e9];refine bodyPost_ret (v:= .tuple #[.int .u32 x,.bool false]) (by simp[results,Tryz.results106,go_sem]) rfl ⟨rfl,hxl,?_⟩;exact below_drewN (jk.out.trans (HB2.out.mono jk.out.size)) _
   ·have e9:mV R Nu Fi (a,b)=(acc,true):=by
     rw[HM.out,kP.out,List.drop_eq_nil_of_le (by omega)];rfl
    clear hB
    go_wp2_with fail
    rw[e9];refine bodyPost_ret (v:= .tuple #[.int .u32 acc,.bool true]) (by simp[results,Tryz.results106,go_sem]) rfl ⟨rfl,hacc,jk.out⟩
structure KY(s:aN):Prop where
 a:s.1<=1000
 b:s.2.1<=1000
 c:s.2.2<=1000
theorem aaS{w0 w:World}{d:eD}{v:bS}{G:Wy->Option Value}{ng:Nat}{st:LS}(h:aj w0 w d v G ng st){a b c m:Nat}(hs:KY (a,(b,c)))(hm:m<512)(hl:st.lk (a,(b,c))<512)(hc:st.c<=10000000)(he:st.lk (a,(b,c))|||m=st.lk (a,(b,c))):
 Calls Tryz.prog 82 #[.pointer (some ⟨d.ma,0,none⟩),.agg #[.int .i64 a,.int .i64 b,.int .i64 c],.int .u32 m] w fun r w'=>r= .returned (.tuple #[])/\aj w0 w' d v G ng st/\aF d v v w w':=by
 have h1:=h.alloc (.cells #[.int .i64 a,.int .i64 b,.int .i64 c] 145);have l1:=h1.drew.Gl (s:=(a,(b,c))) hs.a hs.b hs.c hc;have c8:=(h1.cell (i:=8) rfl (by omega)).1;unfold mX at l1;simp only at l1;obtain⟨q,hq⟩:∃q,st.lk (a,(b,c))=q:=⟨_,rfl⟩;rw[hq]at l1 he hl;have hor:=u32_or_nat q m (by omega) (by omega);rw[he]at hor;have HH:Hid (aj w0 w d v G ng st):=h;clear h h1 he hq
 go_enter Tryz.func82,Tryz.ntmps82
 go_wp2_with fail
 go_region
 all_goals
  go_wp2_with fail
  refine bodyPost_ret (v:= .tuple #[]) (results_none Tryz.results82 _ _ _) rfl ?_;have hb:Below w.heap.size w (w.alloc (.cells #[.int .i64 a,.int .i64 b,.int .i64 c] 145)).drew:=((Below.refl _ _).alloc (Nat.le_refl _) _).drew;exact⟨rfl,HH.out.below hb,aF.bP hb⟩
theorem aaT{w0 w:World}{d:eD}{v:bS}{G:Wy->Option Value}{ng:Nat}{st:LS}(h:aj w0 w d v G ng st){a b c m:Nat}(hs:KY (a,(b,c)))(hm:m<512)(hl:st.lk (a,(b,c))<512)(hc:st.c<=10000000)(hO:st.O.length<=10000000)(he:st.lk (a,(b,c))|||m≠st.lk (a,(b,c))):
 Calls Tryz.prog 82 #[.pointer (some ⟨d.ma,0,none⟩),.agg #[.int .i64 a,.int .i64 b,.int .i64 c],.int .u32 m] w fun r w'=>r= .returned (.tuple #[])/\∃aA,aj w0 w' d { v with ov:=aA } G ng ⟨fun s=>if s=(a,(b,c)) then st.lk (a,(b,c))|||m else st.lk s,st.O++[(a,(b,c))],st.c+1⟩/\aF d v { v with ov:=aA } w w':=by
 have h1:=h.alloc (.cells #[.int .i64 a,.int .i64 b,.int .i64 c] 145);have l1:=h1.drew.Gl (s:=(a,(b,c))) hs.a hs.b hs.c hc;have c8:=(h1.cell (i:=8) rfl (by omega)).1;unfold mX at l1;simp only at l1;obtain⟨q,hq⟩:∃q,st.lk (a,(b,c))=q:=⟨_,rfl⟩;rw[hq]at l1 he hl⊢;obtain⟨x,hx⟩:∃x,q|||m=x:=⟨_,rfl⟩;have hor:=u32_or_nat q m (by omega) (by omega);rw[hx]at hor he⊢;have e1:((x:Int)==(q:Int))=false:=by simp;omega
 have hx0:x≠0:=fun e=>by
  rw[e]at hx
  have:q=0:=by
   apply Nat.eq_of_testBit_eq;intro i;have h2:(q|||m).testBit i=false:=by rw[hx];simp
   rw[Nat.testBit_or]at h2;simp only[Bool.or_eq_false_iff]at h2;rw[h2.1];simp
  exact he (by rw[e,this])
 obtain⟨w3,u3,h3,g3,-⟩:=h1.drew.drew.aaJ (s:=(a,(b,c))) hs.a hs.b hs.c hx0;unfold mX at u3;simp only at u3;have hb:Below w.heap.size w (w.alloc (.cells #[.int .i64 a,.int .i64 b,.int .i64 c] 145)).drew.drew:=(((Below.refl _ _).alloc (Nat.le_refl _) _).drew).drew;have lb:¬mY d v w.heap.size:=fun hk=>by have:=(h.kc hk).2;omega
 have nS:w3.heap[w.heap.size]?=some (.cells #[.int .i64 a,.int .i64 b,.int .i64 c] 145):=by
  rw[(g3.far (b:=w.heap.size) (by simp) lb).1];exact heap_alloc_new _ _
 have Jz:w.heap.size+1<=w3.heap.size:=by have:=g3.kept.size;simpa using this
 have HG:Hid (aF d v v w w3):=(aF.bP hb).trans g3;have H3:Hid (aj w0 w3 d v G ng ⟨fun s=>if s=(a,(b,c)) then x else st.lk s,st.O,st.c+1⟩):=h3;have b0:w3.cell? ⟨w.heap.size,0,none⟩=some (.int .i64 a):=by simp[World.cell?,nS]
 have b1:w3.cell? ⟨w.heap.size,1,none⟩=some (.int .i64 b):=by simp[World.cell?,nS]
 have b2:w3.cell? ⟨w.heap.size,2,none⟩=some (.int .i64 c):=by simp[World.cell?,nS]
 clear h h1 h3 g3 hb nS hq hx he
 go_enter Tryz.func82,Tryz.ntmps82
 go_wp2_with fail
 go_region
 all_goals
  go_wp2_with fail
  clear l1
  go_region
  go_wp2_with fail
  clear u3 c8 hor e1;have h4:=H3.out.alloc (.cells #[.int .i64 a,.int .i64 b,.int .i64 c] 145);obtain⟨oa,oc,hov⟩:=h4.own.slice (i:= .op) rfl;have lG:v.ov= .slice oa st.O.length oc:=hov;have e9:=(H3.out.cell (i:=9) rfl (by omega)).1;have f9:=(h4.cell (i:=9) rfl (by omega)).1;rw[lG]at e9 f9
  have dz:((w3.alloc (.cells #[.int .i64 a,.int .i64 b,.int .i64 c] 145)).drew).ownsRow w0.heap.size 145 3 (.slice oa st.O.length oc) st.O.length (st.O.flatMap jY):=by
   have:=h4.own.own .op _ rfl;simp only[lG]at this;exact this
  have hma:d.ma<w3.heap.size:=H3.out.Az;have hne:some d.ma≠(Value.slice oa st.O.length oc).ownBlock:=fun e1=>h4.own.apart .ma .op _ _ (by simp) rfl rfl d.ma rfl (by show v.ov.ownBlock=_;rw[lG];exact e1.symm);have KZ:=(h4.cell (i:=9) rfl (by omega)).2;have hn1:st.O.length+1<=maxLen:=by unfold maxLen;omega
  have hn2:(st.O.length+1)*24<=140737488355328:=by omega
  have hB3:w0.heap.size<=w3.heap.size:=H3.out.le;have H4:Hid (aj w0 (w3.alloc (.cells #[.int .i64 a,.int .i64 b,.int .i64 c] 145)).drew d v G ng ⟨fun s=>if s=(a,(b,c)) then x else st.lk s,st.O,st.c+1⟩):=h4.drew;have HV:Hid (v.ov= .slice oa st.O.length oc):=lG;obtain⟨i0,hi0,hz0,hz1,hz2⟩:=info_parts Tryz.infoSpo;clear h4 hov lG H3
  go_region_law
   ((refine step_append_lies _ (by rfl) _ _ _ (by rfl) w0.heap.size 145 i0 _ 3 24 Tryz.underlying105 hi0 hz0 hz1 hz2 rfl (by omega) (.slice oa st.O.length oc) st.O.length (st.O.flatMap jY) (by rfl) dz
      ⟨w3.heap.size,0,none⟩ 1 1 [.int .i64 a,.int .i64 b,.int .i64 c] (by rfl) (by rfl) (World.news_of_block (cs:= #[.int .i64 a,.int .i64 b,.int .i64 c]) (t:=145) (fr:=(0,0)) (heap_alloc_new w3 _)) (by simp[Value.oneCell'])
      (by omega) hn1 hn2 (by simp;omega) (w3.heap.size+1) (by simp) ?_;intro g cap w5 hown5 hgrow hat hlt;have c9':=(hgrow.cell_far ⟨d.ma,9,none⟩ (by simp;omega) hne).trans f9;have f9':=(hgrow.frozen_far ⟨d.ma,9,none⟩ (by simp;omega) hne).trans KZ))
  all_goals
   go_wp2_with fail
   go_end0
   have hat':∀g',(Value.slice (some ⟨g,0,none⟩) (st.O.length+1) cap).ownBlock=some g'->v.ov.ownBlock=some g'\/g'=((w3.alloc (.cells #[.int .i64 a,.int .i64 b,.int .i64 c] 145)).drew).heap.size:=fun g' hg'=>by
    obtain rfl:g=g':=by simpa [Value.ownBlock] using hg'
    rw[HV.out];rcases hat with h5|h5
    ·exact .inl h5
    ·exact .inr (by simpa using h5)
   have r:=H4.out.Aj (O':=st.O++[(a,(b,c))]) (aA:= .slice (some ⟨g,0,none⟩) (st.O.length+1) cap) (by rw[HV.out];exact hgrow) (by simpa [List.flatMap_append,jY] using hown5) hat';exact⟨rfl,_,r.1,(HG.out.trans (aF.bP (((Below.refl _ _).alloc (Nat.le_refl _) _).drew))).trans r.2⟩
theorem K3{w0 w:World}{d:eD}{v:bS}{G:Wy->Option Value}{ng:Nat}{st:LS}(h:aj w0 w d v G ng st){a b c m:Nat}(hs:KY (a,(b,c)))(hm:m<512)(hl:st.lk (a,(b,c))<512)(hc:st.c<=10000000)(hO:st.O.length<=10000000):
 Calls Tryz.prog 82 #[.pointer (some ⟨d.ma,0,none⟩),.agg #[.int .i64 a,.int .i64 b,.int .i64 c],.int .u32 m] w fun r w'=>r= .returned (.tuple #[])/\∃aA,aj w0 w' d { v with ov:=aA } G ng (eY ((a,(b,c)),m) st)/\aF d v { v with ov:=aA } w w':=by
 unfold eY;split
 ·rename_i he
  exact(aaS h hs hm hl hc he).mono fun r w' ⟨h1,h2,h3⟩=>⟨h1,v.ov,h2,h3⟩
 ·rename_i he
  exact aaT h hs hm hl hc hO he
structure bT(w:World)(d:eD)(v:bS)(b:Nat)(cs:Array Value)(t:TypeId):Prop where
 here:w.heap[b]?=some (.cells cs t)
 no:¬mY d v b
 lt:b<w.heap.size
section
variable{d:eD}{v v':bS}{w0 w w':World}{G:Wy->Option Value}{ng:Nat}{st:LS}{b:Nat}{cs:Array Value}{t:TypeId}
theorem bT.goes(h:bT w d v b cs t)(g:aF d v v' w w'):bT w' d v' b cs t:=let ⟨a,b,c⟩:=g.far h.lt h.no;⟨a.trans h.here,b,c⟩
theorem bT.below(h:bT w d v b cs t)(hb:Below w.heap.size w w'):bT w' d v b cs t:=h.goes (aF.bP hb)
theorem bT.drew(h:bT w d v b cs t):bT w.drew d v b cs t:=h.below (Below.refl _ _).drew
theorem bT.alloc(h:bT w d v b cs t)(o:Obj):bT (w.alloc o) d v b cs t:=h.below ((Below.refl _ _).alloc (Nat.le_refl _) o)
theorem bT.cell(h:bT w d v b cs t){i:Nat}{x:Value}(hx:cs[i]?=some x):w.cell? ⟨b,i,none⟩=some x:=by simp[World.cell?,h.here,hx]
theorem aj.box(h:aj w0 w d v G ng st)(cs:Array Value)(t:TypeId):bT (w.alloc (.cells cs t)) d v w.heap.size cs t:=
 ⟨heap_alloc_new _ _,fun hk=>by have:=(h.kc hk).2;omega,by simp⟩
theorem RZ{base n size:Nat}{e:TypeId}{x:Value}{xs:List Value}(h:w.ownsRow base e size x n xs)(g:aF d v v' w w')(hn:∀k,x.ownBlock=some k->¬mY d v k):w'.ownsRow base e size x n xs:=
 Qe h fun k hk=>(g.far (h.lt k hk).2 (hn k hk)).1
end
theorem R3{g:aN×Nat}{st:LS}(hg:g.2<512)(h:∀s,st.lk s<512):∀s,(eY g st).lk s<512:=fun s=>by
 unfold eY;split
 ·exact h s
 ·simp only
  split
  ·exact Gr (h _) hg
  ·exact h s
theorem R4(g:aN×Nat)(st:LS):(eY g st).c<=st.c+1/\(eY g st).O.length<=st.O.length+1:=by
 unfold eY;split
 ·exact⟨Nat.le_succ _,Nat.le_succ _⟩
 ·simp
theorem aaU:∀(L:List (aN×Nat)) (st:LS),(∀g∈L,g.2<512)->(∀s,st.lk s<512)->(∀s,(lK L st).lk s<512)/\(lK L st).c<=st.c+L.length/\(lK L st).O.length<=st.O.length+L.length:=by
 intro L
 induction L with
 |nil=>intro st _ h;exact⟨h,Nat.le_refl _,Nat.le_refl _⟩
 |cons g L ih=>
  intro st hg h;obtain⟨a,b,c⟩:=ih (eY g st) (fun g' hg'=>hg g' (List.mem_cons_of_mem _ hg')) (R3 (hg g (by simp)) h);have:=R4 g st;refine⟨a,?_,?_⟩
  ·simp only[List.length_cons];exact Nat.le_trans b (by omega)
  ·simp only[List.length_cons];exact Nat.le_trans c (by omega)
theorem aaV{L:List (aN×Nat)}{st:LS}{j:Nat}(hj:j<L.length):lK (L.take (j+1)) st=eY L[j] (lK (L.take j) st):=by
 unfold lK;rw[List.take_succ_eq_append_getElem hj,List.foldl_append];rfl
structure Gs(T N:Nat)(R:List Ru)(OL:List (List It))(NL:List (List Int))(Ls:List aI)(st:LS)(k a b:Nat)(ng:Nat):Prop where
 Gt:jq T N R OL NL Ls
 Gv:gL OL (k,(a,b))
 lk:∀s,st.lk s<512
 few:OL.length<=150
 ng:ng<=10000000
 c:st.c+100<=10000000
 O:st.O.length+100<=10000000
theorem aaW{w0 w:World}{d:eD}{v:bS}{NL:List (List Int)}{Ls:List aI}{R:List Ru}{Nu:List Bool}{Fi:List (List Bool)}{ng:Nat}{st:LS}{k a b:Nat}(E:iT w0 d R Nu Fi)(h:aj w0 w d v (aS d.T NL) ng st)(p:Gs d.T d.N R v.OL NL Ls st k a b ng)(hn:(aH R a)[b]?=none):
 Calls Tryz.prog 84 #[.pointer (some ⟨d.ma,0,none⟩),.agg #[.int .i64 k,.int .i64 a,.int .i64 b]] w fun r w'=>r= .returned (.tuple #[])/\aj w0 w' d v (aS d.T NL) ng st/\aF d v v w w':=by
 have ok:=(p.Gt.item p.Gv).2;have hb:b=(aH R a).length:=by have:=List.getElem?_eq_none_iff.1 hn;have:=ok.2;simp only at this;omega
 have h1:=h.alloc (.cells #[.int .i64 k,.int .i64 a,.int .i64 b] 145);have nx:=Gp (h1.auto E) ok.1 hb;have HH:Hid (aj w0 w d v (aS d.T NL) ng st):=h;clear h h1 p E ok hb hn
 go_enter Tryz.func84,Tryz.ntmps84
 go_wp2_with
  (go_at_call 104;refine nx.mono ?_;rintro e w2 ⟨rfl,hB2⟩
   have HB:Hid (Below w.heap.size w w2):=((Below.refl _ _).alloc (Nat.le_refl _) _).trans (hB2.mono (by simp))
   clear hB2)
 refine bodyPost_ret (v:= .tuple #[]) (results_none Tryz.results84 _ _ _) rfl ?_;have hb:Below w.heap.size w (w2.alloc (.cells #[.bool false,.int .i64 0] 116)):=HB.out.alloc HB.out.size _;exact⟨rfl,HH.out.below hb,aF.bP hb⟩
theorem aaX{w0 w:World}{d:eD}{v:bS}{NL:List (List Int)}{Ls:List aI}{R:List Ru}{Nu:List Bool}{Fi:List (List Bool)}{ng:Nat}{st:LS}{k a b:Nat}{s:Sy}(E:iT w0 d R Nu Fi)(h:aj w0 w d v (aS d.T NL) ng st)(p:Gs d.T d.N R v.OL NL Ls st k a b ng)(hn:(aH R a)[b]?=some s):
 Calls Tryz.prog 84 #[.pointer (some ⟨d.ma,0,none⟩),.agg #[.int .i64 k,.int .i64 a,.int .i64 b]] w fun r w'=>r= .returned (.tuple #[])/\∃aA,aj w0 w' d { v with ov:=aA } (aS d.T NL) ng (nW d.T R NL Nu Fi (k,(a,b)) st)/\aF d v { v with ov:=aA } w w':=by
 have ok:=(p.Gt.item p.Gv).2;have K4:=E.yS a ok.1;have hR:=E.hR;have ha:a<=R.length:=ok.1;obtain⟨hbl,_⟩:=List.getElem?_eq_some_iff.1 hn;have hk:k<v.OL.length:=p.Gv.1;have vF:=p.few;obtain⟨K5,Gw⟩:=p.Gt.on p.Gv hn;simp only at K5 Gw;have hsy:=E.sym a ha s (List.mem_of_getElem? hn);obtain⟨R5,K6⟩:=KM hsy.1 hsy.2;have hgo:=(p.Gt.go k hk _ K6).1
 have hG:aS d.T NL (k,s)=some (.int .i64 (toN NL d.T k s)):=by
  have:=Ay (T:=d.T) (NL:=NL) (k:=k) (x:=(dX d.T s).toNat) (by rw[hgo];exact K6);rw[R5,K5,if_pos (Int.natCast_nonneg _)]at this;exact this
 obtain⟨z,hz⟩:∃z,toN NL d.T k s=z:=⟨_,rfl⟩;rw[hz]at hG Gw;have afM:z<v.OL.length:=Gw.1;have hT:=E.hT;have hN:=E.hN.2
 have hs2:0<=s.2/\s.2<=12:=by
  cases hc:s.1 with
  |true=>have:=hsy.1 hc;omega
  |false=>have:=hsy.2 hc;omega
 have h1:=h.alloc (.cells #[.int .i64 k,.int .i64 a,.int .i64 b] 145);have nx:=Gn (h1.auto E) ha hn;have R6:Hid (bT (w.alloc (.cells #[.int .i64 k,.int .i64 a,.int .i64 b] 145)) d v w.heap.size #[.int .i64 k,.int .i64 a,.int .i64 b] 145):=h.box _ _;have H1:Hid (aj w0 (w.alloc (.cells #[.int .i64 k,.int .i64 a,.int .i64 b] 145)) d v (aS d.T NL) ng st):=h1;have yU:Hid (aS d.T NL (k,s)=some (.int .i64 z)):=hG;obtain⟨q,hq⟩:∃q,st.lk (k,(a,b))=q:=⟨_,rfl⟩;have DR:q<512:=by rw[<-hq];exact p.lk _
 have xA:Hid (nW d.T R NL Nu Fi (k,(a,b)) st=lK (if s.1 then [] else (nV R s.2).map fun r=>((k,(r,0)),vz R Nu Fi (a,b) q)) (eY ((z,(a,b+1)),q) st)):=by
  show nW d.T R NL Nu Fi (k,(a,b)) st=_;unfold nW qD;simp only;rw[hn,hq];simp only;rw[hz];rfl
 have HQ:Hid (st.lk (k,(a,b))=q):=hq;have HP:Hid (Gs d.T d.N R v.OL NL Ls st k a b ng):=p;have HE:Hid (iT w0 d R Nu Fi):=E;have jH:Hid ((s.1=true->0<=s.2/\s.2<(d.T:Int))/\(s.1=false->0<=s.2/\s.2<(d.N:Int))):=hsy;clear h h1 p E ok hn K5 Gw R5 K6 hgo hG hz hq hsy;obtain⟨sb,sv⟩:=s;simp only at nx yU hs2 jH xA
 go_enter Tryz.func84,Tryz.ntmps84
 go_wp2_with
  (go_at_call 104;refine nx.mono ?_;rintro e w2 ⟨rfl,hB2⟩
   have iU:Hid (aj w0 w2 d v (aS d.T NL) ng st):=H1.out.below hB2;have jZ:Hid (bT w2 d v w.heap.size #[.int .i64 k,.int .i64 a,.int .i64 b] 145):=R6.out.below hB2;have HB2:Hid (Below w.heap.size w w2):=((Below.refl _ _).alloc (Nat.le_refl _) _).trans (hB2.mono (by simp))
   clear hB2 nx)
 obtain⟨W3,hW3⟩:∃W3,w2.alloc (.cells #[.bool sb,.int .i64 sv] 116)=W3:=⟨_,rfl⟩;have l5:Hid (aj w0 W3 d v (aS d.T NL) ng st):=by show aj _ _ _ _ _ _ _;rw[<-hW3];exact iU.out.alloc _
 have mZ:Hid (bT W3 d v w.heap.size #[.int .i64 k,.int .i64 a,.int .i64 b] 145):=by show bT _ _ _ _ _ _;rw[<-hW3];exact jZ.out.alloc _
 have AL:Hid (bT W3 d v w2.heap.size #[.bool sb,.int .i64 sv] 116):=by show bT _ _ _ _ _ _;rw[<-hW3];exact iU.out.box _ _
 have fH:Hid (aF d v v w W3):=by show aF _ _ _ _ _;rw[<-hW3];exact aF.bP (HB2.out.alloc HB2.out.size _)
 rw[hW3];clear hW3 H1 R6 iU jZ HB2;obtain⟨yb,hyb⟩:∃yb,w2.heap.size=yb:=⟨_,rfl⟩;rw[hyb]at AL⊢;clear hyb;have l3:=l5.out.drew.Gl (s:=(k,(a,b))) (by simp only;omega) (by simp only;omega) (by simp only;omega) (by have:=HP.out.c;omega);unfold mX at l3;simp only[HQ.out]at l3;have c8:=(l5.out.cell (i:=8) rfl (by omega)).1;have x0:=mZ.out.cell (i:=0) rfl;have x1:=mZ.out.cell (i:=1) rfl;have x2:=mZ.out.cell (i:=2) rfl
 go_cut [6] from 12 (fun s6 wx=>s6= .int .u32 q/\wx=W3.drew)
 case first=>
  go_region
  all_goals
   go_wp2_with fail
   go_meet
   case rel=>exact⟨rfl,rfl⟩
 case rest=>
  obtain⟨rfl,hwc⟩:=hcut;have AO:Hid (aj w0 wc d v (aS d.T NL) ng st):=by show aj _ _ _ _ _ _ _;rw[hwc];exact l5.out.drew
  have xB:Hid (bT wc d v w.heap.size #[.int .i64 k,.int .i64 a,.int .i64 b] 145):=by show bT _ _ _ _ _ _;rw[hwc];exact mZ.out.drew
  have Gy:Hid (bT wc d v yb #[.bool sb,.int .i64 sv] 116):=by show bT _ _ _ _ _ _;rw[hwc];exact AL.out.drew
  have R7:Hid (aF d v v w wc):=by show aF _ _ _ _ _;rw[hwc];exact fH.out.drew
  clear hwc l3 c8 x0 x1 x2 l5 mZ AL fH
  have keep:∀{wx:World} {v':bS} {st':LS},aj w0 wx d v' (aS d.T NL) ng st'->bT wx d v' w.heap.size #[.int .i64 k,.int .i64 a,.int .i64 b] 145->bT wx d v' yb #[.bool sb,.int .i64 sv] 116->
   wx.cell? ⟨d.ma,7,none⟩=some (.map (some d.mg))/\wx.cell? ⟨w.heap.size,0,none⟩=some (.int .i64 k)/\wx.cell? ⟨w.heap.size,1,none⟩=some (.int .i64 a)/\wx.cell? ⟨w.heap.size,2,none⟩=some (.int .i64 b)/\wx.cell? ⟨yb,0,none⟩=some (.bool sb)/\wx.cell? ⟨yb,1,none⟩=some (.int .i64 sv)/\
    Sem.run Tryz.prog (Instr.lookup 102 (.map (some d.mg)) (.agg #[.int .i64 k,.bool sb,.int .i64 sv]) false) wx= .ok (.int .i64 z) wx:=fun {wx v' st'} hM hX hY=>by
   refine⟨(hM.cell (i:=7) rfl (by omega)).1,hX.cell rfl,hX.cell rfl,hX.cell rfl,hY.cell rfl,hY.cell rfl,?_⟩;have:=hM.RP (p:=(k,(sb,sv))) (by simp only;omega) hs2.1 (by simp only;omega) HP.out.ng false;unfold o7 at this;simp only[yU.out]at this;exact this
  have oh:Hid (∀{wx:World} {v':bS} {st':LS},aj w0 wx d v' (aS d.T NL) ng st'->bT wx d v' w.heap.size #[.int .i64 k,.int .i64 a,.int .i64 b] 145->bT wx d v' yb #[.bool sb,.int .i64 sv] 116->
   wx.cell? ⟨d.ma,7,none⟩=some (.map (some d.mg))/\wx.cell? ⟨w.heap.size,0,none⟩=some (.int .i64 k)/\wx.cell? ⟨w.heap.size,1,none⟩=some (.int .i64 a)/\wx.cell? ⟨w.heap.size,2,none⟩=some (.int .i64 b)/\wx.cell? ⟨yb,0,none⟩=some (.bool sb)/\wx.cell? ⟨yb,1,none⟩=some (.int .i64 sv)/\
    Sem.run Tryz.prog (Instr.lookup 102 (.map (some d.mg)) (.agg #[.int .i64 k,.bool sb,.int .i64 sv]) false) wx= .ok (.int .i64 z) wx):=keep
  clear keep;obtain⟨k0,k1,k2,k3,k4,k5,k6⟩:=oh.out AO.out.drew xB.out.drew Gy.out.drew;have sQ:b<=1000:=by omega
  have Gz:=fun W=>RS (w:=W) (a:=a) (b:=b) sQ
  go_wp2_with fail
  go_cut [] from 12 (fun wx=> ∃aA,aj w0 wx d { v with ov:=aA } (aS d.T NL) ng (eY ((z,(a,b+1)),q) st)/\aF d v { v with ov:=aA } wc wx)
  case first=>
   go_region_held3 (fun wx=>wx.cell? ⟨d.ma,7,none⟩=some (.map (some d.mg))/\wx.cell? ⟨w.heap.size,0,none⟩=some (.int .i64 k)/\wx.cell? ⟨w.heap.size,1,none⟩=some (.int .i64 a)/\wx.cell? ⟨w.heap.size,2,none⟩=some (.int .i64 b)/\wx.cell? ⟨yb,0,none⟩=some (.bool sb)/\wx.cell? ⟨yb,1,none⟩=some (.int .i64 sv)/\
    Sem.run Tryz.prog (Instr.lookup 102 (.map (some d.mg)) (.agg #[.int .i64 k,.bool sb,.int .i64 sv]) false) wx= .ok (.int .i64 z) wx) (first|assumption|exact⟨k0,k1,k2,k3,k4,k5,k6⟩|go_keep)
    (first
     |(go_at_call 105;refine(Gz _).mono ?_;rintro e w5 ⟨rfl,ak⟩
       have AP:Hid (aj w0 w5 d v (aS d.T NL) ng st):=AO.out.drew.below ak;have R8:Hid (bT w5 d v w.heap.size #[.int .i64 k,.int .i64 a,.int .i64 b] 145):=xB.out.drew.below ak;have R9:Hid (bT w5 d v yb #[.bool sb,.int .i64 sv] 116):=Gy.out.drew.below ak;have ve:Hid (aF d v v wc w5):=(aF.refl _ _ _).drew.trans (aF.bP ak);have hS5:=oh.out AP.out R8.out R9.out;have xC:=K3 AP.out (a:=z) (b:=a) (c:=b+1) (m:=q) ⟨by simp only;omega,by simp only;omega,by simp only;omega⟩ DR (HP.out.lk _) (by have:=HP.out.c;omega) (by have:=HP.out.O;omega);rw[show ((b+1:Nat):Int)=(b:Int)+1 from rfl]at xC
       clear ak)
     |(go_at_call 82;refine xC.mono ?_;rintro e w6 ⟨rfl,aA,jv,o9⟩
       have hS6:=oh.out jv (R8.out.goes o9) (R9.out.goes o9);have mJ:Hid (aj w0 w6 d { v with ov:=aA } (aS d.T NL) ng (eY ((z,(a,b+1)),q) st)/\aF d v { v with ov:=aA } wc w6):=⟨jv,ve.out.trans o9⟩
       clear jv o9))
   all_goals
    go_wp2_with fail
    go_meet
    case rel=>exact⟨aA,mJ.out.1,mJ.out.2⟩
  case rest=>
   obtain⟨iB,hM,hG⟩:=hcut;have AQ:=xB.out.goes hG;have hYd:=Gy.out.goes hG;obtain⟨v1,hv1⟩:∃v1,({ v with ov:=iB }:bS)=v1:=⟨_,rfl⟩;obtain⟨st1,jI⟩:∃st1,eY ((z,(a,b+1)),q) st=st1:=⟨_,rfl⟩;have uY:Hid (({ v with ov:=iB }:bS)=v1):=hv1;have Sb:∀s,st1.lk s<512:=by rw[<-jI];exact R3 DR HP.out.lk
   have hc1:st1.c<=st.c+1/\st1.O.length<=st.O.length+1:=by rw[<-jI];exact R4 _ _
   rw[jI]at hM xA;rw[hv1]at hM hG AQ hYd;have GA:Hid (aj w0 wc d v1 (aS d.T NL) ng st1):=hM;have HXd:Hid (bT wc d v1 w.heap.size #[.int .i64 k,.int .i64 a,.int .i64 b] 145):=AQ;have HYd:Hid (bT wc d v1 yb #[.bool sb,.int .i64 sv] 116):=hYd;have Sc:Hid (aF d v v1 w wc):=R7.out.trans hG;have aaY:Hid (∀s,st1.lk s<512):=Sb;have y0:=hYd.cell (i:=0) rfl;have y1:=hYd.cell (i:=1) rfl;have x0:=AQ.cell (i:=0) rfl;have x1:=AQ.cell (i:=1) rfl;have x2:=AQ.cell (i:=2) rfl;have hcc:st1.c+90<=10000000/\st1.O.length+90<=10000000:=by have:=HP.out.c;have:=HP.out.O;omega
   clear hM hG AQ hYd hv1 jI AO xB Gy R7 k0 k1 k2 k3 k4 k5 k6 Gz oh Sb hc1;cases sb with
   |true=>
    simp only[if_true]at xA
    go_wp2_with fail
    refine bodyPost_ret (v:= .tuple #[]) (results_none Tryz.results84 _ _ _) rfl ?_;refine⟨rfl,iB,?_,?_⟩
    ·rw[xA.out,uY.out];exact GA.out
    ·rw[uY.out];exact Sc.out
   |false=>
    simp only[Bool.false_eq_true,if_false]at xA;have GD:=aaR (GA.out.auto HE.out) (GA.out.knows HE.out) (a:=a) (b:=b) ha hbl K4 (HE.out.sym a ha);obtain⟨x,hx⟩:∃x,vz R Nu Fi (a,b) q=x:=⟨_,rfl⟩;rw[hx]at xA;unfold vz at hx;obtain⟨bm,Da⟩:∃bm,mV R Nu Fi (a,b)=bm:=⟨_,rfl⟩;rw[Da]at GD hx;obtain⟨f,nl⟩:=bm;simp only at GD hx;obtain⟨L,hL⟩:∃L,((nV R sv).map fun r=>(((k,(r,0)):aN),x))=L:=⟨_,rfl⟩;rw[hL]at xA;obtain⟨RI,tN⟩:∃RI,dF R sv R.length=RI:=⟨_,rfl⟩;have DN:L.length=RI.length:=by rw[<-hL,<-tN];simp[dF,nV]
    have Ao:Hid (∀j (hj:j<L.length),L[j]=((k,(RI.getD j (0,0))),x)/\(RI.getD j (0,0)).1<1000/\(RI.getD j (0,0)).2=0):=fun j hj=>by
     subst hL;subst tN;have hj':j<(nV R sv).length:=by simpa using hj
     have e1:(dF R sv R.length).getD j (0,0)=((nV R sv)[j],0):=by
      unfold dF nV;unfold nV at hj';rw[List.getD,List.getElem?_map,List.getElem?_eq_getElem hj'];rfl
     rw[e1];have hmem:(nV R sv)[j]∈nV R sv:=List.getElem_mem hj';have hlt:(nV R sv)[j]<R.length:=List.mem_range.1 (List.mem_filter.1 (show (nV R sv)[j]∈(List.range R.length).filter _ from hmem)).1;exact⟨by simp,by simp only;omega,rfl⟩
    have aaZ:RI.length<=40:=by rw[<-tN];exact Nat.le_trans (KU _ _ _) hR
    have GH:Hid (dF R sv R.length=RI):=tN;clear hL tN Da;have HLen:Hid (L.length=RI.length):=DN;clear DN
    cases nl<;>
     (simp only[if_true,Bool.false_eq_true,if_false]at hx
      go_wp2_with
       (first
        |(go_at_call 106;refine GD.mono ?_;rintro e w7 ⟨rfl,AJ,fJ⟩
          have hor:=u32_or_nat f q (by omega) (by omega);have hx5:x<512:=by rw[<-hx];first|exact Gr AJ DR|exact AJ
          try rw[hx]at hor
          have K7:Hid (aj w0 w7 d v1 (aS d.T NL) ng st1):=GA.out.below fJ;have HX7:Hid (bT w7 d v1 w.heap.size #[.int .i64 k,.int .i64 a,.int .i64 b] 145):=HXd.out.below fJ;have HG7:Hid (aF d v v1 w w7):=Sc.out.trans (aF.bP fJ);have y7:=(HYd.out.below fJ).cell (i:=1) rfl;have rD:=KV (m:=sv) (K7.out.auto HE.out) hR;rw[GH.out]at rD
          clear fJ GD)
        |(go_at_call 107;refine rD.mono ?_;rintro e w8 ⟨rv8,rfl,hrow,mq,-⟩
          obtain⟨ra,rc,aG⟩:=bK hrow;subst aG;have K8:Hid (aj w0 w8 d v1 (aS d.T NL) ng st1):=K7.out.below mq;have HX8:Hid (bT w8 d v1 w.heap.size #[.int .i64 k,.int .i64 a,.int .i64 b] 145):=HX7.out.below mq;have HG8:Hid (aF d v v1 w w8):=HG7.out.trans (aF.bP mq);have nI:Hid (w8.ownsRow w7.heap.size 138 2 (.slice ra RI.length rc) RI.length (RI.flatMap aT)):=hrow
          have HF8:Hid (∀g,(Value.slice ra RI.length rc).ownBlock=some g->¬mY d v1 g):=fun g hg hk=>by
           have:=(hrow.lt g hg).1;have:=(K7.out.kc hk).2;omega
          clear hrow mq rD y7))
      have Sd:=hx5;clear hx hx5
      go_loopw [60] (fun s60 wr=> ∃(j:Nat) (tJ:Value),s60= .int .i64 j/\j<=RI.length/\aj w0 wr d { v1 with ov:=tJ } (aS d.T NL) ng (lK (L.take j) st1)/\aF d v1 { v1 with ov:=tJ } w8 wr) (fun s _=>RI.length-(intOf s).toNat)
      case atStart=>exact⟨0,v1.ov,rfl,Nat.zero_le _,K8.out,aF.refl _ _ _⟩
      case round=>
       obtain⟨j,tJ,rfl,hj,hM,hG⟩:=hrel;have pq:Hid (aF d v1 { v1 with ov:=tJ } w8 wr):=hG;by_cases hlt:j<RI.length
       ·have hrow:=RZ nI.out hG HF8.out
        obtain⟨g,o,c,rE,_,q0,q1⟩:=(AA hrow rfl).2 j hlt;cases rE;rw[<-Nat.add_assoc]at q1;have Sg:j<L.length:=by rw[HLen.out];exact hlt
        obtain⟨e1,e2,e3⟩:=Ao.out j Sg;have hst:=aaV (st:=st1) Sg;rw[e1]at hst;obtain⟨⟨r,y⟩,Si⟩:∃x,RI.getD j (0,0)=x:=⟨_,rfl⟩;rw[Si]at q0 q1 hst e2 e3;simp only at q0 q1 hst e2 e3;subst e3;have HST:Hid (lK (L.take (j+1)) st1=eY ((k,(r,0)),x) (lK (L.take j) st1)):=hst
        have hga:=aaU (L.take j) st1 (fun g' hg'=>by
         obtain⟨i,hi,rfl⟩:=List.getElem_of_mem hg';have hi':i<L.length:=by rw[List.length_take]at hi;omega
         rw[List.getElem_take,(Ao.out i hi').1]
         exact Sd) aaY.out
        have hjl:(L.take j).length<=40:=by rw[List.length_take];omega
        have hX:=HX8.out.goes hG;have x0:=(hX.alloc (.cells #[.int .i64 r,.int .i64 0] 138)).cell (i:=0) rfl;have xC:=K3 (hM.alloc (.cells #[.int .i64 r,.int .i64 0] 138)) (a:=k) (b:=r) (c:=0) (m:=x) ⟨by simp only;omega,by simp only;omega,by simp only;omega⟩ Sd (hga.1 _) (by have:=hga.2.1;omega) (by have:=hga.2.2;omega);have i0:(0:Int)<=(j:Int):=Int.natCast_nonneg _;have i1:(j:Int)<(RI.length:Int):=by omega
        clear hM hG hrow e1 hst Si hga hX hjl
        go_wp2_with (go_at_call 82;refine xC.mono ?_;rintro e w9 ⟨rfl,ov3,vG,hG9⟩)
        go_roundw
        case rel=>exact⟨j+1,ov3,by go_num,by omega,by rw[HST.out];exact vG,(pq.out.alloc _).trans hG9⟩
        case measure=>simp[intOf];omega
       ·obtain rfl:j=RI.length:=by omega
        rw[<-HLen.out,List.take_length]at hM;have K9:Hid (aj w0 wr d { v1 with ov:=tJ } (aS d.T NL) ng (lK L st1)):=hM;clear hM hG
        go_wp2_with fail
        go_end0
        have hV:=uY.out;refine⟨rfl,tJ,?_,?_⟩
        ·rw[xA.out]
         have:=K9.out;rw[<-hV]at this;exact this
        ·have:=HG8.out.trans pq.out
         rw[<-hV]at this
         exact this)
end Go.Proofs.YtblkkhfdeaaidaaGreatDoor
