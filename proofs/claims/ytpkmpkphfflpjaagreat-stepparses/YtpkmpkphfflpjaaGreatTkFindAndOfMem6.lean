import Derived.Test.YtpkmpkphfflpjaaGreatTkClosedAndTkStates
import Derived.Test.YtpkmpkphfflpjaaGreatTrDoAndLooksMath
import Derived.Test.YtpkmpkphfflpjaaGreatMathAndHeldSeq
import Derived.StillTailTactics
import Derived.Test.YtpkmpkphfflpjaaGreatTab6AndRowI
set_option maxHeartbeats 6400000
set_option maxRecDepth 100000
namespace Go.Proofs.YtpkmpkphfflpjaaGreat
open Go.RowKit
def qI(s:Sy):List Value:=[.bool s.1,.int .i64 s.2]
theorem adk{L:List Sy}{i k:Nat}(hi:i<L.length)(hk:k<2):(L.flatMap qI)[i*2+k]?=(qI (L.getD i (false,0)))[k]?:=by
 induction L generalizing i with
 |nil=>simp at hi
 |cons a L ih=>
  rw[List.flatMap_cons];have hl:(qI a).length=2:=rfl;cases i with
  |zero=>rw[List.getElem?_append_left (by omega)];simp
  |succ i=>
   rw[List.getElem?_append_right (by omega),hl,show (i+1)*2+k-2=i*2+k by omega];rw[ih (by simpa using hi)];simp[List.getD]
def kJ(T n:Nat):List Sy:=(List.range n).map (dD T)
theorem Vg(T n:Nat):kJ T (n+1)=kJ T n++[dD T n]:=by unfold kJ;rw[List.range_succ,List.map_append];rfl
theorem adl(T n:Nat):(kJ T n).length=n:=by simp[kJ]
theorem adm{T n x:Nat}(h:x<n):(kJ T n).getD x (false,0)=dD T x:=by simp[kJ,List.getD,h]
theorem adn{w:World}{lim ab T N:Nat}{rv:Value}{R:List Ru}(hA:iE w lim ab T N rv R)(hT:T<=8)(hN:N<=12):
 Calls Tryz.prog 57 #[.pointer (some ⟨ab,0,none⟩)] w fun e w'=> ∃ov,e= .returned ov/\w'.ownsRow w.heap.size 104 2 ov (T+N) ((kJ T (T+N)).flatMap qI)/\Below w.heap.size w w':=by
 have HA:Hid (iE w lim ab T N rv R):=hA;have a0:=hA.t;obtain⟨i5,hi0,hz0,hz1,hz2⟩:=info_parts Tryz.infoSy;have HI:Hid (Tryz.prog.info? 104=some i5/\i5.zero=some (.agg #[.bool false,.int .i64 0])/\i5.size=2/\i5.bytes=16):=⟨hi0,hz0,hz1,hz2⟩;clear hA hi0 hz0 hz1 hz2
 go_enter Tryz.func57,Tryz.ntmps57
 go_wp2_with fail
 clear a0
 go_loopw [3,11] (fun s3 s11 wr=> ∃(k:Nat) (ov:Value),ov=s3/\s11= .int .i64 k/\k<=T/\wr.ownsRow w.heap.size 104 2 ov k ((kJ T k).flatMap qI)/\Below w.heap.size w wr) (fun _ s _=>T-(intOf s).toNat)
 case atStart=>exact⟨0,_,rfl,rfl,Nat.zero_le _,World.ownsRow_nil w w.heap.size 104 2,Below.refl _ _⟩
 case round=>
  obtain⟨k,ov,rfl,rfl,hk,hO,hB⟩:=hrel;have HB:Hid (Below w.heap.size w wr):=hB;have HO:Hid (wr.ownsRow w.heap.size 104 2 ov k ((kJ T k).flatMap qI)):=hO;by_cases hlt:k<T
  ·have bX:=hO.alloc (.cells #[.bool true,.int .i64 k] 104)
   have jq:=World.news_of_block (cs:= #[.bool true,.int .i64 k]) (t:=104) (fr:=(0,0)) (heap_alloc_new wr (.cells #[.bool true,.int .i64 k] 104));have hs1:w.heap.size<=wr.heap.size:=hB.size;have n1:k+1<=maxLen:=by unfold maxLen;omega
   have n2:(k+1)*16<=140737488355328:=by omega
   obtain⟨hi0,hz0,hz1,hz2⟩:=HI.out;have HS:Hid (kJ T (k+1)=kJ T k++[(true,(k:Int))]):=by show kJ T (k+1)=_;rw[Vg];simp[dD,hlt]
   clear hB hO
   go_wp2_with
    (at_builtin
     (refine wpList_append_lies _ rfl _ _ _ rfl w.heap.size 104 i5 _ 2 16 Tryz.underlying77 hi0 hz0 hz1 hz2 rfl (by omega) ov k ((kJ T k).flatMap qI) rfl bX ⟨wr.heap.size,0,none⟩ 1 1 [.bool true,.int .i64 k] rfl rfl jq (by simp[Value.oneCell']) (by omega) n1 n2 (by simp;omega) (wr.heap.size+1) (by simp) ?_)
     intro g6 cap6 w6 hown6 fF o6 uq)
   go_roundw
   case rel=>
    have aK:Below w.heap.size w w6:=(HB.out.alloc (by omega) _).grown fF (by simp;omega) (fun j hj=>(HO.out.lt j hj).1);refine⟨k+1,_,rfl,by go_num,by omega,?_,aK⟩;rw[HS.out,List.flatMap_append];exact hown6
   case measure=>simp[intOf];omega
  ·obtain rfl:k=T:=by omega
   have a1:=(HA.out.later hB).n;clear hB hO
   go_wp2_with fail
   clear a1
   go_loopw [3,25] (fun s3 s25 wq=> ∃(j:Nat) (ov:Value),ov=s3/\s25= .int .i64 j/\j<=N/\wq.ownsRow w.heap.size 104 2 ov (k+j) ((kJ k (k+j)).flatMap qI)/\Below w.heap.size w wq) (fun _ s _=>N-(intOf s).toNat)
   case atStart=>exact⟨0,ov,rfl,rfl,Nat.zero_le _,HO.out,HB.out⟩
   case round=>
    clear HB HO;obtain⟨j,ov,rfl,rfl,hj,hO,hB⟩:=hrel;have HB:Hid (Below w.heap.size w wr):=hB;have HO:Hid (wr.ownsRow w.heap.size 104 2 ov (k+j) ((kJ k (k+j)).flatMap qI)):=hO;by_cases hjl:j<N
    ·have bX:=hO.alloc (.cells #[.bool false,.int .i64 j] 104)
     have jq:=World.news_of_block (cs:= #[.bool false,.int .i64 j]) (t:=104) (fr:=(0,0)) (heap_alloc_new wr (.cells #[.bool false,.int .i64 j] 104));have hs1:w.heap.size<=wr.heap.size:=hB.size;have n1:k+j+1<=maxLen:=by unfold maxLen;omega
     have n2:(k+j+1)*16<=140737488355328:=by omega
     obtain⟨hi0,hz0,hz1,hz2⟩:=HI.out
     have HS:Hid (kJ k (k+(j+1))=kJ k (k+j)++[(false,(j:Int))]):=by
      show kJ k (k+(j+1))=_;rw[<-Nat.add_assoc,Vg];have:dD k (k+j)=(false,(j:Int)):=by simp[dD]
      rw[this]
     clear hB hO
     go_wp2_with
      (at_builtin
       (refine wpList_append_lies _ rfl _ _ _ rfl w.heap.size 104 i5 _ 2 16 Tryz.underlying77 hi0 hz0 hz1 hz2 rfl (by omega) ov (k+j) ((kJ k (k+j)).flatMap qI) rfl bX ⟨wr.heap.size,0,none⟩ 1 1 [.bool false,.int .i64 j] rfl rfl jq (by simp[Value.oneCell']) (by omega) n1 n2 (by simp;omega) (wr.heap.size+1) (by simp) ?_)
       intro g6 cap6 w6 hown6 fF o6 uq)
     go_roundw
     case rel=>
      have aK:Below w.heap.size w w6:=(HB.out.alloc (by omega) _).grown fF (by simp;omega) (fun j hj=>(HO.out.lt j hj).1);refine⟨j+1,_,rfl,by go_num,by omega,?_,aK⟩;rw[HS.out,List.flatMap_append];exact hown6
     case measure=>simp[intOf];omega
    ·obtain rfl:j=N:=by omega
     clear hB hO
     go_wp2_with fail
     go_ret;exact⟨ov,rfl,HO.out,HB.out⟩
theorem ado{w0 w:World}{d:fD}{v:dF}{G:Wy->Option Value}{ng:Nat}{st:LS}{R:List Ru}{Nu:List Bool}{Fi:List (List Bool)}{Ls:List aX}{k x:Nat}(E:jQ w0 d R Nu Fi)(h:aA w0 w d v G ng st)(hS:jO R v.OL Ls)(hk:k<v.OL.length):
 Calls Tryz.prog 58 #[.pointer (some ⟨d.ma,0,none⟩),.int .i64 k,.agg #[.bool (dD d.T x).1,.int .i64 (dD d.T x).2]] w fun e w'=> ∃ov,e= .returned ov/\w'.ownsRow w.heap.size 130 2 ov (dM d.T R (v.OL.getD k []) x (v.OL.getD k []).length).length ((dM d.T R (v.OL.getD k []) x (v.OL.getD k []).length).flatMap bJ)/\Below w.heap.size w w':=by
 have hlen:(v.OL.getD k []).length<=369:=by
  have:=I6 E.zG (hS.iZ k hk).ny (hS.ok k hk);have:=E.hR;omega
 have lM:Hid (∀t∈v.OL.getD k [],lX R t):=hS.ok k hk;have HE:Hid (jQ w0 d R Nu Fi):=E;obtain⟨g,c,hsv,_,q0⟩:=h.state hk;have hit:=h.items hk;have c6:=(h.cell (i:=6) rfl (by omega)).1;rw[hsv]at c6;obtain⟨ia,ic,hiv⟩:=hit.1;rw[hiv]at q0 hit;have wY:=(((Below.refl _ w).alloc (Nat.le_refl _) (.cells #[.bool (dD d.T x).1,.int .i64 (dD d.T x).2] 104)).cell (p:=⟨d.ma,6,none⟩) h.BL).trans c6;have zN:=(((Below.refl _ w).alloc (Nat.le_refl _) (.cells #[.bool (dD d.T x).1,.int .i64 (dD d.T x).2] 104)).cell (p:=⟨g,k,none⟩) (World.block_lt_of_cell? _ _ q0)).trans q0;obtain⟨O,hO⟩:∃O,v.OL.getD k []=O:=⟨_,rfl⟩;rw[hO]at zN hit hlen lM⊢;obtain⟨y,hy⟩:∃y,dD d.T x=y:=⟨_,rfl⟩;have HNx:Hid (∀a b,a<=R.length->(jN d.T R (a,b) x↔(aJ R a)[b]?=some y)):=fun a b ha=>by rw[<-hy];exact ab1 (N:=d.N) (i:=(a,b)) (E.sym a ha)
 rw[hy]at wY zN⊢;have HA:Hid (iE (w.alloc (.cells #[.bool y.1,.int .i64 y.2] 104)) w0.heap.size d.ma d.T d.N d.rv R):=(h.auto E).boxed _;have N7:Hid (jB (w.alloc (.cells #[.bool y.1,.int .i64 y.2] 104)) w.heap.size (.slice ia O.length ic) O):=hit.below ((Below.refl _ _).alloc (Nat.le_refl _) _);have i0:(0:Int)<=(k:Int):=Int.natCast_nonneg _;have i1:(k:Int)<(v.OL.length:Int):=by omega
 obtain⟨yb,yv⟩:=y;simp only at wY zN HA N7⊢;clear E h hS hsv hit hiv c6 q0 hO hy;obtain⟨W1,hW1⟩:∃W1,w.alloc (.cells #[.bool yb,.int .i64 yv] 104)=W1:=⟨_,rfl⟩;have y0:W1.cell? ⟨w.heap.size,0,none⟩=some (.bool yb):=by rw[<-hW1];simp[go_sem]
 have y1:W1.cell? ⟨w.heap.size,1,none⟩=some (.int .i64 yv):=by rw[<-hW1];simp[go_sem]
 have HB1:Hid (Below w.heap.size w W1):=by show Below _ _ _;rw[<-hW1];exact(Below.refl _ _).alloc (Nat.le_refl _) _
 have hsz1:w.heap.size<W1.heap.size:=by rw[<-hW1];simp
 rw[hW1]at wY zN HA N7;obtain⟨i5,hi0,hz0,hz1,hz2⟩:=info_parts Tryz.infoIt;have HI5:Hid (Tryz.prog.info? 130=some i5/\i5.zero=some (.agg #[.int .i64 0,.int .i64 0])/\i5.size=2/\i5.bytes=16):=⟨hi0,hz0,hz1,hz2⟩;clear hi0 hz0 hz1 hz2
 go_enter Tryz.func58,Tryz.ntmps58
 go_wp2_with fail
 clear hW1 wY zN
 go_loopw [7,20] (fun s7 s20 wr=> ∃(j:Nat) (ov:Value),ov=s7/\s20= .int .i64 j/\j<=O.length/\wr.ownsRow W1.heap.size 130 2 ov (dM d.T R O x j).length ((dM d.T R O x j).flatMap bJ)/\Below W1.heap.size W1 wr) (fun _ s _=>O.length-(intOf s).toNat)
 case atStart=>exact⟨0,_,rfl,rfl,Nat.zero_le _,World.ownsRow_nil W1 W1.heap.size 130 2,Below.refl _ _⟩
 case round=>
  obtain⟨j,ov,rfl,rfl,hj,hO,hB⟩:=hrel;have HB:Hid (Below W1.heap.size W1 wr):=hB;have iK:Hid (Below w.heap.size w wr):=HB1.out.trans (hB.mono (by omega));have HO:Hid (wr.ownsRow W1.heap.size 130 2 ov (dM d.T R O x j).length ((dM d.T R O x j).flatMap bJ)):=hO;by_cases hlt:j<O.length
  ·obtain⟨b',o',c',tJ,_,q0,q1⟩:=(N7.out.below (hB.mono (by omega))).2 j hlt
   cases tJ;rw[<-Nat.add_assoc]at q1;obtain⟨⟨a,b⟩,hab⟩:∃z,O.getD j (0,0)=z:=⟨_,rfl⟩;rw[hab]at q0 q1;simp only at q0 q1;have hmem:(a,b)∈O:=by rw[<-hab];simp[List.getD,hlt]
   have ok:=lM.out _ hmem;have ha:a<=R.length:=ok.1;have hbl:b<=(aJ R a).length:=ok.2;have NN:=HE.out.zG a ha;have i2:(0:Int)<=(j:Int):=Int.natCast_nonneg _;have i3:(j:Int)<(O.length:Int):=by omega
   have hAr:=(HA.out.later hB).boxed (.cells #[.int .i64 a,.int .i64 b] 130);have hkl:=TG (T:=d.T) (R:=R) (x:=x) (O:=O) (j:=j);have Cc:=HNx.out a b ha;have z0:=(hB.cell (p:=⟨w.heap.size,0,none⟩) hsz1).trans y0;have z1:=(hB.cell (p:=⟨w.heap.size,1,none⟩) hsz1).trans y1;have Cf:w.heap.size<wr.heap.size:=Nat.lt_of_lt_of_le hsz1 hB.size;cases hnx:(aJ R a)[b]? with
   |none=>
    have nx:=Ji (a:=a) (b:=b) hAr ha (by have:=List.getElem?_eq_none_iff.1 hnx;omega);have HK:Hid (dM d.T R O x (j+1)=dM d.T R O x j):=TH hlt hab (by rw[Cc,hnx];exact fun e=>by cases e);clear hB hO hab hmem ok hAr Cc hnx
    go_wp2_with
     (go_at_call 77;refine nx.mono ?_;rintro e w2 ⟨rfl,hB2⟩
      have HB2:Hid (Below wr.heap.size wr w2):=((Below.refl _ _).alloc (Nat.le_refl _) _).trans (hB2.mono (by simp))
      clear hB2)
    go_roundw
    case rel=>
     have hb:=HB2.out.alloc HB2.out.size (.cells #[.bool false,.int .i64 0] 104);exact⟨j+1,ov,rfl,by go_num,by omega,by rw[HK.out];exact own_below HO.out hb (fun k hk=>(HO.out.lt k hk).2),HB.out.trans (hb.mono HB.out.size)⟩
    case measure=>simp[intOf];omega
   |some s=>
    have nx:=Jh hAr ha hnx;obtain⟨sb,sv⟩:=s;simp only at nx;by_cases hse:(sb,sv)=(yb,yv)
    ·cases hse
     have HK:Hid (dM d.T R O x (j+1)=dM d.T R O x j++[(a,b+1)]):=abN hlt hab (by rw[Cc,hnx]);have Jr:=fun W=>Ux (w:=W) (a:=a) (b:=b) (by omega);obtain⟨p,hp⟩:∃p,(dM d.T R O x j).length=p:=⟨_,rfl⟩;rw[hp]at hkl HO;have HP:Hid ((dM d.T R O x j).length=p):=hp;have n1:p+1<=maxLen:=by unfold maxLen;omega
     have n2:(p+1)*16<=140737488355328:=by omega
     obtain⟨hi0,hz0,hz1,hz2⟩:=HI5.out;clear hB hO hab hmem ok hAr Cc hnx hp
     cases yb<;>
      (go_wp2_with
        (first
         |(go_at_call 77;refine nx.mono ?_;rintro e w2 ⟨rfl,hB2⟩
           have x0:w2.cell? ⟨wr.heap.size,0,none⟩=some (.int .i64 a):=(hB2.cell (by simp)).trans (by simp[go_sem]);have x1:w2.cell? ⟨wr.heap.size,1,none⟩=some (.int .i64 b):=(hB2.cell (by simp)).trans (by simp[go_sem]);have HB2:Hid (Below wr.heap.size wr w2):=((Below.refl _ _).alloc (Nat.le_refl _) _).trans (hB2.mono (by simp));have v0:=(HB2.out.cell (p:=⟨w.heap.size,0,none⟩) Cf).trans z0;have v1:=(HB2.out.cell (p:=⟨w.heap.size,1,none⟩) Cf).trans z1;have s2:wr.heap.size<w2.heap.size:=by have:=hB2.size;simp at this;omega
           have s3:w.heap.size<w2.heap.size:=by omega
           clear hB2)
         |(go_at_call 78;refine(Jr _).mono ?_;rintro e w4 ⟨rfl,hB4⟩
           have bB:Hid (Below wr.heap.size wr w4):=(HB2.out.alloc HB2.out.size _).trans (hB4.mono (by have:=HB2.out.size;simp;omega));have Vh:w4.ownsRow W1.heap.size 130 2 ov p ((dM d.T R O x j).flatMap bJ):=own_below HO.out bB.out (fun k hk=>(HO.out.lt k hk).2);have bX:=Vh.alloc (.cells #[.int .i64 a,.int .i64 ((b:Int)+1)] 130);have jq:=World.news_of_block (cs:= #[.int .i64 a,.int .i64 ((b:Int)+1)]) (t:=130) (fr:=(0,0)) (heap_alloc_new w4 (.cells #[.int .i64 a,.int .i64 ((b:Int)+1)] 130));have hs5:W1.heap.size<=w4.heap.size:=by have:=bB.out.size;have:=HB.out.size;omega
           clear hB4 Vh)
         |(at_builtin
           (refine wpList_append_lies _ rfl _ _ _ rfl W1.heap.size 130 i5 _ 2 16 Tryz.underlying131 hi0 hz0 hz1 hz2 rfl (by omega) ov p ((dM d.T R O x j).flatMap bJ) rfl bX ⟨w4.heap.size,0,none⟩ 1 1 [.int .i64 a,.int .i64 ((b:Int)+1)] rfl rfl jq (by simp[Value.oneCell']) (by omega) n1 n2 (by simp;omega) (w4.heap.size+1) (by simp) ?_)
           intro g6 cap6 w6 hown6 fF o6 uq))
       go_roundw
       case rel=>
        have aK:Below W1.heap.size W1 w6:=((HB.out.trans (bB.out.mono HB.out.size)).alloc (by have:=HB.out.size;have:=bB.out.size;omega) _).grown fF (by have:=HB.out.size;have:=bB.out.size;simp;omega) (fun q hq=>(HO.out.lt q hq).1);refine⟨j+1,_,rfl,by go_num,by omega,?_,aK⟩;rw[HK.out,List.flatMap_append,List.length_append,HP.out];exact hown6
       case measure=>simp[intOf];omega)
    ·have HK:Hid (dM d.T R O x (j+1)=dM d.T R O x j):=TH hlt hab (by rw[Cc,hnx];exact fun e=>hse (by injection e))
     clear hB hO hab hmem ok hAr Cc hnx;by_cases hbb:sb=yb
     ·subst hbb
      have e1:(sv==yv)=false:=by simpa using fun e=>hse (by rw[e])
      clear hse
      cases sb<;>
       (go_wp2_with
         (go_at_call 77;refine nx.mono ?_;rintro e w2 ⟨rfl,hB2⟩
          have HB2:Hid (Below wr.heap.size wr w2):=((Below.refl _ _).alloc (Nat.le_refl _) _).trans (hB2.mono (by simp));have v0:=(HB2.out.cell (p:=⟨w.heap.size,0,none⟩) Cf).trans z0;have v1:=(HB2.out.cell (p:=⟨w.heap.size,1,none⟩) Cf).trans z1;have s3:w.heap.size<w2.heap.size:=by have:=HB2.out.size;omega
          clear hB2)
        go_roundw
        case rel=>
         have hb:=fun o=>HB2.out.alloc HB2.out.size o;exact⟨j+1,ov,rfl,by go_num,by omega,by rw[HK.out];exact own_below HO.out (hb _) (fun k hk=>(HO.out.lt k hk).2),HB.out.trans ((hb _).mono HB.out.size)⟩
        case measure=>simp[intOf];omega)
     ·clear hse
      cases sb<;>cases yb<;>first
       |exact absurd rfl hbb
       |(go_wp2_with
          (go_at_call 77;refine nx.mono ?_;rintro e w2 ⟨rfl,hB2⟩
           have HB2:Hid (Below wr.heap.size wr w2):=((Below.refl _ _).alloc (Nat.le_refl _) _).trans (hB2.mono (by simp));have v0:=(HB2.out.cell (p:=⟨w.heap.size,0,none⟩) Cf).trans z0;have v1:=(HB2.out.cell (p:=⟨w.heap.size,1,none⟩) Cf).trans z1;have s3:w.heap.size<w2.heap.size:=by have:=HB2.out.size;omega
           clear hB2)
         go_roundw
         case rel=>
          have hb:=fun o=>HB2.out.alloc HB2.out.size o;exact⟨j+1,ov,rfl,by go_num,by omega,by rw[HK.out];exact own_below HO.out (hb _) (fun k hk=>(HO.out.lt k hk).2),HB.out.trans ((hb _).mono HB.out.size)⟩
         case measure=>simp[intOf];omega)
  ·obtain rfl:j=O.length:=by omega
   clear hB hO
   go_wp2_with fail
   go_ret;exact⟨ov,rfl,jE HO.out (by omega),iK.out⟩
structure F1(w0 ws:World)(d:fD)(vs:dF)(st:LS)(R:List Ru)(k:Nat)(v':dF)(ng:Nat)(wr:World):Prop where
 m:aA w0 wr d v' (bF d.T (ak d.T d.N R k).1) ng st
 s:jO R v'.OL (ak d.T d.N R k).2
 few:v'.OL.length<=150
 le:k<=v'.OL.length
 ng:ng<=k*20
 ov:v'.ov=vs.ov
 g:aQ d vs v' ws wr
structure F2(w0 ws:World)(d:fD)(vs:dF)(st:LS)(R:List Ru)(k x:Nat)(v':dF)(ng:Nat)(wr:World):Prop where
 m:aA w0 wr d v' (bF d.T ((ak d.T d.N R k).1++[(cK d.T R k x (ak d.T d.N R k).2).1])) ng st
 s:jO R v'.OL (cK d.T R k x (ak d.T d.N R k).2).2
 few:v'.OL.length<=150
 lt:k<v'.OL.length
 b:k<(ak d.T d.N R k).2.length
 ng:ng<=k*20+x
 ov:v'.ov=vs.ov
 g:aQ d vs v' ws wr
section
variable{w0 ws wr w':World}{d:fD}{vs v v':dF}{st:LS}{R:List Ru}{k x ng ng':Nat}
theorem F1.into(h:F1 w0 ws d vs st R k v ng wr)(hk:k<v.OL.length):F2 w0 ws d vs st R k 0 v ng wr:=
 ⟨by show aA w0 wr d v (bF d.T ((ak d.T d.N R k).1++[[]])) ng st;rw[ab3];exact h.m,h.s,h.few,hk,by rw[<-h.s.len];exact hk,h.ng,h.ov,h.g⟩
theorem F2.out(h:F2 w0 ws d vs st R k (d.T+d.N) v ng wr)(hTN:d.T+d.N<=20):F1 w0 ws d vs st R (k+1) v ng wr:=by
 have e:ak d.T d.N R (k+1)=lu d.T d.N R k (ak d.T d.N R k):=rfl;exact⟨by rw[e];exact h.m,by rw[e];exact h.s,h.few,h.lt,by have:=h.ng;omega,h.ov,h.g⟩
theorem F2.none(h:F2 w0 ws d vs st R k x v ng wr)(he:dM d.T R (v.OL.getD k []) x (v.OL.getD k []).length=[])(hb:Below wr.heap.size wr w'):F2 w0 ws d vs st R k (x+1) v ng w':=by
 have hv:=h.s.abZ h.lt he;have e:cK d.T R k (x+1) (ak d.T d.N R k).2=kF d.T R k x (cK d.T R k x (ak d.T d.N R k).2):=rfl;refine⟨?_,?_,h.few,h.lt,h.b,by have:=h.ng;omega,h.ov,h.g.trans (aQ.iU hb)⟩
 ·rw[e,kF]
  simp only;rw[hv,T9,if_neg (by omega)];exact h.m.below hb
 ·rw[e,kF]
  simp only;rw[hv];exact h.s
theorem F2.some(h:F2 w0 ws d vs st R k x v ng wr)(hne:dM d.T R (v.OL.getD k []) x (v.OL.getD k []).length≠[]){C:List It}(hs:C.Pairwise jb)(hC:∀i,i∈C↔Cl R (· ∈dM d.T R (v.OL.getD k []) x (v.OL.getD k []).length) i){n:Nat}(ht:EX v.OL C n v'.OL)
 (hm:aA w0 w' d v' (mH (bF d.T ((ak d.T d.N R k).1++[(cK d.T R k x (ak d.T d.N R k).2).1])) (k,dD d.T x) (.int .i64 n)) (ng+1) st) (hov:v'.ov=v.ov) (hg:aQ d v v' wr w'):
 (jO R v'.OL (cK d.T R k (x+1) (ak d.T d.N R k).2).2)/\(v'.OL.length<=150->F2 w0 ws d vs st R k (x+1) v' (ng+1) w'):=by
 obtain⟨hv1,hv2⟩:=h.s.visit h.lt hne hs hC ht;have e:cK d.T R k (x+1) (ak d.T d.N R k).2=kF d.T R k x (cK d.T R k x (ak d.T d.N R k).2):=rfl;have hS:jO R v'.OL (cK d.T R k (x+1) (ak d.T d.N R k).2).2:=by rw[e,kF];exact hv2
 refine⟨hS,fun hf=>⟨?_,hS,hf,?_,h.b,by have:=h.ng;omega,hov.trans h.ov,h.g.trans hg⟩⟩
 ·have hl:=Nj (T:=d.T) (R:=R) k x (ak d.T d.N R k).2
  have hl2:=TJ (T:=d.T) (N:=d.N) (R:=R) k;rw[e,kF];simp only;rw[hv1,T9,if_pos (Int.natCast_nonneg _),hl,hl2];exact hm
 ·rcases ht with⟨_,_,e2⟩|⟨_,_,e2⟩
  ·rw[e2];exact h.lt
  ·rw[e2,List.length_append];have:=h.lt;omega
theorem F2.lens(h:F2 w0 ws d vs st R k x v ng wr){Nu:List Bool}{Fi:List (List Bool)}(E:jQ w0 d R Nu Fi):∀j,j<v.OL.length->(v.OL.getD j []).length<=369:=fun j hj=>by
 have:=I6 E.zG (h.s.iZ j hj).ny (h.s.ok j hj);have:=E.hR;omega
end
def adp(w0 w:World)(d:fD)(v:dF)(st:LS)(R:List Ru)(e:Ending)(w':World):Prop:=
 (e= .returned (.bool false)/\More d.T d.N R 150/\Below w0.heap.size w w')\/
 (e= .returned (.bool true)/\∃K v' ng,F1 w0 w d v st R K v' ng w'/\v'.OL.length=K)
theorem adq{w0 w:World}{d:fD}{v:dF}{st:LS}{R:List Ru}{Nu:List Bool}{Fi:List (List Bool)}(E:jQ w0 d R Nu Fi)(h:aA w0 w d v (bF d.T []) 0 st)(vS:v.OL=[]):
 Calls Tryz.prog 32 #[.pointer (some ⟨d.ma,0,none⟩)] w (adp w0 w d v st R):=by
 have hR:=E.hR;have xS:=Jg (h.auto E);have hM1:=h.alloc (.cells #[.int .i64 R.length,.int .i64 0] 130)
 have hI1:jB (w.alloc (.cells #[.int .i64 R.length,.int .i64 0] 130)) (w.alloc (.cells #[.int .i64 R.length,.int .i64 0] 130)).heap.size (.slice (some ⟨w.heap.size,0,none⟩) 1 1) [(R.length,0)]:=by
  refine⟨⟨_,_,rfl⟩,fun k hk=> ?_⟩;obtain rfl:k=0:=by simpa using hk
  exact⟨w.heap.size,0,1,rfl,by simp,by simp[go_sem],by simp[go_sem]⟩
 have Fw:=Vd E hM1 hI1 ⟨by simp,by simp,by simp,fun x hx=>by simp only[List.mem_singleton]at hx;rw[hx];exact⟨Nat.le_refl _,Nat.zero_le _⟩,fun x hx _=>by simp only[List.mem_singleton]at hx;rw[hx]⟩ (by rw[vS];simp) (fun k hk=>by rw[vS]at hk;exact absurd hk (Nat.not_lt_zero _));have HE:Hid (jQ w0 d R Nu Fi):=E;have HM:Hid (aA w0 w d v (bF d.T []) 0 st):=h;have HOL:Hid (v.OL=[]):=vS;have hT:=E.hT;have hN:=E.hN.2;have hN1:=E.hN.1;clear E h hM1 hI1 vS
 go_enter Tryz.func32,Tryz.ntmps32
 go_wp2_with
  (first
   |(go_at_call 56;refine xS.mono ?_;rintro e w1 ⟨rfl,rfl⟩)
   |(go_at_call 55;refine Fw.mono ?_;rintro e w2 ⟨n,v2,C,rfl,hCs,qH,hSt,hov,hM2,hG2⟩
     have hF:F1 w0 w1 d v st R 0 v2 0 w2:=by
      have Vi:v2.OL=[C]:=by
       rw[HOL.out]at hSt;rcases hSt with⟨h1,_,_⟩|⟨_,_,h3⟩
       ·exact absurd h1 (Nat.not_lt_zero _)
       ·simpa using h3
      refine⟨?_,?_,by rw[Vi];simp,Nat.zero_le _,Nat.le_refl _,hov,(aQ.iU ((Below.refl _ _).alloc (Nat.le_refl _) _)).trans hG2⟩
      ·exact hM2
      ·rw[Vi];exact abX hCs qH
     have sys:=adn (hM2.auto HE.out) hT hN;have HF:Hid (F1 w0 w1 d v st R 0 v2 0 w2):=hF
     clear hF hCs qH hSt hov hM2 hG2 Fw xS)
   |(go_at_call 57;refine sys.mono ?_;rintro e w3 ⟨yv,rfl,hrow,hB3⟩
     obtain⟨ya,yc,hyv⟩:=aY hrow;subst hyv;have DC:Hid (F1 w0 w1 d v st R 0 v2 0 w3):=⟨HF.out.m.below hB3,HF.out.s,HF.out.few,HF.out.le,HF.out.ng,HF.out.ov,HF.out.g.trans (aQ.iU hB3)⟩
     have HY:Hid (w3.ownsRow w2.heap.size 104 2 (.slice ya (d.T+d.N) yc) (d.T+d.N) ((kJ d.T (d.T+d.N)).flatMap qI)/\∀g,(Value.slice ya (d.T+d.N) yc).ownBlock=some g->¬oH d v2 g):=⟨hrow,fun g hg hk=>by
      have:=(hrow.lt g hg).1;have:=(HF.out.m.kc hk).2
      omega⟩
     clear hrow hB3 sys HF))
 go_loopw [4] (fun s4 wr=> ∃(k:Nat) (v':dF) (ng:Nat),s4= .int .i64 k/\F1 w0 w1 d v st R k v' ng wr/\aQ d v2 v' w3 wr) (fun s _=>151-(intOf s).toNat)
 case atStart=>exact⟨0,v2,0,rfl,DC.out,aQ.refl _ _ _⟩
 case round=>
  clear DC;obtain⟨k,v',ng,rfl,hF,hG⟩:=hrel;have HF:Hid (F1 w0 w1 d v st R k v' ng wr):=hF;have HG:Hid (aQ d v2 v' w3 wr):=hG;have c6:=(hF.m.cell (i:=6) rfl (by omega)).1;obtain⟨sa,sc,hsv⟩:=hF.m.states;rw[hsv]at c6;have wo:=hF.few;have hle:=hF.le;clear hF hG hsv;by_cases hlt:k<v'.OL.length
  ·obtain⟨p,hp⟩:∃p,v'.OL.length=p:=⟨_,rfl⟩
   rw[hp]at c6 wo hle hlt;have HP:Hid (v'.OL.length=p):=hp;clear hp
   go_wp2_with fail
   clear c6
   go_loopw [27] (fun yD wq=> ∃(x:Nat) (v':dF) (ng:Nat),yD= .int .i64 x/\x<=d.T+d.N/\F2 w0 w1 d v st R k x v' ng wq/\aQ d v2 v' w3 wq) (fun s _=>d.T+d.N-(intOf s).toNat)
   case atStart=>exact⟨0,v',ng,rfl,Nat.zero_le _,HF.out.into (by rw[HP.out];exact hlt),HG.out⟩
   case round=>
    clear HF HG HP;obtain⟨x,v',ng,rfl,hx,hF,hG⟩:=hrel;have HF:Hid (F2 w0 w1 d v st R k x v' ng wr):=hF;have HG:Hid (aQ d v2 v' w3 wr):=hG;by_cases Vj:x<d.T+d.N
    ·have hrow:=UC HY.out.1 hG HY.out.2
     obtain⟨yg,afP,hyv,_,_⟩:=hrow.form (by omega);cases hyv
     have q:∀i,i<2->wr.cell? ⟨yg,x*2+i,none⟩=(qI (dD d.T x))[i]?:=fun i hi=>by
      rw[hrow.cellAt (x*2+i) (by omega),adk (by rw[adl];exact Vj) hi,adm Vj]
     have q0:=q 0 (by omega);have q1:=q 1 (by omega);have JA:=hF.lens HE.out;have hkl:=TG (T:=d.T) (R:=R) (x:=x) (O:=v'.OL.getD k []) (j:=(v'.OL.getD k []).length);have hk3:=JA k hF.lt;have Cg:=ado (x:=x) HE.out (hF.m.alloc (.cells #[.bool (dD d.T x).1,.int .i64 (dD d.T x).2] 104)) hF.s hF.lt;have hX:=hF.m.box #[.bool (dD d.T x).1,.int .i64 (dD d.T x).2] 104;have hM1:=hF.m.alloc (.cells #[.bool (dD d.T x).1,.int .i64 (dD d.T x).2] 104)
     have vC:dM d.T R (v'.OL.getD k []) x (v'.OL.getD k []).length≠[]->NZ R (dM d.T R (v'.OL.getD k []) x (v'.OL.getD k []).length):=fun hne=>
      ⟨abI (hF.s.iZ k hF.lt).ny,List.length_pos_iff.2 hne,by omega,fun i hi=>(hF.s.TY hF.lt i hi).1,fun i hi h0=>absurd h0 (hF.s.TY hF.lt i hi).2⟩
     have hsy:0<=(dD d.T x).2/\(dD d.T x).2<=20:=by unfold dD;split<;>simp<;>omega
     have adr:=hF.few;have hkb:k<v'.OL.length:=hF.lt;have pQ:=hF.ng;obtain⟨y,hy⟩:∃y,dD d.T x=y:=⟨_,rfl⟩;have kT:Hid (dD d.T x=y):=hy;rw[hy]at q0 q1 Cg hX hM1 hsy;obtain⟨L,hL⟩:∃L,dM d.T R (v'.OL.getD k []) x (v'.OL.getD k []).length=L:=⟨_,rfl⟩;have HL:Hid (dM d.T R (v'.OL.getD k []) x (v'.OL.getD k []).length=L):=hL;rw[hL]at hkl Cg vC;have ads:Hid (L≠[]->NZ R L):=vC;have adt:Hid (∀j,j<v'.OL.length->(v'.OL.getD j []).length<=369):=JA;obtain⟨yb,yn⟩:=y;simp only[qI,Nat.add_zero]at q0 q1 Cg hX hM1 hsy;have zN:wr.cell? ⟨yg,x*2,none⟩=some (.bool yb):=q0;have q1':wr.cell? ⟨yg,x*2+1,none⟩=some (.int .i64 yn):=q1;obtain⟨Gx,N8⟩:∃Gx,bF d.T ((ak d.T d.N R k).1++[(cK d.T R k x (ak d.T d.N R k).2).1])=Gx:=⟨_,rfl⟩;rw[N8]at hM1;have HGx:Hid (bF d.T ((ak d.T d.N R k).1++[(cK d.T R k x (ak d.T d.N R k).2).1])=Gx):=N8;have jZ:Hid (dG (wr.alloc (.cells #[.bool yb,.int .i64 yn] 104)) d v' wr.heap.size #[.bool yb,.int .i64 yn] 104):=hX;have qz:Hid (aA w0 (wr.alloc (.cells #[.bool yb,.int .i64 yn] 104)) d v' Gx ng st):=hM1;have i0:(0:Int)<=(x:Int):=Int.natCast_nonneg _;have i1:(x:Int)<((d.T+d.N:Nat):Int):=by omega
     have i2:(x:Int)<(d.T:Int)+(d.N:Int):=by omega
     clear hF hG hrow q q0 q1 hy hL JA vC hX hM1 N8;by_cases hnil:L=[]
     ·subst hnil
      go_wp2_with
       (go_at_call 58;refine Cg.mono ?_;rintro e w4 ⟨ov,rfl,hrow4,hB4⟩
        obtain⟨oa,oc,hov⟩:=aY hrow4;simp only[List.length_nil]at hov;subst hov;have bB:Hid (Below wr.heap.size wr w4):=((Below.refl _ _).alloc (Nat.le_refl _) _).trans (hB4.mono (by simp))
        clear hrow4 hB4)
      go_roundw
      case rel=>exact⟨x+1,v',ng,by go_num,by omega,HF.out.none HL.out bB.out,HG.out.trans (aQ.iU bB.out)⟩
      case measure=>simp[intOf];omega
     ·have hpos:0<L.length:=List.length_pos_iff.2 hnil
      have e1:((L.length:Int)==0)=false:=by simp;omega
      have Ff:Hid (L≠[]):=hnil;clear hnil
      go_wp2_with
       (go_at_call 58;refine Cg.mono ?_;rintro e w4 ⟨ov,rfl,hrow4,hB4⟩
        obtain⟨oa,oc,hov⟩:=aY hrow4;subst hov;have N9:=qz.out.below hB4;have sP:Hid (aA w0 w4 d v' Gx ng st):=N9;have Vk:Hid (dG w4 d v' wr.heap.size #[.bool yb,.int .i64 yn] 104):=jZ.out.below hB4;have bB:Hid (Below wr.heap.size wr w4):=((Below.refl _ _).alloc (Nat.le_refl _) _).trans (hB4.mono (by simp));have Fw:=Vd HE.out N9.drew (show jB w4.drew w4.drew.heap.size _ _ from BM hrow4 rfl) (ads.out Ff.out) adr (fun j hj=>by have:=adt.out j hj;omega)
        clear hrow4 hB4 N9 Cg)
      have keep:∀{wx:World} {u:dF} {Gu:Wy->Option Value} {nu:Nat},aA w0 wx d u Gu nu st->dG wx d u wr.heap.size #[.bool yb,.int .i64 yn] 104->
       wx.cell? ⟨d.ma,7,none⟩=some (.map (some d.mg))/\wx.cell? ⟨wr.heap.size,0,none⟩=some (.bool yb)/\wx.cell? ⟨wr.heap.size,1,none⟩=some (.int .i64 yn):=fun {wx u Gu nu} hM hX=>
       ⟨(hM.cell (i:=7) rfl (by omega)).1,hX.cell rfl,hX.cell rfl⟩
      have hS4:=keep sP.out.drew Vk.out.drew
      have pF:Hid (∀{wx:World} {u:dF} {Gu:Wy->Option Value} {nu:Nat},aA w0 wx d u Gu nu st->dG wx d u wr.heap.size #[.bool yb,.int .i64 yn] 104->
       wx.cell? ⟨d.ma,7,none⟩=some (.map (some d.mg))/\wx.cell? ⟨wr.heap.size,0,none⟩=some (.bool yb)/\wx.cell? ⟨wr.heap.size,1,none⟩=some (.int .i64 yn)):=keep
      clear keep;obtain⟨s0,s1,s2⟩:=hS4
      go_cut [] from 28 (fun wx=> ∃(n:Nat) (v5:dF) (C:List It),C.Pairwise jb/\(∀i,i∈C↔Cl R (· ∈L) i)/\EX v'.OL C n v5.OL/\v5.ov=v'.ov/\aA w0 wx d v5 (mH Gx (k,(yb,yn)) (.int .i64 n)) (ng+1) st/\aQ d v' v5 wr wx)
      case first=>
       go_region_held3 (fun wx=>wx.cell? ⟨d.ma,7,none⟩=some (.map (some d.mg))/\wx.cell? ⟨wr.heap.size,0,none⟩=some (.bool yb)/\wx.cell? ⟨wr.heap.size,1,none⟩=some (.int .i64 yn)) (first|assumption|exact⟨s0,s1,s2⟩|go_keep)
        (first
         |(go_at_call 55;refine Fw.mono ?_;rintro e w5 ⟨n,v5,C,rfl,hCs,qH,hSt,hov,gZ,kV⟩
           have Oa:=Vk.out.drew.goes kV;have hS5:=pF.out gZ Oa;obtain⟨w6,u6,kI,qG,-⟩:=gZ.iN (p:=(k,(yb,yn))) (by simp only;omega) hsy.1 (by simp only;omega) (.int .i64 n);unfold qE at u6;simp only at u6;have hS6:=pF.out kI (Oa.goes qG);have H6:Hid (C.Pairwise jb/\(∀i,i∈C↔Cl R (· ∈L) i)/\EX v'.OL C n v5.OL/\v5.ov=v'.ov/\aA w0 w6 d v5 (mH Gx (k,(yb,yn)) (.int .i64 n)) (ng+1) st/\aQ d v' v5 wr w6):=⟨hCs,qH,hSt,hov,kI,((aQ.iU bB.out).drew.trans kV).trans qG⟩
           clear hCs qH hSt hov gZ kV Oa kI qG))
       all_goals
        go_wp2_with fail
        go_meet
        case rel=>exact⟨n,v5,C,H6.out⟩
      case rest=>
       obtain⟨n,v5,C,hCs,qH,hSt,hov,gZ,kV⟩:=hcut;have c6:=(gZ.cell (i:=6) rfl (by omega)).1;obtain⟨sa5,sc5,Cb⟩:=gZ.states;rw[Cb]at c6;obtain⟨r1,r2⟩:=HF.out.some (by rw[HL.out];exact Ff.out) hCs (by rw[HL.out];exact qH) hSt (by rw[HGx.out,kT.out];exact gZ) hov kV;have Vl:=r1.len
       have Ee:v5.OL.length<=151:=by
        rcases hSt with⟨_,_,e2⟩|⟨_,_,e2⟩
        ·rw[e2];omega
        ·rw[e2,List.length_append,List.length_cons,List.length_nil];omega
       have HR2:Hid (v5.OL.length<=150->F2 w0 w1 d v st R k (x+1) v5 (ng+1) wc):=r2;have Vm:Hid (150<v5.OL.length->More d.T d.N R 150):=fun hgt=>⟨k,x+1,HF.out.b,by omega,by rw[<-Vl];exact hgt⟩;have r9:Hid (aQ d v' v5 wr wc):=kV;have MB:Hid (Below w0.heap.size w1 wc):=(HM.out.BK HF.out.g).trans (HF.out.m.BK kV);obtain⟨p5,hp⟩:∃p5,v5.OL.length=p5:=⟨_,rfl⟩;rw[hp]at c6 Ee HR2 Vm;clear hCs qH hSt hov gZ kV Cb r1 r2 Vl s0 s1 s2 Fw hp;by_cases hgt:p5<=150
       ·have d1:decide (150<p5)=false:=decide_eq_false (by omega)
        go_wp2_with fail
        go_roundw
        case rel=>exact⟨x+1,v5,ng+1,by go_num,by omega,HR2.out hgt,HG.out.trans r9.out⟩
        case measure=>simp[intOf];omega
       ·have d1:decide (150<p5)=true:=decide_eq_true (by omega)
        go_wp2_with fail
        go_ret;exact .inl ⟨rfl,Vm.out (by omega),MB.out⟩
    ·obtain rfl:x=d.T+d.N:=by omega
     clear hF hG
     go_wp2_with fail
     go_roundw
     case rel=>exact⟨k+1,v',ng,by go_num,HF.out.out (by omega),HG.out⟩
     case measure=>simp[intOf];omega
  ·have HE2:Hid (v'.OL.length=k):=by show v'.OL.length=k;omega
   go_wp2_with fail
   go_ret;exact .inr ⟨rfl,k,v',ng,HF.out,HE2.out⟩
section
variable{w:World}{base:Nat}{sv nv:Value}{vi vr:Nat->Value}{OL:List (List It)}{NL:List (List Int)}{c l:Option Row}
end
structure BC(w:World)(ab lim T N:Nat)(rv:Value)(R:List Ru)(sv nv:Value)(wr:World):Prop where
 below:Below ab w wr
 auto:iE wr lim ab T N rv R
 keep:∀o,o≠6->o≠7->wr.cell? ⟨ab,o,none⟩=w.cell? ⟨ab,o,none⟩
 zP:∀o,wr.frozen? ⟨ab,o,none⟩=false
 c6:wr.cell? ⟨ab,6,none⟩=some sv
 c7:wr.cell? ⟨ab,7,none⟩=some nv
section
variable{w wr:World}{ab lim T N:Nat}{rv sv nv:Value}{R:List Ru}
theorem BC.grow(h:BC w ab lim T N rv R sv nv wr)(hl:lim<=ab){w':World}{row:Option Nat}(hg:wr.grownBy w' row)(hr:∀b,row=some b->ab<b):BC w ab lim T N rv R sv nv w':=by
 have hlt:=h.auto.lt;have hb:w'.heap[ab]?=wr.heap[ab]?:=hg.block ab hlt (fun e=>by have:=hr ab e.symm;omega);have hc:∀o,w'.cell? ⟨ab,o,none⟩=wr.cell? ⟨ab,o,none⟩:=fun o=>World.cell?_of_block hb;have hB:Below (ab+1) wr w':=⟨hg.os,hg.tape,hg.output,hg.size,fun k hk=>hg.block k (by omega) (fun e=>by have:=hr k e.symm;omega)⟩;exact⟨h.below.trans (hB.mono (by omega)),h.auto.below hB (by omega) (by omega),fun o h6 h7=>(hc o).trans (h.keep o h6 h7),fun o=>(World.frozen?_of_block hb).trans (h.zP o),(hc 6).trans h.c6,(hc 7).trans h.c7⟩
theorem BC.later(h:BC w ab lim T N rv R sv nv wr)(hl:lim<=ab){w':World}(hb:Below wr.heap.size wr w'):BC w ab lim T N rv R sv nv w':=
 h.grow hl (row:=none) ⟨hb.os,hb.tape,hb.output,hb.size,fun k hk _=>hb.block k hk⟩ (fun _ e=>nomatch e)
theorem BC.drewN(h:BC w ab lim T N rv R sv nv wr)(m:Nat):BC w ab lim T N rv R sv nv (wr.drewN m):=
 ⟨below_drewN h.below m,⟨h.auto.t,h.auto.n,h.auto.r,h.auto.rules,h.auto.le,h.auto.lt⟩,h.keep,h.zP,h.c6,h.c7⟩
theorem BC.set(h:BC w ab lim T N rv R sv nv wr)(hl:lim<=ab){p:Addr}(hp:ab<p.block)(u:Value):BC w ab lim T N rv R sv nv (wr.setCell p u):=by
 have hlt:=h.auto.lt;have hB:Below (ab+1) wr (wr.setCell p u):=(Below.refl _ _).setCell (by omega) u;have hc:∀o,(wr.setCell p u).cell? ⟨ab,o,none⟩=wr.cell? ⟨ab,o,none⟩:=fun o=>hB.cell (p:=⟨ab,o,none⟩) (Nat.lt_succ_self _);exact⟨h.below.trans (hB.mono (by omega)),h.auto.below hB (by omega) (by omega),fun o h6 h7=>(hc o).trans (h.keep o h6 h7),fun o=>(hB.frozen (p:=⟨ab,o,none⟩) (Nat.lt_succ_self _)).trans (h.zP o),(hc 6).trans h.c6,(hc 7).trans h.c7⟩
end
theorem bK.kept{K:Nat->Prop}{w w':World}{b o c:Nat}{l:List Sy}(h:bK w (.slice (some ⟨b,o,none⟩) l.length c) l)(hk:Kept K w w')(hb:¬K b):bK w' (.slice (some ⟨b,o,none⟩) l.length c) l:=
 ⟨h.1,fun j hj=>by
   obtain⟨b',o',c',e,h1,h2⟩:=h.2 j hj;cases e
   exact⟨b,o,c,rfl,hk.cell (p:=⟨b,o+j*2,none⟩) hb h1,hk.cell (p:=⟨b,o+j*2+1,none⟩) hb h2⟩⟩
inductive Lx
 |sp|ro (k:Nat)|bt (k j:Nat)|cur
 deriving DecidableEq
def PL(T:Nat)(OL:List (List It))(lv:Value)(vl:Nat->Value)(vb:Nat->Nat->Value)(m jc:Nat)(cv:Option Value):Lx->Option Row
 | .sp=>some ⟨lv,82,1,m,(List.range m).map vl⟩
 | .ro k=>if k<m then some ⟨vl k,81,1,(OL.getD k []).length,(List.range (OL.getD k []).length).map (vb k)⟩ else none
 | .bt k j=>if (k<m/\j<(OL.getD k []).length)\/(k=m/\j<jc) then some ⟨vb k j,4,1,T+1,(List.replicate (T+1) false).map Value.bool⟩ else none
 | .cur=>cv.map fun v=>⟨v,81,1,jc,(List.range jc).map (vb m)⟩
structure IC(w:World)(ab:Nat)(lv:Value)(wr:World):Prop where
 kept:Kept (fun b=>b=ab) w wr
 keep:∀o,o≠8->wr.cell? ⟨ab,o,none⟩=w.cell? ⟨ab,o,none⟩
 zP:∀o,wr.frozen? ⟨ab,o,none⟩=false
 c8:wr.cell? ⟨ab,8,none⟩=some lv
section
variable{w wr:World}{ab lim T N:Nat}{rv sv nv lv:Value}{R:List Ru}{vi vr:Nat->Value}{OL:List (List It)}{NL:List (List Int)}
theorem IC.grow(h:IC w ab lv wr)(hab:ab<w.heap.size){w':World}{row:Option Nat}(hg:wr.grownBy w' row)(hr:∀b,row=some b->w.heap.size<=b):IC w ab lv w':=by
 have hs:=h.kept.size;have hb:w'.heap[ab]?=wr.heap[ab]?:=hg.block ab (by omega) (fun e=>by have:=hr ab e.symm;omega);have hc:∀o,w'.cell? ⟨ab,o,none⟩=wr.cell? ⟨ab,o,none⟩:=fun o=>World.cell?_of_block hb
 exact⟨⟨hg.os.trans h.kept.os,hg.tape.trans h.kept.tape,hg.output.trans h.kept.output,Nat.le_trans hs hg.size,fun k hk hK=>(hg.block k (by omega) (fun e=>by have:=hr k e.symm;omega)).trans (h.kept.block k hk hK)⟩,
  fun o ho=>(hc o).trans (h.keep o ho),fun o=>(World.frozen?_of_block hb).trans (h.zP o),(hc 8).trans h.c8⟩
theorem IC.later(h:IC w ab lv wr)(hab:ab<w.heap.size){w':World}(hb:Below wr.heap.size wr w'):IC w ab lv w':=
 h.grow hab (row:=none) ⟨hb.os,hb.tape,hb.output,hb.size,fun k hk _=>hb.block k hk⟩ (fun _ e=>nomatch e)
theorem IC.auto(h:IC w ab lv wr)(hA:iE w lim ab T N rv R)(hl:lim<=ab):iE wr lim ab T N rv R:=by
 have hs:=h.kept.size;have hlt:=hA.lt;have hB:Below lim w wr:=⟨h.kept.os,h.kept.tape,h.kept.output,hs,fun k hk=>h.kept.block k (by omega) (by omega)⟩;exact⟨(h.keep 0 (by omega)).trans hA.t,(h.keep 1 (by omega)).trans hA.n,(h.keep 2 (by omega)).trans hA.r,hA.rules.below hB,Nat.le_trans hA.le hs,by omega⟩
theorem IC.owns{ι:Type}{P:ι->Option Row}(h:IC w ab lv wr)(ho:au w (ab+1) P):au wr (ab+1) P:=by
 refine⟨fun i r hi=> ?_,ho.apart⟩;have hr:=ho.own i r hi;refine⟨hr.1,?_⟩;rcases hr.2 with h2|⟨g,cap,cur,hv,hg,hh,rest⟩
 ·exact .inl h2
 ·have hgl:=(ho.lt hi (by rw[hv];rfl:r.v.ownBlock=some g)).2
  exact .inr ⟨g,cap,cur,hv,hg,(h.kept.block g hgl (by omega)).trans hh,rest⟩
end
section
variable{w:World}{base T m jc:Nat}{OL:List (List It)}{lv:Value}{vl:Nat->Value}{vb:Nat->Nat->Value}
end
section
variable{w w':World}{base ab lim T N:Nat}{OL:List (List It)}{NL:List (List Int)}{rv sv nv lv nuv fiv:Value}{vi vr vl:Nat->Value}{vb:Nat->Nat->Value}{R:List Ru}{Nu:List Bool}{Fi:List (List Bool)}
end
structure CS(w:World)(sh:Int)(L:List Int)(en:Bool)(rv:Value)(wr:World):Prop where
 below:Below w.heap.size w wr
 size:w.heap.size+2<=wr.heap.size
 b0:wr.cell? ⟨w.heap.size+1,0,none⟩=some (.int .i64 sh)
 b1:wr.cell? ⟨w.heap.size+1,1,none⟩=some rv
 b2:wr.cell? ⟨w.heap.size+1,2,none⟩=some (.bool en)
 fr:∀o,wr.frozen? ⟨w.heap.size+1,o,none⟩=false
 a0:∃v,wr.cell? ⟨w.heap.size,0,none⟩=some v
 a1:∃v,wr.cell? ⟨w.heap.size,1,none⟩=some v
 a2:∃v,wr.cell? ⟨w.heap.size,2,none⟩=some v
 af:∀o,wr.frozen? ⟨w.heap.size,o,none⟩=false
 own:wr.ownsRow (w.heap.size+2) 3 1 rv L.length (L.map (Value.int .i64))
section
variable{w wr:World}{sh:Int}{L:List Int}{en:Bool}{rv:Value}
theorem CS.grow(h:CS w sh L en rv wr){w':World}{row:Option Nat}(hg:wr.grownBy w' row)(hr:∀b,row=some b->w.heap.size+2<=b){L':List Int}{rv':Value}(ho:w'.ownsRow (w.heap.size+2) 3 1 rv' L'.length (L'.map (Value.int .i64)))(hb1:w'.cell? ⟨w.heap.size+1,1,none⟩=some rv'):CS w sh L' en rv' w':=by
 have hs:=h.size;have hb:∀k,k<w.heap.size+2->w'.heap[k]?=wr.heap[k]?:=fun k hk=>hg.block k (by omega) (fun e=>by have:=hr k e.symm;omega);have hc:∀k o,k<w.heap.size+2->w'.cell? ⟨k,o,none⟩=wr.cell? ⟨k,o,none⟩:=fun k o hk=>World.cell?_of_block (hb k hk);have hf:∀k o,k<w.heap.size+2->w'.frozen? ⟨k,o,none⟩=wr.frozen? ⟨k,o,none⟩:=fun k o hk=>World.frozen?_of_block (hb k hk)
 exact⟨h.below.trans ⟨hg.os,hg.tape,hg.output,hg.size,fun k hk=>hb k (by omega)⟩,Nat.le_trans hs hg.size,(hc _ 0 (by omega)).trans h.b0,hb1,(hc _ 2 (by omega)).trans h.b2,fun o=>(hf _ o (by omega)).trans (h.fr o),
  by rw[hc _ 0 (by omega)];exact h.a0,by rw[hc _ 1 (by omega)];exact h.a1,by rw[hc _ 2 (by omega)];exact h.a2,fun o=>(hf _ o (by omega)).trans (h.af o),ho⟩
theorem CS.later(h:CS w sh L en rv wr){w':World}(hb:Below wr.heap.size wr w'):CS w sh L en rv w':=
 h.grow (row:=none) ⟨hb.os,hb.tape,hb.output,hb.size,fun k hk _=>hb.block k hk⟩ (fun _ e=>nomatch e) (own_below h.own hb (fun g hg=>(h.own.lt g hg).2)) ((hb.cell (p:=⟨w.heap.size+1,1,none⟩) (by have:=h.size;simp;omega)).trans h.b1)
end
theorem Vn{w:World}{base n:Nat}{v:Value}{X:List Int}(h:w.ownsRow base 3 1 v n (X.map (Value.int .i64))):aH w w.heap.size v X:=by
 have hl:X.length=n:=by simpa using h.1
 obtain⟨a,c,hv⟩:=aY h;refine⟨⟨a,c,by rw[hv,hl]⟩,fun i hi=> ?_⟩;obtain⟨g,cap,rfl,_,_⟩:=h.form (by omega);refine⟨g,0,cap,by rw[hl],(h.lt g rfl).2,?_⟩;rw[Nat.zero_add,h.cellAt i (by omega)];simp[List.getD,hi]
section
variable{w:World}{base:Nat}{cv gv:Value}{vc vg:Nat->Value}{vr:Nat->Nat->Value}{C:List (List Ce)}{G:List (List Int)}
end
end Go.Proofs.YtpkmpkphfflpjaaGreat
