import Derived.Test.YthbifaoaiggooaaGreatDoorq25
set_option maxHeartbeats 6400000
set_option maxRecDepth 100000
namespace Go.Proofs.YthbifaoaiggooaaGreatDoor
open Go.RowKit
def fC(l:List UInt8):Nat:=l.foldl (λn c=>n*10+(c.toNat-48)) 0
def jV(s:List UInt8):Bool:=decide (1<=s.length)&&decide (s.length<=6)&& !(s.getD 0 0==48&&decide (1<s.length))&&s.all dP
def o7(s:List UInt8):Nat:=if jV s=true then fC s else 0
theorem aaw{s:List UInt8}{i:Nat}(h:i<s.length):fC (s.take (i+1))=fC (s.take i)*10+((s.getD i 0).toNat-48):=by
 unfold fC;rw[fT h,FK];simp[List.getD,h]
theorem aax:∀{s:List UInt8},s.all dP=true->fC s<10^s.length:=by
 intro s
 have key:∀(l:List UInt8) (n:Nat),l.all dP=true->l.foldl (λn c=>n*10+(c.toNat-48)) n<(n+1)*10^l.length:=by
  intro l
  induction l with
  |nil=>intro n _;simp
  |cons c l ih=>
   intro n h;simp only[List.all_cons,bG,dP,bX]at h;have:=ih (n*10+(c.toNat-48)) h.2;rw[List.foldl_cons,List.length_cons,Nat.pow_succ];refine jg this ?_;have h2:n*10+(c.toNat-48)+1<=(n+1)*10:=by omega
   calc (n*10+(c.toNat-48)+1)*10^l.length<=((n+1)*10)*10^l.length:=BM _ h2
    _=(n+1)*(10^l.length*10):=by rw[Nat.mul_assoc,Nat.mul_comm 10]
 intro h;unfold fC;simpa using key s 0 h
theorem aay{s:List UInt8}{i:Nat}(h:i<s.length)(ha:(s.take i).all dP=true)(hd:dP (s.getD i 0)=true):(s.take (i+1)).all dP=true:=by
 rw[fT h,zZ,ha];simpa [List.getD,h] using hd
section
variable{w:World}{s:List UInt8}
theorem aiI(w:World):Calls Tryz.prog 10 #[.string ⟨s.toArray⟩,.int .i64 6] w λe w'=>e= .returned (.tuple #[.int .i64 (o7 s:Nat),.bool (jV s)])/\w'=w:=by
 by_cases h1:s.length<1
 ·have hR:jV s=false:=by
   simp only[jV,show decide (1<=s.length)=false from aU (by omega),Bool.false_and]
  have HR:Hid (jV s=false/\o7 s=0):=⟨hR,by simp[o7,hR]⟩;have d1:decide ((s.length:Int)<1)=true:=aT (by omega);clear hR
  go_enter Tryz.func10,Tryz.ntmps10
  go_wp2_with fail
  refine aH (v:= .tuple #[.int .i64 0,.bool false]) (by simp[results,Tryz.results10,go_sem]) rfl ⟨by rw[HR.out.1,HR.out.2];rfl,rfl⟩
 ·by_cases h2:6<s.length
  ·have hR:jV s=false:=by
    simp only[jV,show decide (s.length<=6)=false from aU (by omega),Bool.and_false,Bool.false_and]
   have d1:decide ((s.length:Int)<1)=false:=aU (by omega);have d2:decide ((6:Int)<(s.length:Int))=true:=aT (by omega);have d3:decide ((s.length:Int)>6)=true:=d2;have HR:Hid (jV s=false/\o7 s=0):=⟨hR,by simp[o7,hR]⟩;clear hR
   go_enter Tryz.func10,Tryz.ntmps10
   go_wp2_with fail
   refine aH (v:= .tuple #[.int .i64 0,.bool false]) (by simp[results,Tryz.results10,go_sem]) rfl ⟨by rw[HR.out.1,HR.out.2];rfl,rfl⟩
  ·obtain⟨c,hc⟩:=af (s.getD 0 0)
   have hb:(⟨s.toArray⟩:ByteArray)[0]'(by simp[ByteArray.size];omega)=c:=by
    rw[<-hc];simp[ByteArray.getElem_eq_getElem_data,List.getD];have:0<s.length:=by omega
    simp[this]
   have d1:decide ((s.length:Int)<1)=false:=aU (by omega);have d2:decide ((6:Int)<(s.length:Int))=false:=aU (by omega);have d3:decide ((s.length:Int)>6)=false:=d2;have j1:(0:Int)<(s.length:Int):=by omega
   have j2:0<s.length:=by omega
   by_cases hz:c.toNat=48/\1<s.length
   ·have aaz:(c==48)=true:=by
     have:c=48:=UInt8.toNat_inj.1 hz.1;simp[this]
    have hR:jV s=false:=by
     simp only[jV,hc,aaz,aT hz.2,Bool.and_self,Bool.not_true,Bool.and_false,Bool.false_and]
    have HR:Hid (jV s=false/\o7 s=0):=⟨hR,by simp[o7,hR]⟩;have z1:(c.toNat:Int)=48:=by omega
    have z2:(1:Int)<(s.length:Int):=by omega
    clear hR aaz hc hz
    go_enter Tryz.func10,Tryz.ntmps10
    go_wp2_with fail
    refine aH (v:= .tuple #[.int .i64 0,.bool false]) (by simp[results,Tryz.results10,go_sem]) rfl ⟨by rw[HR.out.1,HR.out.2];rfl,rfl⟩
   ·have xQ:Hid (jV s=s.all dP):=by
     show _=_
     have hx:(c==48&&decide (1<s.length))=false:=by
      by_cases h:c=48
      ·have:¬1<s.length:=λh'=>hz ⟨by rw[h];rfl,h'⟩
       simp[this]
      ·simp[h]
     simp only[jV,hc,hx,aT (show 1<=s.length by omega),aT (show s.length<=6 by omega),Bool.not_false,Bool.and_self,wN]
    by_cases hz1:c.toNat=48
    ·have z1:(c.toNat:Int)=48:=by omega
     have z2:decide ((1:Int)<(s.length:Int))=false:=aU (by omega);have z3:¬(1:Int)<(s.length:Int):=by omega
     clear hz hz1
     go_enter Tryz.func10,Tryz.ntmps10
     go_wp2_with fail
     go_loopw [6,7] (λs6 s7 wr=> ∃i:Nat,s7= .int .i64 i/\i<=s.length/\s6= .int .i64 (fC (s.take i):Nat)/\(s.take i).all dP=true/\wr=w) (λ_ v _=>s.length-(intOf v).toNat)
     case atStart=>exact⟨0,rfl,aP _,by simp[fC],by simp,rfl⟩
     case round=>
      obtain⟨i,rfl,hi,rfl,ha,rfl⟩:=hrel;have hv:=aax ha;rw[fq,wU hi]at hv;have hv2:fC (s.take i)<1000000:=jg hv (wV (by omega) (by omega:i<=6):10^i<=10^6);by_cases hlt:i<s.length
      ·have hnx:=aaw hlt
       obtain⟨x,hx⟩:=af (s.getD i 0)
       have hbx:(⟨s.toArray⟩:ByteArray)[i]'(by simpa [ByteArray.size] using hlt)=x:=by
        rw[<-hx];simp[ByteArray.getElem_eq_getElem_data,List.getD,hlt]
       have k0:(0:Int)<=(i:Int):=aF _;have k1:(i:Int)<(s.length:Int):=by omega
       obtain⟨v,hvv⟩:=af (fC (s.take i));rw[hvv]at hnx hv2⊢;rw[hx]at hnx;clear hb hc;by_cases hd:dP x=true
       ·have JG:=aay hlt ha (by rw[hx];exact hd)
        have hD:=hd;simp only[dP,bG,bX]at hD;have y1:decide ((x.toNat:Int)<48)=false:=aU (by omega);have y2:decide ((57:Int)<(x.toNat:Int))=false:=aU (by omega);have y3:decide ((x.toNat:Int)>57)=false:=y2;have HN:Hid (fC (s.take (i+1))=v*10+(x.toNat-48)/\(s.take (i+1)).all dP=true):=⟨hnx,JG⟩;clear hnx JG hx ha hd hv hvv
        go_wp2_with fail
        go_roundw
        case rel=>exact⟨i+1,by go_num,by omega,by rw[HN.out.1];go_num,HN.out.2,by first|rfl|trivial⟩
        case measure=>simp[intOf];omega
       ·have hn:s.all dP=false:=by
         rw[Bool.eq_false_iff];intro h;have:=qO.1 h (s[i]) (jO hlt);rw[<-hx]at hd;simp[List.getD,hlt]at hd;simp[this]at hd
        have HR:Hid (jV s=false/\o7 s=0):=by
         have h1:=xQ.out;rw[hn]at h1;exact⟨h1,by simp[o7,h1]⟩
        have hD:¬(48<=x.toNat/\x.toNat<=57):=by simpa [dP] using hd
        clear hnx hx ha hv hvv hn hd;by_cases h48:x.toNat<48
        ·have y1:decide ((x.toNat:Int)<48)=true:=aT (by omega)
         go_wp2_with fail
         refine aH (v:= .tuple #[.int .i64 0,.bool false]) (by simp[results,Tryz.results10,go_sem]) rfl ⟨by rw[HR.out.1,HR.out.2];rfl,rfl⟩
        ·have y1:decide ((x.toNat:Int)<48)=false:=aU (by omega)
         have y2:decide ((57:Int)<(x.toNat:Int))=true:=aT (by omega);have y3:decide ((x.toNat:Int)>57)=true:=y2
         go_wp2_with fail
         refine aH (v:= .tuple #[.int .i64 0,.bool false]) (by simp[results,Tryz.results10,go_sem]) rfl ⟨by rw[HR.out.1,HR.out.2];rfl,rfl⟩
      ·have hii:i=s.length:=by omega
       rw[hii,gH]at ha
       have HR:Hid (jV s=true/\o7 s=fC (s.take i)):=by
        have h1:=xQ.out;rw[ha]at h1;exact⟨h1,by simp[o7,h1,hii]⟩
       obtain⟨v,hvv⟩:=af (fC (s.take i));rw[hvv]at HR⊢;clear ha hv hv2 hii hvv hb hc
       go_wp2_with fail
       refine aH (v:= .tuple #[.int .i64 (v:Nat),.bool true]) (by simp[results,Tryz.results10,go_sem]) rfl ⟨by rw[HR.out.1,HR.out.2],rfl⟩
    ·have z1:¬(c.toNat:Int)=48:=by omega
     have z2:((c.toNat:Int)==48)=false:=by simpa using z1
     clear hz hz1
     go_enter Tryz.func10,Tryz.ntmps10
     go_wp2_with fail
     go_loopw [6,7] (λs6 s7 wr=> ∃i:Nat,s7= .int .i64 i/\i<=s.length/\s6= .int .i64 (fC (s.take i):Nat)/\(s.take i).all dP=true/\wr=w) (λ_ v _=>s.length-(intOf v).toNat)
     case atStart=>exact⟨0,rfl,aP _,by simp[fC],by simp,rfl⟩
     case round=>
      obtain⟨i,rfl,hi,rfl,ha,rfl⟩:=hrel;have hv:=aax ha;rw[fq,wU hi]at hv;have hv2:fC (s.take i)<1000000:=jg hv (wV (by omega) (by omega:i<=6):10^i<=10^6);by_cases hlt:i<s.length
      ·have hnx:=aaw hlt
       obtain⟨x,hx⟩:=af (s.getD i 0)
       have hbx:(⟨s.toArray⟩:ByteArray)[i]'(by simpa [ByteArray.size] using hlt)=x:=by
        rw[<-hx];simp[ByteArray.getElem_eq_getElem_data,List.getD,hlt]
       have k0:(0:Int)<=(i:Int):=aF _;have k1:(i:Int)<(s.length:Int):=by omega
       obtain⟨v,hvv⟩:=af (fC (s.take i));rw[hvv]at hnx hv2⊢;rw[hx]at hnx;clear hb hc;by_cases hd:dP x=true
       ·have JG:=aay hlt ha (by rw[hx];exact hd)
        have hD:=hd;simp only[dP,bG,bX]at hD;have y1:decide ((x.toNat:Int)<48)=false:=aU (by omega);have y2:decide ((57:Int)<(x.toNat:Int))=false:=aU (by omega);have y3:decide ((x.toNat:Int)>57)=false:=y2;have HN:Hid (fC (s.take (i+1))=v*10+(x.toNat-48)/\(s.take (i+1)).all dP=true):=⟨hnx,JG⟩;clear hnx JG hx ha hd hv hvv
        go_wp2_with fail
        go_roundw
        case rel=>exact⟨i+1,by go_num,by omega,by rw[HN.out.1];go_num,HN.out.2,by first|rfl|trivial⟩
        case measure=>simp[intOf];omega
       ·have hn:s.all dP=false:=by
         rw[Bool.eq_false_iff];intro h;have:=qO.1 h (s[i]) (jO hlt);rw[<-hx]at hd;simp[List.getD,hlt]at hd;simp[this]at hd
        have HR:Hid (jV s=false/\o7 s=0):=by
         have h1:=xQ.out;rw[hn]at h1;exact⟨h1,by simp[o7,h1]⟩
        have hD:¬(48<=x.toNat/\x.toNat<=57):=by simpa [dP] using hd
        clear hnx hx ha hv hvv hn hd;by_cases h48:x.toNat<48
        ·have y1:decide ((x.toNat:Int)<48)=true:=aT (by omega)
         go_wp2_with fail
         refine aH (v:= .tuple #[.int .i64 0,.bool false]) (by simp[results,Tryz.results10,go_sem]) rfl ⟨by rw[HR.out.1,HR.out.2];rfl,rfl⟩
        ·have y1:decide ((x.toNat:Int)<48)=false:=aU (by omega)
         have y2:decide ((57:Int)<(x.toNat:Int))=true:=aT (by omega);have y3:decide ((x.toNat:Int)>57)=true:=y2
         go_wp2_with fail
         refine aH (v:= .tuple #[.int .i64 0,.bool false]) (by simp[results,Tryz.results10,go_sem]) rfl ⟨by rw[HR.out.1,HR.out.2];rfl,rfl⟩
      ·have hii:i=s.length:=by omega
       rw[hii,gH]at ha
       have HR:Hid (jV s=true/\o7 s=fC (s.take i)):=by
        have h1:=xQ.out;rw[ha]at h1;exact⟨h1,by simp[o7,h1,hii]⟩
       obtain⟨v,hvv⟩:=af (fC (s.take i));rw[hvv]at HR⊢;clear ha hv hv2 hii hvv hb hc
       go_wp2_with fail
       refine aH (v:= .tuple #[.int .i64 (v:Nat),.bool true]) (by simp[results,Tryz.results10,go_sem]) rfl ⟨by rw[HR.out.1,HR.out.2],rfl⟩
end
theorem aaA{d:Nat}(h:d<10):dP (UInt8.ofNat (48+d))=true/\(UInt8.ofNat (48+d)).toNat=48+d:=by
 have e:(UInt8.ofNat (48+d)).toNat=48+d:=by rw[UInt8.toNat_ofNat'];omega
 exact⟨by unfold dP;rw[e];simp;omega,e⟩
theorem aiJ{c:UInt8}(h:dP c=true):c=UInt8.ofNat (48+(c.toNat-48))/\c.toNat-48<10:=by
 simp only[dP,bG,bX]at h;refine⟨UInt8.toNat_inj.1 ?_,by omega⟩;rw[UInt8.toNat_ofNat'];omega
theorem aaB(l:List UInt8)(c:UInt8):fC (l++[c])=fC l*10+(c.toNat-48):=by simp[fC,List.foldl_append]
theorem aaC{a b:List UInt8}(h:0<a.length):(a++b).getD 0 0=a.getD 0 0:=by cases a<;>simp_all
theorem aaD:∀(k n:Nat),n<10^(k+1)->(Lib.decDigits n).all dP=true/\fC (Lib.decDigits n)=n/\1<=(Lib.decDigits n).length/\(Lib.decDigits n).length<=k+1/\(n≠0->(Lib.decDigits n).getD 0 0≠48)
 |k,n,h=>by
  by_cases h10:n<10
  ·obtain⟨h1,h2⟩:=aaA h10
   rw[Lib.decDigits_one h10];refine⟨by simpa using h1,by show 0*10+((UInt8.ofNat (48+n)).toNat-48)=n;rw[h2];omega,by simp,by simp,λh0 e=> ?_⟩;have e':UInt8.ofNat (48+n)=48:=by simpa using e
   rw[e']at h2;have:(48:UInt8).toNat=48:=rfl;omega
  ·cases k with
   |zero=>omega
   |succ k=>
    obtain⟨i1,i2,i3,i4,i5⟩:=aaD k (n/10) (by rw[Nat.pow_succ]at h;omega);obtain⟨h1,h2⟩:=aaA (d:=n%10) (by omega);rw[Lib.decDigits,dif_neg h10];refine⟨by rw[zZ,i1];simpa using h1,by rw[aaB,i2,h2];omega,by simp,by simp;omega,λ_=> ?_⟩;rw[aaC (by omega)];exact i5 (by omega)
theorem aaE:∀(k:Nat) (s:List UInt8),s.length=k->1<=k->s.all dP=true->(s.getD 0 0≠48\/k=1)->Lib.decDigits (fC s)=s/\(s.getD 0 0≠48->0<fC s)
 |0,s,_,h,_,_=>by omega
 |k+1,s,hl,_,ha,h0=>by
  obtain⟨t,c,rfl⟩:∃t c,s=t++[c]:=⟨s.dropLast,s.getLast (by intro e;simp[e]at hl),(List.dropLast_concat_getLast _).symm⟩;rw[zZ,bG]at ha;have hc:dP c=true:=by simpa using ha.2
  obtain⟨d1,d2⟩:=aiJ hc;rw[aaB];have hlt:t.length=k:=by simpa using hl
  cases k with
  |zero=>
   obtain rfl:t=[]:=List.length_eq_zero_iff.1 hlt;have e:fC []=0:=rfl;rw[e,Nat.zero_mul,eO,Lib.decDigits_one d2];refine⟨by rw[<-d1];rfl,λhh=> ?_⟩;simp only[dP,bG,bX]at hc;refine Nat.pos_of_ne_zero λe=>hh ?_;exact UInt8.toNat_inj.1 (show c.toNat=48 by omega)
  |succ k=>
   have e0:(t++[c]).getD 0 0=t.getD 0 0:=aaC (by omega);have hh:t.getD 0 0≠48:=by rw[e0]at h0;exact h0.resolve_right (by omega)
   obtain⟨i1,i2⟩:=aaE (k+1) t hlt (by omega) ha.1 (.inl hh);have i3:=i2 hh;have h10:¬fC t*10+(c.toNat-48)<10:=by omega
   refine⟨?_,λ_=>by omega⟩;rw[Lib.decDigits,dif_neg h10,show (fC t*10+(c.toNat-48))/10=fC t by omega,i1,show (fC t*10+(c.toNat-48))%10=c.toNat-48 by omega,<-d1]
theorem aiK{s:List UInt8}(h:s.all dP=true):fC s+1<=10^s.length:=by
 have key:∀(l:List UInt8) (n:Nat),l.all dP=true->l.foldl (λn c=>n*10+(c.toNat-48)) n+1<=(n+1)*10^l.length:=by
  intro l
  induction l with
  |nil=>intro n _;simp
  |cons c l ih=>
   intro n h;simp only[List.all_cons,bG,dP,bX]at h;have:=ih (n*10+(c.toNat-48)) h.2;rw[List.foldl_cons,List.length_cons,Nat.pow_succ];refine aZ this ?_;have h2:n*10+(c.toNat-48)+1<=(n+1)*10:=by omega
   have h3:=BM (10^l.length) h2;rw[Nat.mul_assoc,Nat.mul_comm 10]at h3;exact h3
 have:=key s 0 h;simpa [fC] using this
theorem aaF:∀(l:List UInt8) (k acc:Nat),l.all dP=true->acc<10^k->k+l.length<=18->Lib.parseUint10 acc l= .ok (l.foldl (λn c=>n*10+(c.toNat-48)) acc)
 | [],_,_,_,_,_=>rfl
 |c::l,k,acc,h,ha,hk=>by
  simp only[List.all_cons,bG,dP,bX]at h;simp only[List.length_cons]at hk;have hp:10^k<=10^17:=wV (by omega) (by omega);have hd:acc*10+(c.toNat-48)<10^(k+1):=by rw[Nat.pow_succ];omega
  rw[Lib.parseUint10,au h.1,aj (by omega),aj (by omega),List.foldl_cons];exact aaF l (k+1) _ (by simpa [dP] using h.2) hd (by omega)
theorem aiL(s:List UInt8):iC s=jV s/\(jV s=true->kH s=fC s):=by
 have fwd:iC s=true->jV s=true:=λh=>by
  unfold iC at h;split at h
  ·rename_i v hv
   simp only[bG,bX,beq_iff_eq]at h;obtain⟨⟨h1,h2⟩,h3⟩:=h;obtain⟨n,rfl⟩:=Int.eq_ofNat_of_zero_le h1;have e:s=Lib.decDigits n:=by rw[<-h3];exact Lib.itoa_nonneg n
   obtain⟨k1,k2,k3,k4,k5⟩:=aaD 5 n (by omega);rw[<-e]at k1 k2 k3 k4 k5
   have hz:(s.getD 0 0==48&&decide (1<s.length))=false:=by
    by_cases h0:n=0
    ·have:s.length=1:=by rw[e,h0,Lib.decDigits_one (by omega)];rfl
     simp[this]
    ·have:(s.getD 0 0==48)=false:=mI.2 (k5 h0)
     rw[this,Bool.false_and]
   unfold jV;rw[hz,k1,aT k3,aT (show s.length<=6 by omega)];rfl
  ·cases h
 have back:jV s=true->iC s=true/\kH s=fC s:=λh=>by
  simp only[jV,bG,bX,FE]at h;obtain⟨⟨⟨h1,h2⟩,h3⟩,h4⟩:=h
  have h0:s.getD 0 0≠48\/s.length=1:=by
   by_cases hl:s.length=1
   ·exact .inr hl
   ·refine .inl λe=> ?_
    rw[e,aT (show 1<s.length by omega)]at h3;cases h3
  obtain⟨e,-⟩:=aaE s.length s rfl h1 h4 h0;have hv:=aiK h4;have hp:10^s.length<=10^6:=wV (by omega) h2
  have ha:Lib.atoiAll s= .ok (fC s:Int):=by
   cases s with
   |nil=>simp at h1
   |cons c r=>
    have hc:dP c=true:=(qO.1 h4) c (by simp);simp only[dP,bG,bX]at hc
    have hm:Lib.parseMag (c::r)= .ok (fC (c::r)):=by
     unfold Lib.parseMag;rw[aj (by simp)];exact aaF (c::r) 0 0 h4 (by omega) (by omega)
    unfold Lib.atoiAll;simp only;rw[aj (by omega),hm];simp only;rw[aj (by omega),aj (by omega),aj (by omega)]
  unfold iC kH;rw[ha];refine⟨?_,rfl⟩;simp only[bG,bX,beq_iff_eq];exact⟨⟨by omega,by omega⟩,(Lib.itoa_nonneg _).trans e⟩
 refine⟨?_,λh=>(back h).2⟩;cases hr:jV s with
 |true=>exact(back hr).1
 |false=>
  rw[Bool.eq_false_iff];intro h;rw[fwd h]at hr;cases hr
theorem aiM(a0 a1 a2 a3 b0 b1 b2 d:Bool):a0=true\/(a0=false/\a1=true)\/(a0=false/\a1=false/\a2=true)\/(a0=false/\a1=false/\a2=false/\a3=true)\/(a0=false/\a1=false/\a2=false/\a3=false/\b0=true)\/(a0=false/\a1=false/\a2=false/\a3=false/\b0=false/\b1=true)\/(a0=false/\a1=false/\a2=false/\a3=false/\b0=false/\b1=false/\b2=false)\/(a0=false/\a1=false/\a2=false/\a3=false/\b0=false/\b1=false/\b2=true/\d=true)\/(a0=false/\a1=false/\a2=false/\a3=false/\b0=false/\b1=false/\b2=true/\d=false):=by
 cases a0<;>cases a1<;>cases a2<;>cases a3<;>cases b0<;>cases b1<;>cases b2<;>cases d<;>simp
section
variable{w w':World}{pb B:Nat}{rv:Value}{p:bW}{l:List UInt8}
theorem aiN(h:dZ w pb B rv p)(hl:l.length<=2000000)(ht:p.tx.length<=100000000)(hp:Lib.hasPrefix l [61,32]=false):Calls Tryz.prog 5 #[.pointer (some ⟨pb,0,none⟩),.string ⟨l.toArray⟩] w λe w'=> ∃o p' B' rv',dN p l p' o/\e= .returned (.string ⟨o.toArray⟩)/\dZ w' pb B' rv' p'/\But pb w w':=by
 have hx1:(⟨l.toArray⟩:ByteArray).extract 0 2=⟨(l.take 2).toArray⟩:=by rw[JF,om]
 obtain⟨-,-,-,c3,c4⟩:=h.cells;have hQ:=λp' o=>(dN.eq_1 p l p' o).mpr;simp only[hp,dO,bN]at hQ;have hpn:=aiE hp;have hpb:=h.below;have HH:Hid (dZ w pb B rv p/\l.length<=2000000/\p.tx.length<=100000000/\Lib.hasPrefix l [61,32]=false/\pb<w.heap.size):=⟨h,hl,ht,hp,hpb⟩;clear h ht hp hpb
 go_enter Tryz.func5,Tryz.ntmps5
 go_upto_region 1 with fail
 go_cut [20] from 13 to 19 (λs20 wx=>s20= .bool false/\wx=w)
 case first=>
  rcases hpn with h2|⟨h2,h3⟩
  ·have d1:decide ((2:Int)<=(l.length:Int))=false:=aU (by omega)
   have d2:decide (2<=l.length)=false:=aU (by omega)
   go_wp2_with fail
   go_meet
   case rel=>exact⟨rfl,rfl⟩
  ·have d1:decide ((2:Int)<=(l.length:Int))=true:=aT (by omega)
   have d2:decide (2<=l.length)=true:=aT h2;have q2:(2:Int)<=(l.length:Int):=by omega
   obtain⟨l2,hl2⟩:=af (l.take 2);rw[hl2]at hx1 h3;clear hl2
   go_wp2_with fail
   go_meet
   case rel=>exact⟨rfl,rfl⟩
 case rest=>
  obtain⟨rfl,hwc⟩:=hcut;subst hwc;clear hx1 hpn;by_cases h0:l=[102,114,101,115,104]
  ·have HQ:Hid (dN p l { p with tx:=[] } [111,107]):=hQ _ _ (by rw[au h0];exact⟨rfl,rfl⟩)
   have f3:=bO (i:=3) HH.out.1.at_;clear hQ hl;subst h0
   go_wp2_with fail
   go_ret;exact⟨_,_,B,rv,HQ.out,rfl,HH.out.1.text [],But.set _ _ _⟩
  by_cases h1:l=[116,97,107,101]
  ·have HQ:Hid (dN p l (vG p) (xC p)):=hQ _ _ (by rw[aj h0,au h1];exact⟨rfl,rfl⟩)
   clear hQ hl;have hk:=NV p.tx;have htx:=HH.out.2.2.1;unfold vG xC at HQ;cases hok:uI p.tx with
   |false=>
    simp only[hok,dO,bN]at HQ
    have pa:Calls Tryz.prog 8 #[.string ⟨p.tx.toArray⟩] wc λe w'=>e= .returned (.tuple #[.agg #[.int .i64 0,.int .i64 0,.slice none 0 0],.agg #[.int .i64 2,.int .i64 ((bU p.tx).2.1:Nat)]])/\Below wc.heap.size wc w':=by
     cases h5:(bU p.tx).2.2 with
     |false=>exact Tn (w:=wc) (by omega) h5
     |true=>exact Tm (w:=wc) (by omega) h5 (by unfold uI at hok;rw[h5,wN]at hok;exact hok)
    obtain⟨k,hkk⟩:=af ((bU p.tx).2.1);rw[hkk]at pa hk HQ;subst h1;clear hkk hok h0
    go_upto_region 9 with
     (go_at_call 8;refine pa.mono ?_;rintro e w2 ⟨rfl,h2⟩
      clear pa)
    obtain⟨q,W3,hq,hW,hx0,hx1,hb⟩:=Ka w2 (.int .i64 0) (.int .i64 0) (.slice none 0 0) (.int .i64 2) (.int .i64 (k:Int));rw[hW];rw[hq];have td:=Dn (u:=[98,97,100]) (x:=(k:Int)) (by simp) (by simp) ⟨by omega,by omega⟩ W3;have H3:Hid (Below wc.heap.size wc W3):=h2.trans (hb.mono h2.size);have u0:=ay (i:=0) hx1 rfl;have u1:=ay (i:=1) hx1 rfl;clear h2 hq hW hx0 hx1 hb
    go_wp2_with
     (go_at_call 7;refine td.mono ?_;rintro e w4 ⟨rfl,h4⟩
      have H4:Hid (Below wc.heap.size wc w4):=H3.out.trans (h4.mono H3.out.size)
      clear td h4)
    go_ret;exact⟨_,p,B,rv,HQ.out,rfl,HH.out.1.later H4.out,But.of pb H4.out⟩
   |true=>
    simp only[hok,bQ]at HQ;have pa:=Tk (w:=wc) (s:=p.tx) (by omega) hok
    have hm:aJ ((bU p.tx).1.1:Nat) ((bU p.tx).1.2.1:Nat) (bU p.tx).1.2.2=true:=by
     unfold uI at hok;simp only[bG]at hok;exact hok.2
    obtain⟨⟨⟨T,N,R⟩,k,z⟩,hall⟩:=af (bU p.tx);rw[hall]at pa hm HQ;simp only at pa hm HQ;have HM:Hid (aJ (T:Int) (N:Int) R=true):=hm;subst h1;clear hall hok hm hk h0
    go_upto_region 9 with
     (go_at_call 8;refine pa.mono ?_;rintro e w2 ⟨rv',rfl,hr2,h2⟩
      obtain⟨ra,rc,aI⟩:=hr2.at.1;subst aI
      clear pa)
    obtain⟨q,W3,hq,hW,hx0,hx1,hb⟩:=Ka w2 (.int .i64 (T:Int)) (.int .i64 (N:Int)) (.slice ra R.length rc) (.int .i64 0) (.int .i64 0);rw[hW];rw[hq];have hb3:=h2.trans (hb.mono h2.size);have tk:=aar (T:=T) (N:=N) (HH.out.1.later hb3) (hr2.on (ah _) hb.size λk _ hk=>hb.block k hk) HH.out.2.2.2.2 HM.out;have H3:Hid (But pb wc W3):=But.of pb hb3;have u0:=ay (i:=0) hx0 rfl;have u1:=ay (i:=1) hx0 rfl;have u2:=ay (i:=2) hx0 rfl;have v0:=ay (i:=0) hx1 rfl;clear h2 hq hW hx0 hx1 hb hb3 hr2
    go_wp2_with
     (go_at_call 9;refine tk.mono ?_;rintro e w4 ⟨rfl,h4,h5⟩
      have H4:Hid (dZ w4 pb wc.heap.size (.slice ra R.length rc) ⟨p.tx,T,N,R⟩/\But pb W3 w4):=⟨h4,h5⟩
      clear tk h4 h5)
    go_ret;exact⟨_,_,_,_,HQ.out,rfl,H4.out.1,H3.out.trans H4.out.2⟩
  have q0:(l==[102,114,101,115,104])=false:=mI.2 h0;have q1:(l==[116,97,107,101])=false:=mI.2 h1;have HL:Hid (Nj l):=⟨HH.out.2.2.2.1,h0,h1⟩;have sp:=aau wc l 32 hl;clear hQ h0 h1
  go_wp2_with
   (go_at_call 4;refine sp.mono ?_;rintro e w2 ⟨v,rfl,hO,hB2⟩
    clear sp)
  have hne:=RO 32 l;have yE:=Ni 32 l;have hhd:(splitB 32 l).getD 0 []=kD l:=by unfold kD;cases splitB 32 l<;>rfl
  obtain⟨P,hP⟩:=af (splitB 32 l);rw[hP]at hO hne yE hhd;obtain⟨n,hn⟩:=af P.length
  have hn1:1<=n:=by
   rw[<-hn];exact FL.2 hne
  rw[hn]at hO yE;obtain⟨g,cap,rfl,_,_⟩:=hO.form (by omega)
  have HC:Hid (∀wq,Below w2.heap.size w2 wq->∀j,j<n->wq.cell? ⟨g,j,none⟩=some (.string ⟨(P.getD j []).toArray⟩)):=λwq hq j hj=>by
   rw[hq.cell (hO.lt g rfl).2,hO.cellAt j (by omega)];simp[wM,List.getD,hn,hj]
  have HP:Hid (splitB 32 l=P/\P.length=n/\P.getD 0 []=kD l/\Below wc.heap.size wc w2):=⟨hP,hn,hhd,hB2⟩;clear hne hO hP hn hhd hB2
  go_loopw [8,9] (λv8 v9 wr=> ∃(i:Nat) (lv:Value) (A:List Int),lv=v8/\v9= .int .i64 i/\1<=i/\i<=n/\lm (P.tail.take (i-1))=some A/\A.length=i-1/\wr.ownsRow w2.heap.size 3 1 lv A.length (A.map (Value.int .i64))/\Below w2.heap.size w2 wr) (λ_ v _=>n-(intOf v).toNat)
  case atStart=>exact⟨1,_,[],rfl,rfl,ah _,hn1,rfl,rfl,ji ..,ai _ _⟩
  case round=>
   obtain⟨i,lv,A,rfl,rfl,hi1,hi,hA,Nl,hO,hB⟩:=hrel;obtain⟨la,lc,hlv⟩:=cO hO;subst hlv;have HO:Hid (wr.ownsRow w2.heap.size 3 1 (.slice la A.length lc) A.length (A.map (Value.int .i64))/\Below w2.heap.size w2 wr/\Below wc.heap.size wc wr):=⟨hO,hB,HP.out.2.2.2.trans (hB.mono HP.out.2.2.2.size)⟩;by_cases hlt:i<n
   ·have d1:decide ((i:Int)<(n:Int))=true:=aT (by omega)
    have cw:=HC.out wr hB i hlt;have hj:i-1<P.tail.length:=by rw[List.length_tail,HP.out.2.1];omega
    have hu:P.tail[i-1]=P.getD i []:=by
     rw[List.getElem_tail];simp[List.getD,HP.out.2.1,hlt,show i-1+1=i by omega]
    have htk:P.tail.take i=P.tail.take (i-1)++[P.getD i []]:=by
     have:=fT hj;rw[hu,show i-1+1=i by omega]at this;exact this
    have hmem:P.getD i []∈P.tail:=by rw[<-hu];exact jO hj
    obtain⟨u,RX⟩:=af (P.getD i []);rw[RX]at cw htk hmem;have nb:=aiI (s:=u) wr;obtain⟨r1,r2⟩:=aiL u;have j0:(0:Int)<=(i:Int):=by omega
    have j1:(i:Int)<(n:Int):=by omega
    cases hk:jV u with
    |false=>
     rw[hk]at nb r1;have HQ:Hid (dN p l p [63]):=aiG HL.out (by rw[HP.out.1];exact aip hmem r1);clear hO hB hA Nl hj hu htk hmem RX r1 r2 hk
     go_wp2_with
      (go_at_call 10;refine nb.mono ?_;rintro e w3 ⟨rfl,h3⟩
       obtain rfl:wr=w3:=h3.symm
       clear nb)
     go_ret;exact⟨_,p,B,rv,HQ.out,rfl,HH.out.1.later HO.out.2.2,But.of pb HO.out.2.2⟩
    |true=>
     rw[hk]at nb r1;have hV:o7 u=fC u:=by unfold o7;rw[au hk]
     have HA:Hid (lm (P.tail.take i)=some (A++[(fC u:Int)])/\A.length=i-1):=by
      refine⟨?_,Nl⟩;rw[htk,aal,hA];simp only[Option.bind_some,r1,bQ,r2 hk]
     rw[hV]at nb;obtain⟨x,hx⟩:=af (fC u);rw[hx]at nb HA;obtain⟨i5,hi5,kW,kX,lY⟩:=fK Tryz.infoIntD;have bV:=HO.out.1.alloc (.cells #[.int .i64 (x:Int)] 3);have hb5:w2.heap.size<=(wr.alloc (.cells #[.int .i64 (x:Int)] 3)).heap.size:=by have:=HO.out.2.1.size;simp;omega
     have hnw:=jh (cs:= #[.int .i64 (x:Int)]) (t:=3) (fr:=(0,0)) (heap_alloc_new wr (.cells #[.int .i64 (x:Int)] 3));have gP:Hid (Below w2.heap.size w2 (wr.alloc (.cells #[.int .i64 (x:Int)] 3))):=HO.out.2.1.alloc HO.out.2.1.size _;have m1:A.length+1<=maxLen:=by unfold maxLen;omega
     have m2:(A.length+1)*8<=140737488355328:=by omega
     clear hO hB hA Nl hj hu htk hmem RX r1 r2 hk hV hx
     go_wp2_with
      (first
       |(go_at_call 10;refine nb.mono ?_;rintro e w3 ⟨rfl,h3⟩
         obtain rfl:wr=w3:=h3.symm
         clear nb)
       |(at_builtin
         refine ow _ rfl _ _ _ rfl w2.heap.size 3 i5 _ 1 8 Tryz.underlying39 hi5 kW kX lY rfl (by omega) (.slice la A.length lc) A.length (A.map (Value.int .i64)) rfl bV
          ⟨wr.heap.size,0,none⟩ 1 1 [.int .i64 (x:Int)] rfl rfl hnw (by simp[Value.oneCell']) (by omega) m1 m2 hb5 (wr.heap.size+1) (by simp) ?_
         intro g9 pJ w9 kG iX qX sQ;have H9:Hid (w9.ownsRow w2.heap.size 3 1 (.slice (some ⟨g9,0,none⟩) (A.length+1) pJ) (A.length+1) (A.map (Value.int .i64)++[.int .i64 (x:Int)])/\Below w2.heap.size w2 w9):=⟨kG,gP.out.grown iX hb5 λk hk=>(bV.lt k hk).1⟩
         clear kG iX qX sQ bV hb5 hnw hi5 kW kX lY m1 m2))
     go_roundw
     case rel=>
      refine⟨i+1,_,A++[(x:Int)],rfl,by go_num,by omega,by omega,by rw[Nat.add_sub_cancel];exact HA.out.1,by rw[aS,HA.out.2];simp;omega,?_,H9.out.2⟩;have:=H9.out.1;simpa using this
     case measure=>simp[intOf];omega
   ·have d1:decide ((i:Int)<(n:Int))=false:=aU (by omega)
    have hw:lm (splitB 32 l).tail=some A:=by
     rw[HP.out.1];rw[pG (by rw[List.length_tail,HP.out.2.1];omega)]at hA;exact hA
    have HW:Hid (lm (splitB 32 l).tail=some A):=hw;have cw:=HC.out wr hB 0 (by omega);rw[HP.out.2.2.1]at cw;have ha0:(0:Int)<(n:Int):=by omega
    have hli:=NP hO;have hP1:=HH.out.1.later HO.out.2.2;obtain⟨-,-,-,-,d4⟩:=hP1.cells;have HE:Hid (dZ wr pb B rv p/\aY wr wr.heap.size (.slice la A.length lc) A):=⟨hP1,hli⟩;obtain⟨a0,e0⟩:=af ((l==[115,101,116,115]));obtain⟨a1,e1⟩:=af ((l==[115,104,111,114,116]));obtain⟨a2,e2⟩:=af ((l==[116,97,98,108,101]));obtain⟨a3,e3⟩:=af ((l==[115,104,111,119]));obtain⟨W0,hW0⟩:=af (kD l);obtain⟨b0,e4⟩:=af ((W0==[104,97,115]));obtain⟨b1,e5⟩:=af ((W0==[112,97,114,115,101]));obtain⟨b2,e6⟩:=af ((W0==[115,116,101,112]));obtain⟨d,e7⟩:=af ((A.length==4))
    have e8:((A.length:Int)==4)=d:=by
     rw[<-e7,Bool.eq_iff_iff,beq_iff_eq,beq_iff_eq];omega
    have HK:Hid (Dp l A=(a0||a1||a2||a3||b0||b1||b2&&d)):=by
     show _=_;unfold Dp;rw[hW0,e0,e1,e2,e3,e4,e5,e6,e7]
    have HW0:Hid (kD l=W0):=hW0;rw[hW0]at cw;clear hO hB hA hw hli hP1 e7 hW0 Nl
    go_upto_region 21 with fail
    go_cut [12] from 86 to 122 (λs12 wx=>s12= .bool (Dp l A)/\wx=wr)
    case first=>
     rcases aiM a0 a1 a2 a3 b0 b1 b2 d with rfl|⟨rfl,rfl⟩|⟨rfl,rfl,rfl⟩|⟨rfl,rfl,rfl,rfl⟩|⟨rfl,rfl,rfl,rfl,rfl⟩|⟨rfl,rfl,rfl,rfl,rfl,rfl⟩|⟨rfl,rfl,rfl,rfl,rfl,rfl,rfl⟩|⟨rfl,rfl,rfl,rfl,rfl,rfl,rfl,rfl⟩|⟨rfl,rfl,rfl,rfl,rfl,rfl,rfl,rfl⟩
     all_goals
      go_wp2_with fail
      go_meet
      case rel=>exact⟨by rw[HK.out];simp,rfl⟩
    case rest=>
     obtain⟨rfl,hwx⟩:=hcut;subst hwx;clear e0 e1 e2 e3 e4 e5 e6 e8 HK;rcases aav (p:=p) HL.out HW.out with⟨k1,k2⟩|⟨k1,k2,-⟩
     ·rw[k1]
      have HQ:Hid (dN p l p [63]):=k2;clear k1 k2
      go_wp2_with fail
      go_ret;exact⟨_,p,B,rv,HQ.out,rfl,HE.out.1,But.of pb HO.out.2.2⟩
     ·rw[k1]
      by_cases hN:p.N=0
      ·rw[aU (show ¬0<p.N by omega)]at d4
       have HQ:Hid (dN p l p [110,111,110,101]):=k2 hN;clear k1 k2 hN
       go_wp2_with fail
       go_ret;exact⟨_,p,B,rv,HQ.out,rfl,HE.out.1,But.of pb HO.out.2.2⟩
      ·rw[aT (show 0<p.N by omega)]at d4
       have ak:=aiH HE.out.1 hN HE.out.2 HL.out HW.out k1;rw[HW0.out]at ak;clear k1 k2 hN
       go_wp2_with
        (go_at_call 11;refine ak.mono ?_;rintro e w5 ⟨o,p',B',rv',h1,rfl,h2,h3⟩
         have H5:Hid (dN p l p' o/\dZ w5 pb B' rv' p'/\But pb _ w5):=⟨h1,h2,(But.of pb HO.out.2.2).trans h3⟩
         clear ak h1 h2 h3)
       go_ret;exact⟨o,p',B',rv',H5.out.1,rfl,H5.out.2.1,H5.out.2.2⟩
theorem aiO(h:dZ w pb B rv p)(hl:l.length<=2000000)(ht:p.tx.length<=100000000):Calls Tryz.prog 5 #[.pointer (some ⟨pb,0,none⟩),.string ⟨l.toArray⟩] w λe w'=> ∃o p' B' rv',dN p l p' o/\e= .returned (.string ⟨o.toArray⟩)/\dZ w' pb B' rv' p'/\But pb w w':=by
 cases hp:Lib.hasPrefix l [61,32] with
 |false=>exact aiN h hl ht hp
 |true=>exact(aiF h hl ht hp).mono λe w' ⟨h1,h2,h3⟩=>⟨_,_,B,rv,by unfold dN;rw[au hp];exact⟨rfl,rfl⟩,h1,h2,h3⟩
end
def yG(p:bW)(l:List UInt8)(p':bW)(o:List UInt8):Prop:=match lZ l with
 |none=>p'=p/\o=[63]
 |some (u,A)=>
  if u=[104,97,115] then jN p (kS p A) p' o
  else if u=[112,97,114,115,101] then jN p (nC p A) p' o
  else if u=[115,116,101,112]/\A.length=4 then (if p.N=0 then p'=p/\o=[110,111,110,101] else p'=kC p ⟨A.getD 0 0,A.getD 1 0,A.getD 2 0,A.getD 3 0⟩/\o=kV p ⟨A.getD 0 0,A.getD 1 0,A.getD 2 0,A.getD 3 0⟩)
  else p'=p/\o=[63]
section
variable{w w':World}{pb B G:Nat}{rv:Value}{p:bW}{l:List UInt8}
theorem aiP{la:Option Addr}{lc:Nat}{a0 a1 a2 a3:Int}(h:aY w w.heap.size (.slice la 4 lc) [a0,a1,a2,a3]):∃b o,la=some ⟨b,o,none⟩/\w.cell? ⟨b,o,none⟩=some (.int .i64 a0)/\w.cell? ⟨b,o+1,none⟩=some (.int .i64 a1)/\w.cell? ⟨b,o+2,none⟩=some (.int .i64 a2)/\w.cell? ⟨b,o+3,none⟩=some (.int .i64 a3):=by
 obtain⟨b,o,c,h1,_,h2⟩:=h.2 0 (by simp);obtain rfl:la=some ⟨b,o,none⟩:=by injection h1
 have key:∀j,j<4->w.cell? ⟨b,o+j,none⟩=some (.int .i64 ([a0,a1,a2,a3].getD j 0)):=λj hj=>by
  obtain⟨b',o',c',k1,_,k2⟩:=h.2 j (by simpa using hj);injection k1 with k1;injection k1 with k1;injection k1 with k3 k4;subst k3 k4;exact k2
 exact⟨b,o,rfl,key 0 (by omega),key 1 (by omega),key 2 (by omega),key 3 (by omega)⟩
theorem aiQ(h:bR w pb B rv p)(hE:dR G w)(hG:G<=pb)(hs:l.length<=281474976710656):Calls Tryz.prog 39 #[.pointer (some ⟨pb,0,none⟩),.string ⟨l.toArray⟩] w λe w'=> ∃v,e= .returned v/\iP w' v pb B rv p (yG p l)/\Below w.heap.size w w':=by
 have hpb:=h.below;obtain⟨W1,hW1⟩:=af (w.alloc (.cells #[.pointer (some ⟨pb,0,none⟩)] 87));have hB1:Below w.heap.size w W1:=by rw[<-hW1];exact(ai _ _).alloc (ah _) _
 have hx1:=heap_alloc_new w (.cells #[.pointer (some ⟨pb,0,none⟩)] 87);rw[hW1]at hx1;obtain⟨b2,hb2⟩:=af w.heap.size;rw[hb2]at hx1
 have HS:Hid (∀wq,Below W1.heap.size W1 wq->wq.heap[b2]?=some (.cells #[.pointer (some ⟨pb,0,none⟩)] 87 (0,0))/\bR wq pb B rv p/\dR G wq/\Below w.heap.size w wq):=λwq hq=>
  ⟨(hq.block _ (dx.1 hx1).1).trans hx1,(h.later hB1).later hq,(hE.below hB1 (by omega)).below hq (by have:=hB1.size;omega),hB1.trans (hq.mono hB1.size)⟩
 have HW:Hid (w.alloc (.cells #[.pointer (some ⟨pb,0,none⟩)] 87)=W1/\w.heap.size=b2):=⟨hW1,hb2⟩;have HG:Hid (G<=pb/\(p.N=0\/aJ p.T p.N p.R=true)):=⟨hG,h.good⟩;have rn:=abp (w:=W1) (s:=l) hs (hE.below hB1 (by omega)) (by have:=hB1.size;omega);clear h hE hB1 hx1 hW1 hb2 hs;cases hR:lZ l with
 |none=>
  have o8:Calls Tryz.prog 69 #[.string ⟨l.toArray⟩] W1 λe w'=>e= .returned (.tuple #[.string ⟨#[]⟩,.slice none 0 0,.bool false])/\Below W1.heap.size W1 w':=rn.mono λe w' h=>by
   rcases h with⟨u,A,lv,h1,_⟩|⟨_,h2,h3⟩
   ·rw[hR]at h1;cases h1
   ·exact⟨h2,h3⟩
  have HQ:Hid (∀p' o,(p'=p/\o=[63])->yG p l p' o):=λp' o hh=>by unfold yG;rw[hR];exact hh
  clear rn hR
  go_enter Tryz.func39,Tryz.ntmps39
  go_upto_region 1 with fail
  rw[HW.out.1];rw[HW.out.2]
  go_wp2_with
   (go_at_call 69;refine o8.mono ?_;rintro e w2 ⟨rfl,h2⟩
    have H2:Hid (Below W1.heap.size W1 (w2.alloc (.cells #[.slice none 0 0] 39))):=h2.alloc h2.size _
    clear o8 h2)
  go_ret;obtain⟨-,k1,-,k3⟩:=HS.out _ H2.out;exact⟨_,rfl,(RN k1).mono HQ.out,k3⟩
 |some uA=>
  obtain⟨u,A⟩:=uA
  have o8:Calls Tryz.prog 69 #[.string ⟨l.toArray⟩] W1 λe w'=> ∃la lc,e= .returned (.tuple #[.string ⟨u.toArray⟩,.slice la A.length lc,.bool true])/\w'.ownsRow W1.heap.size 3 1 (.slice la A.length lc) A.length (A.map (Value.int .i64))/\Below W1.heap.size W1 w':=rn.mono λe w' h=>by
   rcases h with⟨u',A',lv,h1,h2,h3,h4⟩|⟨h1,_⟩
   ·rw[hR]at h1
    injection h1 with h1;injection h1 with h1 h1';subst h1 h1';obtain⟨la,lc,hlv⟩:=cO h3;subst hlv;exact⟨la,lc,h2,h3,h4⟩
   ·rw[hR]at h1;cases h1
  have hQ:∀p' o,yG p l p' o↔(if u=[104,97,115] then jN p (kS p A) p' o
   else if u=[112,97,114,115,101] then jN p (nC p A) p' o
   else if u=[115,116,101,112]/\A.length=4 then (if p.N=0 then p'=p/\o=[110,111,110,101] else p'=kC p ⟨A.getD 0 0,A.getD 1 0,A.getD 2 0,A.getD 3 0⟩/\o=kV p ⟨A.getD 0 0,A.getD 1 0,A.getD 2 0,A.getD 3 0⟩)
   else p'=p/\o=[63]):=λp' o=>by unfold yG;rw[hR]
  clear rn hR
  have HF:Hid (∀w2 la lc,w2.ownsRow W1.heap.size 3 1 (.slice la A.length lc) A.length (A.map (Value.int .i64))->Below W1.heap.size W1 w2->∃W3 b6,w2.alloc (.cells #[.slice la A.length lc] 39)=W3/\w2.heap.size=b6/\Below W1.heap.size W1 W3/\W3.heap[b6]?=some (.cells #[.slice la A.length lc] 39 (0,0))/\aY W3 W3.heap.size (.slice la A.length lc) A):=λw2 la lc ho hb=>
   ⟨_,_,rfl,rfl,hb.alloc hb.size _,heap_alloc_new w2 _,(NP ho).boxed _⟩
  by_cases hu1:u=[104,97,115]
  ·subst hu1
   have HQ:Hid (∀p' o,jN p (kS p A) p' o->yG p l p' o):=λp' o hh=>(hQ p' o).2 (by rw[au rfl];exact hh);clear hQ;by_cases hN:p.N=0
   ·skip
    go_enter Tryz.func39,Tryz.ntmps39
    go_upto_region 1 with fail
    rw[HW.out.1];rw[HW.out.2]
    go_upto_region 2 with
     (go_at_call 69;refine o8.mono ?_;rintro e w2 ⟨la,lc,rfl,h2,h3⟩
      clear o8)
    obtain⟨W3,b6,hW3,hb6,hB3,hx3,hL3⟩:=HF.out w2 la lc h2 h3;rw[hW3];rw[hb6];obtain⟨k0,k1,k2,k3⟩:=HS.out W3 hB3;have og:=Nf (f:= .func 70) (bs:= #[]) (cs:= #[.pointer (some ⟨b2,0,none⟩),.pointer (some ⟨b6,0,none⟩)]) k1 hN;have c2:=ay (i:=0) k0 rfl;have H3:Hid (bR W3 pb B rv p/\Below w.heap.size w W3/\p.N=0):=⟨k1,k3,hN⟩;clear h2 h3 hW3 hb6 hB3 hx3 hL3 k0 k1 k2 k3 hN
    go_wp2_with
     (go_at_call 34;refine og.mono ?_;rintro e w4 ⟨rfl,h4⟩
      obtain rfl:W3=w4:=h4.symm
      clear og)
    go_ret;exact⟨_,rfl,(Nc H3.out.1).mono λp' o hh=>HQ.out p' o ⟨hh.1,by rw[au H3.out.2.2];exact hh.2⟩,H3.out.2.1⟩
   ·have hm:=HG.out.2.resolve_left hN
    go_enter Tryz.func39,Tryz.ntmps39
    go_upto_region 1 with fail
    rw[HW.out.1];rw[HW.out.2]
    go_upto_region 2 with
     (go_at_call 69;refine o8.mono ?_;rintro e w2 ⟨la,lc,rfl,h2,h3⟩
      clear o8)
    obtain⟨W3,b6,hW3,hb6,hB3,hx3,hL3⟩:=HF.out w2 la lc h2 h3;rw[hW3];rw[hb6];obtain⟨k0,k1,k2,k3⟩:=HS.out W3 hB3;have og:=Ng (f:= .func 70) (bs:= #[]) (cs:= #[.pointer (some ⟨b2,0,none⟩),.pointer (some ⟨b6,0,none⟩)]) k1 hN;have c2:=ay (i:=0) k0 rfl;have hd:=aii k1 k2 HG.out.1 hm hL3 k0 hx3;have H3:Hid (iP W3 (.func (.func 70) #[] #[.pointer (some ⟨b2,0,none⟩),.pointer (some ⟨b6,0,none⟩)]) pb B rv p (λp' o=>p'=p/\kS p A o)/\Below w.heap.size w W3/\p.N≠0):=⟨hd,k3,hN⟩;clear h2 h3 hW3 hb6 hB3 hx3 hL3 k0 k1 k2 k3 hN hd hm
    go_wp2_with
     (go_at_call 34;refine og.mono ?_;rintro e w4 ⟨rfl,h4⟩
      obtain rfl:W3=w4:=h4.symm
      clear og)
    go_ret;exact⟨_,rfl,H3.out.1.mono λp' o hh=>HQ.out p' o ⟨hh.1,by rw[aj H3.out.2.2];exact hh.2⟩,H3.out.2.1⟩
  ·have q1:(u==[104,97,115])=false:=mI.2 hu1
   by_cases hu2:u=[112,97,114,115,101]
   ·subst hu2
    have HQ:Hid (∀p' o,jN p (nC p A) p' o->yG p l p' o):=λp' o hh=>(hQ p' o).2 (by rw[aj hu1,au rfl];exact hh);clear hQ hu1;by_cases hN:p.N=0
    ·skip
     go_enter Tryz.func39,Tryz.ntmps39
     go_upto_region 1 with fail
     rw[HW.out.1];rw[HW.out.2]
     go_upto_region 2 with
      (go_at_call 69;refine o8.mono ?_;rintro e w2 ⟨la,lc,rfl,h2,h3⟩
       clear o8)
     obtain⟨W3,b6,hW3,hb6,hB3,hx3,hL3⟩:=HF.out w2 la lc h2 h3;rw[hW3];rw[hb6];obtain⟨k0,k1,k2,k3⟩:=HS.out W3 hB3;have og:=Nf (f:= .func 72) (bs:= #[]) (cs:= #[.pointer (some ⟨b2,0,none⟩),.pointer (some ⟨b6,0,none⟩)]) k1 hN;have c2:=ay (i:=0) k0 rfl;have H3:Hid (bR W3 pb B rv p/\Below w.heap.size w W3/\p.N=0):=⟨k1,k3,hN⟩;clear h2 h3 hW3 hb6 hB3 hx3 hL3 k0 k1 k2 k3 hN
     go_wp2_with
      (go_at_call 34;refine og.mono ?_;rintro e w4 ⟨rfl,h4⟩
       obtain rfl:W3=w4:=h4.symm
       clear og)
     go_ret;exact⟨_,rfl,(Nc H3.out.1).mono λp' o hh=>HQ.out p' o ⟨hh.1,by rw[au H3.out.2.2];exact hh.2⟩,H3.out.2.1⟩
    ·have hm:=HG.out.2.resolve_left hN
     go_enter Tryz.func39,Tryz.ntmps39
     go_upto_region 1 with fail
     rw[HW.out.1];rw[HW.out.2]
     go_upto_region 2 with
      (go_at_call 69;refine o8.mono ?_;rintro e w2 ⟨la,lc,rfl,h2,h3⟩
       clear o8)
     obtain⟨W3,b6,hW3,hb6,hB3,hx3,hL3⟩:=HF.out w2 la lc h2 h3;rw[hW3];rw[hb6];obtain⟨k0,k1,k2,k3⟩:=HS.out W3 hB3;have og:=Ng (f:= .func 72) (bs:= #[]) (cs:= #[.pointer (some ⟨b2,0,none⟩),.pointer (some ⟨b6,0,none⟩)]) k1 hN;have c2:=ay (i:=0) k0 rfl;have hd:=aij k1 k2 HG.out.1 hm hL3 k0 hx3;have H3:Hid (iP W3 (.func (.func 72) #[] #[.pointer (some ⟨b2,0,none⟩),.pointer (some ⟨b6,0,none⟩)]) pb B rv p (λp' o=>p'=p/\nC p A o)/\Below w.heap.size w W3/\p.N≠0):=⟨hd,k3,hN⟩;clear h2 h3 hW3 hb6 hB3 hx3 hL3 k0 k1 k2 k3 hN hd hm
     go_wp2_with
      (go_at_call 34;refine og.mono ?_;rintro e w4 ⟨rfl,h4⟩
       obtain rfl:W3=w4:=h4.symm
       clear og)
     go_ret;exact⟨_,rfl,H3.out.1.mono λp' o hh=>HQ.out p' o ⟨hh.1,by rw[aj H3.out.2.2];exact hh.2⟩,H3.out.2.1⟩
   ·have q2:(u==[112,97,114,115,101])=false:=mI.2 hu2
    by_cases hu3:u=[115,116,101,112]
    ·subst hu3
     by_cases hA:A.length=4
     ·obtain⟨a0,a1,a2,a3,rfl⟩:∃a0 a1 a2 a3,A=[a0,a1,a2,a3]:=by
       match A,hA with
       | [a0,a1,a2,a3],_=>exact⟨a0,a1,a2,a3,rfl⟩
      have HQ:Hid (∀p' o,(if p.N=0 then p'=p/\o=[110,111,110,101] else p'=kC p ⟨a0,a1,a2,a3⟩/\o=kV p ⟨a0,a1,a2,a3⟩)->yG p l p' o):=λp' o hh=>(hQ p' o).2 (by rw[aj hu1,aj hu2,au ⟨rfl,rfl⟩];exact hh);clear hQ hu1 hu2 hA
      go_enter Tryz.func39,Tryz.ntmps39
      go_upto_region 1 with fail
      rw[HW.out.1];rw[HW.out.2]
      go_upto_region 2 with
       (go_at_call 69;refine o8.mono ?_;rintro e w2 ⟨la,lc,rfl,h2,h3⟩
        clear o8)
      obtain⟨W3,b6,hW3,hb6,hB3,hx3,hL3⟩:=HF.out w2 la lc h2 h3;have aaG:w2.alloc (.cells #[.slice la 4 lc] 39)=W3:=hW3;rw[aaG];rw[hb6];obtain⟨b,o,rfl,e0,e1,e2,e3⟩:=aiP hL3;have c6:W3.cell? ⟨b6,0,none⟩=some (.slice (some ⟨b,o,none⟩) 4 lc):=ay (i:=0) hx3 rfl;obtain⟨k0,k1,k2,k3⟩:=HS.out W3 hB3;have c2:=ay (i:=0) k0 rfl;have H3:Hid (Below W1.heap.size W1 W3):=hB3;clear h2 h3 hW3 aaG hb6 hB3 hx3 hL3 k0 k1 k2 k3
      go_wp2_with fail
      obtain⟨Wd,hWd⟩:=af W3.drew;have hBd:Below W3.heap.size W3 Wd:=by rw[<-hWd];exact(ai _ _).drew
      have gM:Hid (∀wq,Below W3.heap.size W3 wq->wq.cell? ⟨b6,0,none⟩=some (.slice (some ⟨b,o,none⟩) 4 lc)/\wq.cell? ⟨b,o,none⟩=some (.int .i64 a0)/\wq.cell? ⟨b,o+1,none⟩=some (.int .i64 a1)/\wq.cell? ⟨b,o+2,none⟩=some (.int .i64 a2)/\wq.cell? ⟨b,o+3,none⟩=some (.int .i64 a3)):=λwq hq=>
       ⟨(hq.cell (aQ _ _ c6)).trans c6,(hq.cell (aQ _ _ e0)).trans e0,(hq.cell (aQ _ _ e1)).trans e1,(hq.cell (aQ _ _ e2)).trans e2,(hq.cell (aQ _ _ e3)).trans e3⟩
      have dz:Hid (Below W3.heap.size W3 Wd):=hBd;clear c6 e0 e1 e2 e3 hBd;refine mK [0,1,2,3,4,5,6,7,8,9,10,11,12] 2 14 (λwq=>wq.cell? ⟨b6,0,none⟩=some (.slice (some ⟨b,o,none⟩) 4 lc)/\wq.cell? ⟨b,o,none⟩=some (.int .i64 a0)/\wq.cell? ⟨b,o+1,none⟩=some (.int .i64 a1)/\wq.cell? ⟨b,o+2,none⟩=some (.int .i64 a2)/\wq.cell? ⟨b,o+3,none⟩=some (.int .i64 a3)) (by kernel_rfl) (by kernel_rfl) (by rw[hWd];exact gM.out Wd dz.out) ?_;rw[hWd];clear hWd
      iterate 13
       refine aW.yT (v:= ?_) rfl (by rfl) ?_ ?_;rotate_left
       ·intro w' hSw
        obtain⟨z0,z1,z2,z3,z4⟩:=hSw
        go_simp
        try with_reducible rfl
       simp only[Act.put,eB,List.set_cons_zero,List.set_cons_succ]
      rw[aW];refine aC.one (i:=13) (by kernel_rfl) ⟨_,rfl,λK hK=> ?_⟩
      go_simp
      refine hK.out _ _ (λ_=>gM.out (Wd.alloc (.cells #[.int .i64 0,.int .i64 0,.int .i64 0,.int .i64 0] 86)) (dz.out.alloc dz.out.size _)) ?_;clear hK;refine aC.last (i:=14) (by kernel_rfl) ⟨_,rfl,λK hK=> ?_⟩
      go_simp
      refine hK.out _ _ (λh=>absurd h (by omega)) (NoPanic.normal ?_);clear hK;obtain⟨W5,jX⟩:=af (Wd.alloc (.cells #[.int .i64 a0,.int .i64 a1,.int .i64 a2,.int .i64 a3] 86));have hx5:=heap_alloc_new Wd (.cells #[.int .i64 a0,.int .i64 a1,.int .i64 a2,.int .i64 a3] 86);rw[jX]at hx5;have hb5:Below W3.heap.size W3 W5:=by rw[<-jX];exact dz.out.alloc dz.out.size _
      obtain⟨b8,xw⟩:=af Wd.heap.size;rw[xw]at hx5;rw[jX];rw[xw];obtain⟨k0,k1,k2,k3⟩:=HS.out W5 (H3.out.trans (hb5.mono H3.out.size));clear c2;have c2:=ay (i:=0) k0 rfl;by_cases hN:p.N=0
      ·have og:=Nf (f:= .func 74) (bs:= #[]) (cs:= #[.pointer (some ⟨b2,0,none⟩),.pointer (some ⟨b8,0,none⟩)]) k1 hN
       have H5:Hid (bR W5 pb B rv p/\Below w.heap.size w W5/\p.N=0):=⟨k1,k3,hN⟩;clear jX hx5 hb5 xw k0 k1 k2 k3 hN
       go_wp2_with
        (go_at_call 34;refine og.mono ?_;rintro e w6 ⟨rfl,h6⟩
         obtain rfl:W5=w6:=h6.symm
         clear og)
       go_ret;exact⟨_,rfl,(Nc H5.out.1).mono λp' o hh=>HQ.out p' o (by rw[au H5.out.2.2];exact hh),H5.out.2.1⟩
      ·have og:=Ng (f:= .func 74) (bs:= #[]) (cs:= #[.pointer (some ⟨b2,0,none⟩),.pointer (some ⟨b8,0,none⟩)]) k1 hN
       have hd:=aik (s:=⟨a0,a1,a2,a3⟩) k1 k2 HG.out.1 (HG.out.2.resolve_left hN) k0 hx5;have H5:Hid (iP W5 (.func (.func 74) #[] #[.pointer (some ⟨b2,0,none⟩),.pointer (some ⟨b8,0,none⟩)]) pb B rv p (λp' o=>p'=kC p ⟨a0,a1,a2,a3⟩/\o=kV p ⟨a0,a1,a2,a3⟩)/\Below w.heap.size w W5/\p.N≠0):=⟨hd,k3,hN⟩;clear jX hx5 hb5 xw k0 k1 k2 k3 hN hd
       go_wp2_with
        (go_at_call 34;refine og.mono ?_;rintro e w6 ⟨rfl,h6⟩
         obtain rfl:W5=w6:=h6.symm
         clear og)
       go_ret;exact⟨_,rfl,H5.out.1.mono λp' o hh=>HQ.out p' o (by rw[aj H5.out.2.2];exact hh),H5.out.2.1⟩
     ·have HQ:Hid (∀p' o,(p'=p/\o=[63])->yG p l p' o):=λp' o hh=>(hQ p' o).2 (by rw[aj hu1,aj hu2,aj λh=>hA h.2];exact hh)
      have q4:((A.length:Int)==4)=false:=by simpa using (by omega:¬(A.length:Int)=4)
      clear hQ hu1 hu2 hA
      go_enter Tryz.func39,Tryz.ntmps39
      go_upto_region 1 with fail
      rw[HW.out.1];rw[HW.out.2]
      go_upto_region 2 with
       (go_at_call 69;refine o8.mono ?_;rintro e w2 ⟨la,lc,rfl,h2,h3⟩
        clear o8)
      obtain⟨W3,b6,hW3,hb6,hB3,hx3,hL3⟩:=HF.out w2 la lc h2 h3;rw[hW3];rw[hb6];obtain⟨k0,k1,k2,k3⟩:=HS.out W3 hB3;have c6:=ay (i:=0) hx3 rfl;have H3:Hid (bR W3 pb B rv p/\Below w.heap.size w W3):=⟨k1,k3⟩;clear h2 h3 hW3 hb6 hB3 hx3 hL3 k0 k1 k2 k3
      go_wp2_with fail
      go_ret;exact⟨_,rfl,(RN H3.out.1).mono HQ.out,H3.out.2⟩
    ·have HQ:Hid (∀p' o,(p'=p/\o=[63])->yG p l p' o):=λp' o hh=>(hQ p' o).2 (by rw[aj hu1,aj hu2,aj λh=>hu3 h.1];exact hh)
     have q3:(u==[115,116,101,112])=false:=mI.2 hu3;clear hQ hu1 hu2 hu3
     go_enter Tryz.func39,Tryz.ntmps39
     go_upto_region 1 with fail
     rw[HW.out.1];rw[HW.out.2]
     go_upto_region 2 with
      (go_at_call 69;refine o8.mono ?_;rintro e w2 ⟨la,lc,rfl,h2,h3⟩
       clear o8)
     obtain⟨W3,b6,hW3,hb6,hB3,hx3,hL3⟩:=HF.out w2 la lc h2 h3;rw[hW3];rw[hb6];obtain⟨k0,k1,k2,k3⟩:=HS.out W3 hB3;have c6:=ay (i:=0) hx3 rfl;have H3:Hid (bR W3 pb B rv p/\Below w.heap.size w W3):=⟨k1,k3⟩;clear h2 h3 hW3 hb6 hB3 hx3 hL3 k0 k1 k2 k3
     go_wp2_with fail
     go_ret;exact⟨_,rfl,(RN H3.out.1).mono HQ.out,H3.out.2⟩
end
section
variable{w w':World}{pb B G:Nat}{rv:Value}{p:bW}{l:List UInt8}
theorem Nn{dn:Nat}{X:List UInt8->Prop}(h:bR w pb B rv p)(hd:∀args w,(callFunc dn args).run Tryz.prog w= .ok (.enter dn args) w)(hc:p.N≠0->Calls Tryz.prog dn #[.pointer (some ⟨pb,0,none⟩)] w λe w'=> ∃o,X o/\e= .returned (.string ⟨o.toArray⟩)/\Below w.heap.size w w'):Calls Tryz.prog 34 #[.pointer (some ⟨pb,0,none⟩),.func (.func dn) #[.pointer (some ⟨pb,0,none⟩)] #[]] w λe w'=> ∃v,e= .returned v/\iP w' v pb B rv p (jN p X)/\w'=w:=by
 by_cases hN:p.N=0
 ·exact(Nf h hN).mono λe w' ⟨h1,h2⟩=>⟨_,h1,by rw[h2];exact(Nc h).mono λp' o hh=>⟨hh.1,by rw[au hN];exact hh.2⟩,h2⟩
 ·exact(Ng h hN).mono λe w' ⟨h1,h2⟩=>⟨_,h1,by rw[h2];exact(aie h hd (hc hN)).mono λp' o hh=>⟨hh.1,by rw[aj hN];exact hh.2⟩,h2⟩
theorem aiR(h:bR w pb B rv p)(hE:dR G w)(hG:G<=pb)(hs:l.length<=281474976710656)(hl:p.tx.length+l.length<=4611686018427387904):Calls Tryz.prog 13 #[.pointer (some ⟨pb,0,none⟩),.string ⟨l.toArray⟩] w λe w'=> ∃v,e= .returned v/\iP w' v pb B rv p (dN p l)/\Below w.heap.size w w':=by
 have hpb:=h.below;have hm:p.N≠0->aJ p.T p.N p.R=true:=h.good.resolve_left;obtain⟨W1,hW1⟩:=af (w.alloc (.cells #[.pointer (some ⟨pb,0,none⟩)] 87));have hB1:Below w.heap.size w W1:=by rw[<-hW1];exact(ai _ _).alloc (ah _) _
 have hx1:=heap_alloc_new w (.cells #[.pointer (some ⟨pb,0,none⟩)] 87);rw[hW1]at hx1;obtain⟨b2,hb2⟩:=af w.heap.size;rw[hb2]at hx1;have cp:=R6 ⟨l.toArray⟩ ⟨#[61,32]⟩ W1;have hll:(Lib.trimPrefix l [61,32]).length<=l.length:=by unfold Lib.trimPrefix;split<;>simp
 have hQ:=λp' o=>dN.eq_1 p l p' o;obtain⟨t,ht⟩:=af (Lib.trimPrefix l [61,32]);obtain⟨k,hk⟩:=af (Lib.hasPrefix l [61,32]);simp only[ht,hk]at cp hQ hll;obtain⟨W2,hW2⟩:=af (W1.alloc (.cells #[.string ⟨t.toArray⟩] 9));have hB2:Below W1.heap.size W1 W2:=by rw[<-hW2];exact(ai _ _).alloc (ah _) _
 have hx2:=heap_alloc_new W1 (.cells #[.string ⟨t.toArray⟩] 9);rw[hW2]at hx2;obtain⟨b5,hb5⟩:=af W1.heap.size;rw[hb5]at hx2;have k0:=(hB2.block _ (dx.1 hx1).1).trans hx1;have k1:=(h.later hB1).later hB2;have k2:=(hE.below hB1 (by omega)).below hB2 (by have:=hB1.size;omega);have k3:Below w.heap.size w W2:=hB1.trans (hB2.mono hB1.size);have c2:=ay (i:=0) k0 rfl;have HW:Hid (w.alloc (.cells #[.pointer (some ⟨pb,0,none⟩)] 87)=W1/\w.heap.size=b2/\W1.alloc (.cells #[.string ⟨t.toArray⟩] 9)=W2/\W1.heap.size=b5):=⟨hW1,hb2,hW2,hb5⟩;have HB:Hid (Below w.heap.size w W2):=k3;clear h hE hB1 hx1 hW1 hb2 hW2 hb5 hB2;cases k with
 |true=>
  have hd:=(aif k1 k2 hG (by omega) k0 hx2).mono λp' o hh=>(hQ p' o).mpr (by rw[au rfl];exact hh);have HD:Hid (iP W2 (.func (.func 30) #[] #[.pointer (some ⟨b2,0,none⟩),.pointer (some ⟨b5,0,none⟩)]) pb B rv p (dN p l)):=hd;clear hQ hd k0 k1 k2 k3 hx2 hk ht
  go_enter Tryz.func13,Tryz.ntmps13
  go_upto_region 1 with fail
  rw[HW.out.1];rw[HW.out.2.1]
  go_upto_region 2 with
   (go_at_call 29;refine cp.mono ?_;rintro e w2 ⟨rfl,h2⟩
    obtain rfl:W1=w2:=h2.symm
    clear cp)
  rw[HW.out.2.2.1];rw[HW.out.2.2.2]
  go_wp2_with fail
  go_ret;exact⟨_,rfl,HD.out,HB.out⟩
 |false=>
  have hQ:=λp' o=>(hQ p' o).mpr;simp only[dO,bN]at hQ
  have HH:(l=[102,114,101,115,104]/\iP W2 (.func (.func 32) #[.pointer (some ⟨pb,0,none⟩)] #[]) pb B rv p (dN p l))\/(l=[116,97,107,101]/\iP W2 (.func (.func 33) #[.pointer (some ⟨pb,0,none⟩)] #[]) pb B rv p (dN p l))\/(l=[115,101,116,115]/\Calls Tryz.prog 34 #[.pointer (some ⟨pb,0,none⟩),.func (.func 35) #[.pointer (some ⟨pb,0,none⟩)] #[]] W2 λe w'=> ∃v,e= .returned v/\iP w' v pb B rv p (dN p l)/\w'=W2)\/(l=[115,104,111,114,116]/\Calls Tryz.prog 34 #[.pointer (some ⟨pb,0,none⟩),.func (.func 36) #[.pointer (some ⟨pb,0,none⟩)] #[]] W2 λe w'=> ∃v,e= .returned v/\iP w' v pb B rv p (dN p l)/\w'=W2)\/(l=[116,97,98,108,101]/\Calls Tryz.prog 34 #[.pointer (some ⟨pb,0,none⟩),.func (.func 37) #[.pointer (some ⟨pb,0,none⟩)] #[]] W2 λe w'=> ∃v,e= .returned v/\iP w' v pb B rv p (dN p l)/\w'=W2)\/(l=[115,104,111,119]/\Calls Tryz.prog 34 #[.pointer (some ⟨pb,0,none⟩),.func (.func 38) #[.pointer (some ⟨pb,0,none⟩)] #[]] W2 λe w'=> ∃v,e= .returned v/\iP w' v pb B rv p (dN p l)/\w'=W2)\/(((l==[102,114,101,115,104])=false/\(l==[116,97,107,101])=false/\(l==[115,101,116,115])=false/\(l==[115,104,111,114,116])=false/\(l==[116,97,98,108,101])=false/\(l==[115,104,111,119])=false)/\Calls Tryz.prog 39 #[.pointer (some ⟨pb,0,none⟩),.string ⟨l.toArray⟩] W2 λe w'=> ∃v,e= .returned v/\iP w' v pb B rv p (dN p l)/\Below w.heap.size w w'):=by
   by_cases h0:l=[102,114,101,115,104]
   ·exact Or.inl ⟨h0,_,_,_,_,rfl,rfl,λargs w=>by simp[callFunc,Tryz.func32,Tryz.f32 ],(aby k1).mono λe w' ⟨a,b,c⟩=>⟨_,_,B,rv,hQ _ _ (by rw[au h0];exact⟨rfl,rfl⟩),a,b,c,.inl ⟨rfl,rfl,rfl⟩⟩⟩
   by_cases h1:l=[116,97,107,101]
   ·exact Or.inr<|Or.inl ⟨h1,_,_,_,_,rfl,rfl,λargs w=>by simp[callFunc,Tryz.func33,Tryz.f33 ],(abz k1 k2 hG (by omega)).mono λe w' ⟨a,⟨B1,r1,b,d⟩,c⟩=>⟨_,_,B1,r1,hQ _ _ (by rw[aj h0,au h1];exact⟨rfl,rfl⟩),a,b,c,d⟩⟩
   by_cases h2:l=[115,101,116,115]
   ·exact Or.inr<|Or.inr<|Or.inl ⟨h2,(Nn (X:=wK p) k1 (λargs w=>by simp[callFunc,Tryz.func35,Tryz.f35 ]) λhN=>aic k1 k2 hG (hm hN)).mono λe w' ⟨v,a,b,c⟩=>⟨v,a,b.mono λp' o hh=>hQ p' o (by rw[aj h0,aj h1,au h2];exact hh),c⟩⟩
   by_cases h3:l=[115,104,111,114,116]
   ·exact Or.inr<|Or.inr<|Or.inr<|Or.inl ⟨h3,(Nn (X:=λo=> ∃O,nM p.N p.R O/\o=iB O) k1 (λargs w=>by simp[callFunc,Tryz.func36,Tryz.f36 ]) λhN=>(ab5 k1 k2 hG (hm hN)).mono λe w' ⟨O,a,b,c⟩=>⟨_,⟨O,a,rfl⟩,b,c⟩).mono λe w' ⟨v,a,b,c⟩=>⟨v,a,b.mono λp' o hh=>hQ p' o (by rw[aj h0,aj h1,aj h2,au h3];exact hh),c⟩⟩
   by_cases h4:l=[116,97,98,108,101]
   ·exact Or.inr<|Or.inr<|Or.inr<|Or.inr<|Or.inl ⟨h4,(Nn (X:=uh p) k1 (λargs w=>by simp[callFunc,Tryz.func37,Tryz.f37 ]) λhN=>agB k1 k2 hG (hm hN)).mono λe w' ⟨v,a,b,c⟩=>⟨v,a,b.mono λp' o hh=>hQ p' o (by rw[aj h0,aj h1,aj h2,aj h3,au h4];exact hh),c⟩⟩
   by_cases h5:l=[115,104,111,119]
   ·exact Or.inr<|Or.inr<|Or.inr<|Or.inr<|Or.inr<|Or.inl ⟨h5,(Nn (X:=λo=>o=iB [((nP p.T p.N p.R).length:Int)]) k1 (λargs w=>by simp[callFunc,Tryz.func38,Tryz.f38 ]) λhN=>(ab4 k1 k2 hG (hm hN)).mono λe w' ⟨a,b⟩=>⟨_,rfl,a,b⟩).mono λe w' ⟨v,a,b,c⟩=>⟨v,a,b.mono λp' o hh=>hQ p' o (by rw[aj h0,aj h1,aj h2,aj h3,aj h4,au h5];exact hh),c⟩⟩
   exact Or.inr<|Or.inr<|Or.inr<|Or.inr<|Or.inr<|Or.inr<|⟨⟨mI.2 h0,mI.2 h1,mI.2 h2,mI.2 h3,mI.2 h4,mI.2 h5⟩,(aiQ k1 k2 hG hs).mono λe w' ⟨v,a,b,c⟩=>⟨v,a,b.mono λp' o hh=>hQ p' o (by rw[aj h0,aj h1,aj h2,aj h3,aj h4,aj h5];exact hh),HB.out.trans (c.mono HB.out.size)⟩⟩
  clear hQ k0 k1 k2 k3 hx2 hk ht hs hl hll hm;rcases HH with⟨rfl,hd⟩|⟨rfl,hd⟩|⟨rfl,og⟩|⟨rfl,og⟩|⟨rfl,og⟩|⟨rfl,og⟩|⟨⟨q0,q1,q2,q3,q4,q5⟩,og⟩
  ·have HD:Hid (iP W2 (.func (.func 32) #[.pointer (some ⟨pb,0,none⟩)] #[]) pb B rv p (dN p [102,114,101,115,104])):=hd
   clear hd
   go_enter Tryz.func13,Tryz.ntmps13
   go_upto_region 1 with fail
   rw[HW.out.1];rw[HW.out.2.1]
   go_upto_region 2 with
    (go_at_call 29;refine cp.mono ?_;rintro e w2 ⟨rfl,h2⟩
     obtain rfl:W1=w2:=h2.symm
     clear cp)
   rw[HW.out.2.2.1];rw[HW.out.2.2.2]
   go_wp2_with fail
   go_ret;exact⟨_,rfl,HD.out,HB.out⟩
  ·have HD:Hid (iP W2 (.func (.func 33) #[.pointer (some ⟨pb,0,none⟩)] #[]) pb B rv p (dN p [116,97,107,101])):=hd
   clear hd
   go_enter Tryz.func13,Tryz.ntmps13
   go_upto_region 1 with fail
   rw[HW.out.1];rw[HW.out.2.1]
   go_upto_region 2 with
    (go_at_call 29;refine cp.mono ?_;rintro e w2 ⟨rfl,h2⟩
     obtain rfl:W1=w2:=h2.symm
     clear cp)
   rw[HW.out.2.2.1];rw[HW.out.2.2.2]
   go_wp2_with fail
   go_ret;exact⟨_,rfl,HD.out,HB.out⟩
  iterate 4
   ·skip
    go_enter Tryz.func13,Tryz.ntmps13
    go_upto_region 1 with fail
    rw[HW.out.1];rw[HW.out.2.1]
    go_upto_region 2 with
     (go_at_call 29;refine cp.mono ?_;rintro e w2 ⟨rfl,h2⟩
      obtain rfl:W1=w2:=h2.symm
      clear cp)
    rw[HW.out.2.2.1];rw[HW.out.2.2.2]
    go_wp2_with
     (go_at_call 34;refine og.mono ?_;rintro e w4 ⟨v,rfl,h4,h5⟩
      obtain rfl:W2=w4:=h5.symm;have HD:Hid (iP W2 v pb B rv p (dN p _)):=h4
      clear og h4)
    go_ret;exact⟨_,rfl,HD.out,HB.out⟩
  ·skip
   go_enter Tryz.func13,Tryz.ntmps13
   go_upto_region 1 with fail
   rw[HW.out.1];rw[HW.out.2.1]
   go_upto_region 2 with
    (go_at_call 29;refine cp.mono ?_;rintro e w2 ⟨rfl,h2⟩
     obtain rfl:W1=w2:=h2.symm
     clear cp)
   rw[HW.out.2.2.1];rw[HW.out.2.2.2]
   go_wp2_with
    (go_at_call 39;refine og.mono ?_;rintro e w4 ⟨v,rfl,h4,h5⟩
     have HD:Hid (iP w4 v pb B rv p (dN p l)/\Below w.heap.size w w4):=⟨h4,h5⟩
     clear og h4 h5)
   go_ret;exact⟨_,rfl,HD.out⟩
end
end Go.Proofs.YthbifaoaiggooaaGreatDoor
