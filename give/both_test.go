package give_test

import (
	"math/rand/v2"
	"strings"
	"testing"

	"hardtack/api"
	"hardtack/give"
	"hardtack/keyed"
)

// whose tells a cookie by all that it is of.
type whose struct {
	secret, client string
	addr           uint32
	stamp          uint32
}

func (w whose) head() string {
	return begin + string([]byte{byte(w.stamp >> 24), byte(w.stamp >> 16), byte(w.stamp >> 8), byte(w.stamp)})
}

func anyOf[T any](draw *rand.Rand, l ...T) T { return l[draw.IntN(len(l))] }

// anyWhose has secrets, clients, addresses and stamps of which some are alike.
func anyWhose(draw *rand.Rand) whose {
	return whose{
		anyOf(draw, key, other, third),
		anyOf(draw, client, "clientyy", nought),
		anyOf[uint32](draw, 0, addr, addr+1, 0x04030201),
		anyOf[uint32](draw, 0, 100, 101, 0xffffffff),
	}
}

// apart is an ideal hash whose entries are apart, and whose cookie each of its sums is of.
func apart(t *testing.T, draw *rand.Rand) (api.Hash, map[whose]uint64) {
	h, sums := api.Hash{Ideal: true}, map[whose]uint64{}
	for n := range uint64(draw.IntN(60)) {
		w := anyWhose(draw)
		if _, there := sums[w]; there {
			continue
		}
		more, why := keyed.Put(h, w.secret, give.Text(w.client, w.head(), w.addr), n+1)
		if why != api.OK {
			t.Fatalf("12.1: the text of %v can't be put: %d", w, why)
		}
		h, sums[w] = more, n+1
	}
	if !keyed.Apart(h) {
		t.Fatalf("the entries are not apart")
	}
	return h, sums
}

// TestItsOwnByATable holds what is verified against whose cookies there are: a sum of 0 is that of all of which there is no entry.
func TestItsOwnByATable(t *testing.T) {
	draw := rand.New(rand.NewPCG(12, 3))
	verified, refused := 0, 0
	for range 300 {
		h, sums := apart(t, draw)
		for range 100 {
			made, w := anyWhose(draw), anyWhose(draw)
			if draw.IntN(2) == 0 {
				w = made
			}
			c, why := give.Make(h, made.secret, made.client, made.addr, int64(made.stamp))
			if why != api.OK {
				t.Fatalf("12.1: Make of %v = %d", made, why)
			}
			was := anyOf(draw, key, other, third, "")
			byNow := sums[whose{w.secret, w.client, w.addr, made.stamp}] == sums[made]
			byWas := was != "" && sums[whose{was, w.client, w.addr, made.stamp}] == sums[made]
			renew, why := give.Verify(h, api.Secrets{Now: w.secret, Was: was}, w.client, c, w.addr, int64(made.stamp))
			switch {
			case byNow && (renew || why != api.OK), !byNow && byWas && (!renew || why != api.OK), !byNow && !byWas && (renew || why != api.ErrCode):
				t.Fatalf("12.3: the cookie of %v, verified as that of %v, Was %q, = %t, %d", made, w, was, renew, why)
			case why != api.OK:
				refused++
			case sums[made] != 0:
				verified++
			}
		}
	}
	if verified < 1000 || refused < 1000 {
		t.Errorf("only %d were verified, %d refused", verified, refused)
	}
}

// TestItsOwnThatIsReckoned has no two cookies that are alike, as there are only few.
func TestItsOwnThatIsReckoned(t *testing.T) {
	draw := rand.New(rand.NewPCG(12, 4))
	for range 20000 {
		made, w := anyWhose(draw), anyWhose(draw)
		if draw.IntN(2) == 0 {
			w = made
		}
		c, _ := give.Make(api.Hash{}, made.secret, made.client, made.addr, int64(made.stamp))
		renew, why := give.Verify(api.Hash{}, api.Secrets{Now: w.secret}, w.client, c, w.addr, int64(made.stamp))
		w.stamp = made.stamp
		if renew || (why == api.OK) != (w == made) {
			t.Fatalf("12.3: the cookie of %v, verified as that of %v, = %t, %d", made, w, renew, why)
		}
	}
}

// TestAsLongAsItIsFresh goes over all ages, by the secret, by the next one, and by the one behind that.
func TestAsLongAsItIsFresh(t *testing.T) {
	first := api.Secrets{Now: key}
	second, _ := give.Roll(first, other)
	last, _ := give.Roll(second, third)
	ideal, why := keyed.Put(api.Hash{}, key, give.Text(client, begin+"\x00\x00\x00\x64", addr), 7)
	if why != api.OK {
		t.Fatalf("there is no table: %d", why)
	}
	for i, h := range []api.Hash{ideal, {}} {
		made := cookie(t, h, key, 100)
		for age := int64(-400); age <= 3700; age++ {
			want, gone := api.OK, api.ErrCode
			if age < -300 || age > 3600 {
				want, gone = api.ErrOld, api.ErrOld
			}
			now := 5<<32 + 100 + age
			if renew, why := give.Verify(h, first, client, made, addr, now); why != want || renew != (why == api.OK && age > 1800) {
				t.Fatalf("12.3: by the hash %d a cookie that is %d seconds old = %t, %d", i, age, renew, why)
			}
			if renew, why := give.Verify(h, second, client, made, addr, now); why != want || renew != (why == api.OK) {
				t.Fatalf("12.3: by the hash %d a cookie that is %d seconds old, by the next secret, = %t, %d", i, age, renew, why)
			}
			if renew, why := give.Verify(h, last, client, made, addr, now); why != gone || renew {
				t.Fatalf("12.3: by the hash %d a cookie that is %d seconds old, by the secret behind the next one, = %t, %d", i, age, renew, why)
			}
		}
	}
}

func TestNoTwoCookies(t *testing.T) {
	seen := map[string]whose{}
	for _, secret := range []string{key, other, third} {
		for _, c := range []string{client, "clientyy", nought} {
			for _, a := range []uint32{0, addr, addr + 1, 0x04030201} {
				for _, now := range []int64{0, 100, 101, -1} {
					made, why := give.Make(api.Hash{}, secret, c, a, now)
					w := whose{secret, c, a, uint32(now)}
					if was, there := seen[made]; there || why != api.OK || !strings.HasPrefix(made, w.head()) {
						t.Fatalf("12.1: the cookie of %v is %q, %d, and that of %v", w, made, why, was)
					}
					seen[made] = w
				}
			}
		}
	}
}
