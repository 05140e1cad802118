package stamp_test

import (
	"math"
	"math/rand/v2"
	"testing"

	"hardtack/api"
	"hardtack/stamp"
)

const (
	half  = int64(1) << 31
	whole = int64(1) << 32
)

// times are some: below 0, far away, and at the edges of a round.
func times() []int64 {
	all := []int64{math.MinInt64, math.MinInt64 + 1, math.MaxInt64 - 1, math.MaxInt64, 1559731985, 1 << 40, -1 << 40}
	for _, at := range []int64{0, half, whole, whole + half, -half, -whole, 7 * whole, math.MinInt64 + half, math.MaxInt64 - half} {
		for d := int64(-2); d <= 2; d++ {
			all = append(all, at+d)
		}
	}
	r := rand.New(rand.NewPCG(10, 2))
	for range 200 {
		all = append(all, int64(r.Uint64()))
	}
	return all
}

// numbers are those of times from -2^31 to 2^31 - 1.
func numbers() []int64 {
	all := []int64{-half, half - 1, -301, -300, 300, 1800, 1801, 3600, 3601}
	for _, n := range times() {
		if n >= -half && n < half {
			all = append(all, n)
		}
	}
	return all
}

// modulo is a number from 0 to 2^32 - 1.
func modulo(n int64) int64 { return (n%whole + whole) % whole }

func TestOf(t *testing.T) {
	for _, c := range []struct {
		now  int64
		want uint32
	}{
		{0, 0},
		{1, 1},
		{-1, 0xffffffff},
		{1559731985, 0x5cf79f11},
		{half - 1, 0x7fffffff},
		{half, 0x80000000},
		{whole - 1, 0xffffffff},
		{whole, 0},
		{whole + 5, 5},
		{-whole, 0},
		{-whole + 1, 1},
		{-half, 0x80000000},
		{0x123456789abcdef0, 0x9abcdef0},
		{math.MaxInt64, 0xffffffff},
		{math.MinInt64, 0},
		{math.MinInt64 + 7, 7},
	} {
		if got := stamp.Of(c.now); got != c.want {
			t.Errorf("10.1: Of(%d) = %x, not %x", c.now, got, c.want)
		}
	}
	for _, now := range times() {
		if got := stamp.Of(now); int64(got) != modulo(now) {
			t.Errorf("10.1: Of(%d) = %x, not %x", now, got, modulo(now))
		}
	}
}

func TestAge(t *testing.T) {
	for _, c := range []struct {
		now  int64
		s    uint32
		want int64
	}{
		{0, 0, 0},
		{5, 3, 2},
		{3, 5, -2},
		{0, 0xffffffff, 1},
		{5, 0xffffffff, 6},
		{-1, 0, -1},
		{whole, 0, 0},
		{whole + 1, 0, 1},
		{whole - 1, 0, -1},
		{whole - 1, 0xffffffff, 0},
		{half - 1, 0, half - 1},
		{half, 0, -half},
		{half + 1, 0, -half + 1},
		{0, 0x80000000, -half},
		{0, 0x7fffffff, -half + 1},
		{0, 0x80000001, half - 1},
		{-half, 0, -half},
		{-half - 1, 0, half - 1},
		{math.MaxInt64, 0, -1},
		{math.MaxInt64, 0xffffffff, 0},
		{math.MinInt64, 0, 0},
		{math.MinInt64, 0xffffffff, 1},
		{1559731985, 1559731985, 0},
	} {
		if got := stamp.Age(c.now, c.s); got != c.want {
			t.Errorf("10.1: Age(%d, %x) = %d, not %d", c.now, c.s, got, c.want)
		}
	}
	for _, now := range times() {
		for _, s := range numbers() {
			got := stamp.Age(now, uint32(s))
			if got < -half || got >= half || modulo(got) != modulo(modulo(now)-modulo(s)) {
				t.Fatalf("10.1: Age(%d, %x) = %d", now, uint32(s), got)
			}
		}
	}
}

func TestFreshAndRenew(t *testing.T) {
	for _, c := range []struct {
		age          int64
		fresh, renew bool
	}{
		{-half, false, false},
		{-half + 1, false, false},
		{-3601, false, false},
		{-3600, false, false},
		{-1801, false, false},
		{-302, false, false},
		{-301, false, false},
		{-300, true, false},
		{-299, true, false},
		{-1, true, false},
		{0, true, false},
		{1, true, false},
		{300, true, false},
		{301, true, false},
		{1799, true, false},
		{1800, true, false},
		{1801, true, true},
		{1802, true, true},
		{3599, true, true},
		{3600, true, true},
		{3601, false, true},
		{3602, false, true},
		{half - 1, false, true},
	} {
		want := api.OK
		if !c.fresh {
			want = api.ErrOld
		}
		for _, now := range times() {
			s := uint32(modulo(modulo(now) - c.age))
			if got := stamp.Fresh(now, s); got != want {
				t.Errorf("10.1: Fresh(%d, %x), of the age %d, = %d, not %d", now, s, c.age, got, want)
			}
			if got := stamp.Renew(now, s); got != c.renew {
				t.Errorf("10.1: Renew(%d, %x), of the age %d, = %t", now, s, c.age, got)
			}
		}
	}
}

func TestLess(t *testing.T) {
	for _, c := range []struct {
		a, b uint32
		want bool
	}{
		{0, 0, false},
		{0, 1, true},
		{1, 0, false},
		{0xffffffff, 0, true},
		{0, 0xffffffff, false},
		{0xfffffffe, 5, true},
		{5, 0xfffffffe, false},
		{0, 0x7fffffff, true},
		{0x7fffffff, 0, false},
		{0, 0x80000000, false},
		{0x80000000, 0, false},
		{0, 0x80000001, false},
		{0x80000001, 0, true},
		{0x7fffffff, 0x80000000, true},
		{0x80000000, 0x7fffffff, false},
		{0xffffffff, 0x7fffffff, false},
		{0x7fffffff, 0xffffffff, false},
		{0xffffffff, 0x7ffffffe, true},
		{0xffffffff, 0xffffffff, false},
	} {
		if got := stamp.Less(c.a, c.b); got != c.want {
			t.Errorf("10.1: Less(%x, %x) = %t", c.a, c.b, got)
		}
	}
	for _, a := range times() {
		for _, b := range numbers() {
			d := modulo(modulo(b) - modulo(a))
			if got := stamp.Less(uint32(a), uint32(b)); got != (d >= 1 && d < half) {
				t.Fatalf("10.1: Less(%x, %x) = %t", uint32(a), uint32(b), got)
			}
		}
	}
}

func TestAdd(t *testing.T) {
	for _, c := range []struct {
		s    uint32
		n    int64
		want uint32
	}{
		{0, 0, 0},
		{1, 2, 3},
		{1, -2, 0xffffffff},
		{0, -1, 0xffffffff},
		{0xffffffff, 1, 0},
		{0xffffffff, -1, 0xfffffffe},
		{7, whole, 7},
		{7, -whole, 7},
		{7, 3*whole + 1, 8},
		{7, half, 0x80000007},
		{7, -half, 0x80000007},
		{0x80000000, half, 0},
		{1, math.MaxInt64, 0},
		{1, math.MinInt64, 1},
		{0xffffffff, math.MinInt64, 0xffffffff},
		{0xffffffff, 0x1234567800000001, 0},
	} {
		if got := stamp.Add(c.s, c.n); got != c.want {
			t.Errorf("10.1: Add(%x, %d) = %x, not %x", c.s, c.n, got, c.want)
		}
	}
	for _, n := range times() {
		for _, s := range times() {
			if got := stamp.Add(uint32(s), n); int64(got) != modulo(modulo(s)+modulo(n)) {
				t.Fatalf("10.1: Add(%x, %d) = %x", uint32(s), n, got)
			}
		}
	}
}

func TestSoManySecondsLater(t *testing.T) {
	for _, now := range times() {
		for _, n := range numbers() {
			if got := stamp.Age(now+n, stamp.Of(now)); got != n {
				t.Fatalf("10.2: the age of %d's stamp, %d seconds later, = %d", now, n, got)
			}
			if got := stamp.Age(now, stamp.Add(stamp.Of(now), -n)); got != n {
				t.Fatalf("10.2: the age of a stamp of %d seconds ago, at %d, = %d", n, now, got)
			}
		}
	}
}

func TestOneIsLess(t *testing.T) {
	for _, x := range times() {
		for _, y := range times() {
			a, b := stamp.Of(x), stamp.Of(y)
			unlike := a != b && a^b != 1<<31
			if less, more := stamp.Less(a, b), stamp.Less(b, a); less && more || unlike != (less || more) {
				t.Fatalf("10.2: Less(%x, %x) = %t, and the other way round %t", a, b, less, more)
			}
		}
	}
}
