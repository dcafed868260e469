package num

import (
	"math"
	"math/big"
	"math/rand"
	"testing"

	"ramble/api"
)

// edges are numbers around which room ends, signs turn, or bytes and digits become more.
func edges() []int64 {
	l := []int64{math.MinInt64, math.MinInt64 + 1, math.MaxInt64 - 1, math.MaxInt64, 3037000499, 3037000500, -3037000499, -3037000500}
	for n := int64(-11); n <= 11; n++ {
		l = append(l, n)
	}
	for bit := 4; bit < 63; bit++ {
		p := int64(1) << bit
		l = append(l, p-1, p, p+1, -p-1, -p, -p+1)
	}
	for p := int64(100); p <= 1e18/10; p *= 10 {
		l = append(l, p-1, p, -p+1, -p)
	}
	return l
}

// someNumbers are numbers of all lengths, the same ones each time.
func someNumbers(seed int64, many int) []int64 {
	r := rand.New(rand.NewSource(seed))
	l := make([]int64, many)
	for i := range l {
		l[i] = int64(r.Uint64()) >> r.Intn(64)
	}
	return l
}

func wantNumber(t *testing.T, what string, want *big.Int, got int64, e api.Errno) {
	t.Helper()
	if want.IsInt64() && (got != want.Int64() || e != api.OK) {
		t.Fatalf("%s: got %d, %d; want %s", what, got, e, want)
	}
	if !want.IsInt64() && (got != 0 || e != api.ErrOver) {
		t.Fatalf("%s: got %d, %d; want 0, ErrOver of %s", what, got, e, want)
	}
}

func checkPair(t *testing.T, a, b int64) {
	t.Helper()
	x, y := big.NewInt(a), big.NewInt(b)
	n, e := Add(a, b)
	wantNumber(t, "Add "+x.String()+" "+y.String(), new(big.Int).Add(x, y), n, e)
	n, e = Sub(a, b)
	wantNumber(t, "Sub "+x.String()+" "+y.String(), new(big.Int).Sub(x, y), n, e)
	n, e = Mul(a, b)
	wantNumber(t, "Mul "+x.String()+" "+y.String(), new(big.Int).Mul(x, y), n, e)
}

// P1.1: Add, Sub, Mul and Neg are the exact results, or ErrOver and 0.
func TestReckonExactly(t *testing.T) {
	l := edges()
	for _, a := range l {
		n, e := Neg(a)
		wantNumber(t, "Neg", new(big.Int).Neg(big.NewInt(a)), n, e)
		for _, b := range l {
			checkPair(t, a, b)
		}
	}
	l = someNumbers(1, 20000)
	for i := 1; i < len(l); i++ {
		checkPair(t, l[i-1], l[i])
	}
}

// P1.1: written out, so that it does not hang on another way to reckon.
func TestReckonNamedEdges(t *testing.T) {
	const least, greatest = math.MinInt64, math.MaxInt64
	for _, c := range []struct {
		what string
		f    func(a, b int64) (int64, api.Errno)
		a, b int64
		want int64
		e    api.Errno
	}{
		{"Add", Add, 2, 3, 5, api.OK},
		{"Add", Add, 1 << 62, 1 << 62, 0, api.ErrOver},
		{"Add", Add, greatest, 1, 0, api.ErrOver},
		{"Add", Add, least, -1, 0, api.ErrOver},
		{"Add", Add, least, least, 0, api.ErrOver},
		{"Add", Add, least, greatest, -1, api.OK},
		{"Sub", Sub, 2, 3, -1, api.OK},
		{"Sub", Sub, 0, least, 0, api.ErrOver},
		{"Sub", Sub, -1, least, greatest, api.OK},
		{"Sub", Sub, least, 1, 0, api.ErrOver},
		{"Sub", Sub, least, least, 0, api.OK},
		{"Mul", Mul, -4, 5, -20, api.OK},
		{"Mul", Mul, -1 << 62, 2, least, api.OK},
		{"Mul", Mul, 1 << 62, 2, 0, api.ErrOver},
		{"Mul", Mul, least, -1, 0, api.ErrOver},
		{"Mul", Mul, -1, least, 0, api.ErrOver},
		{"Mul", Mul, least, 1, least, api.OK},
		{"Mul", Mul, least, least, 0, api.ErrOver},
		{"Mul", Mul, 1 << 32, 1 << 32, 0, api.ErrOver},
		{"Mul", Mul, least, 0, 0, api.OK},
	} {
		if n, e := c.f(c.a, c.b); n != c.want || e != c.e {
			t.Errorf("%s(%d, %d): got %d, %d; want %d, %d", c.what, c.a, c.b, n, e, c.want, c.e)
		}
	}
	if n, e := Neg(least); n != 0 || e != api.ErrOver {
		t.Errorf("Neg of the least: got %d, %d", n, e)
	}
	if n, e := Neg(greatest); n != least+1 || e != api.OK {
		t.Errorf("Neg of the greatest: got %d, %d", n, e)
	}
}

// P1.1: only what Sum comes to must have room, whatever stands on the way.
func TestSum(t *testing.T) {
	const least, greatest = math.MinInt64, math.MaxInt64
	for _, c := range []struct {
		l    []int64
		want int64
		e    api.Errno
	}{
		{nil, 0, api.OK},
		{[]int64{}, 0, api.OK},
		{[]int64{-7}, -7, api.OK},
		{[]int64{1, 2, 3}, 6, api.OK},
		{[]int64{1 << 62, 1 << 62, -1 << 62}, 1 << 62, api.OK},
		{[]int64{1 << 62, 1 << 62}, 0, api.ErrOver},
		{[]int64{least, least, greatest, greatest, 2}, 0, api.OK},
		{[]int64{greatest, 1, -1}, greatest, api.OK},
		{[]int64{least, -1, 1}, least, api.OK},
		{[]int64{greatest, 1}, 0, api.ErrOver},
		{[]int64{least, -1}, 0, api.ErrOver},
		{[]int64{greatest, greatest, 2}, 0, api.ErrOver},
		{[]int64{least, least}, 0, api.ErrOver},
		{[]int64{1, least}, least + 1, api.OK},
	} {
		if n, e := Sum(c.l...); n != c.want || e != c.e {
			t.Errorf("Sum(%d): got %d, %d; want %d, %d", c.l, n, e, c.want, c.e)
		}
	}
}

// P1.1: sums that lie far outside come back, and those that do not say so.
func TestSumOfMany(t *testing.T) {
	var l []int64
	for range 1000 {
		l = append(l, math.MaxInt64, math.MaxInt64)
	}
	for range 2000 {
		l = append(l, math.MinInt64)
	}
	if n, e := Sum(l...); n != -2000 || e != api.OK {
		t.Errorf("there and back: got %d, %d", n, e)
	}
	if n, e := Sum(l[:2000]...); n != 0 || e != api.ErrOver {
		t.Errorf("far above: got %d, %d", n, e)
	}
	if n, e := Sum(l[2000:]...); n != 0 || e != api.ErrOver {
		t.Errorf("far below: got %d, %d", n, e)
	}
	for seed := range int64(2000) {
		some := someNumbers(seed, int(seed%7))
		want := new(big.Int)
		for _, n := range some {
			want.Add(want, big.NewInt(n))
		}
		n, e := Sum(some...)
		wantNumber(t, "Sum", want, n, e)
	}
}

// R3: what is handed in stays.
func TestSumLeavesItsNumbers(t *testing.T) {
	l := []int64{3, -1, 2}
	Sum(l...)
	if l[0] != 3 || l[1] != -1 || l[2] != 2 {
		t.Errorf("changed: %d", l)
	}
}

// P1.5: Sub undoes Add, Neg itself.
func TestUndone(t *testing.T) {
	l := append(edges(), someNumbers(2, 300)...)
	for _, a := range l {
		if n, e := Neg(a); e == api.OK {
			if back, e := Neg(n); back != a || e != api.OK {
				t.Fatalf("Neg of Neg of %d: %d, %d", a, back, e)
			}
		}
		for _, b := range l {
			if n, e := Add(a, b); e == api.OK {
				if back, e := Sub(n, b); back != a || e != api.OK {
					t.Fatalf("Sub of Add of %d, %d: %d, %d", a, b, back, e)
				}
			}
		}
	}
}

// P1.5: Mul goes over Add, where all have room.
func TestMulOverAdd(t *testing.T) {
	l := append([]int64{math.MinInt64, math.MaxInt64}, someNumbers(3, 60)...)
	l = append(l, -3, -2, -1, 0, 1, 2, 3, 1<<31, -1<<31, 1<<61, -1<<61)
	held := 0
	for _, a := range l {
		for _, b := range l {
			for _, c := range l {
				sum, e1 := Add(b, c)
				whole, e2 := Mul(a, sum)
				ab, e3 := Mul(a, b)
				ac, e4 := Mul(a, c)
				parts, e5 := Add(ab, ac)
				if e1 != api.OK || e2 != api.OK || e3 != api.OK || e4 != api.OK || e5 != api.OK {
					continue
				}
				held++
				if whole != parts {
					t.Fatalf("%d times (%d and %d): %d, in parts %d", a, b, c, whole, parts)
				}
			}
		}
	}
	if held < 10000 {
		t.Errorf("only %d had room: the test says too little", held)
	}
}
