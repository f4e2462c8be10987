package pad

import (
	"math"
	"math/big"
	"sync"
	"testing"

	"quiver/api"
)

const most = api.Most

// one is a call of Up; two is a call of Add or of Mul. An answer of over means ErrPadOver.
type one struct{ x, want int }
type two struct{ a, b, want int }

const over = -1

// hold fails the test unless the answer is the wanted number, or ErrPadOver with 0 beside it.
func hold(t *testing.T, call string, got int, e api.Errno, want int, args ...int) {
	t.Helper()
	wantErr := api.OK
	if want == over {
		want, wantErr = 0, api.ErrPadOver
	}
	if got != want || e != wantErr {
		t.Errorf("P1.1: %s%v: %d, error %d; want %d, error %d", call, args, got, e, want, wantErr)
	}
}

func TestUp(t *testing.T) {
	for _, c := range []one{
		{0, 0}, {1, 8}, {7, 8}, {8, 8}, {9, 16}, {15, 16}, {16, 16}, {17, 24},
		{100, 104}, {4095, 4096}, {4096, 4096}, {4097, 4104}, {1048575, 1048576},
		{most - 15, most - 15}, {most - 14, most - 7}, {most - 8, most - 7}, {most - 7, most - 7},
		{most - 6, over}, {most - 1, over}, {most, over}, {most + 1, over}, {most + 9, over},
		{-1, over}, {-7, over}, {-8, over}, {-9, over},
		{math.MaxInt, over}, {math.MaxInt - 7, over}, {math.MinInt, over}, {math.MinInt + 1, over},
	} {
		got, e := Up(c.x)
		hold(t, "Up", got, e, c.want, c.x)
	}
}

func TestUpIsLeast(t *testing.T) {
	for x := range 5000 {
		want := 0
		for want < x {
			want += api.Align
		}
		got, e := Up(x)
		hold(t, "Up", got, e, want, x)
	}
}

func TestAdd(t *testing.T) {
	for _, c := range []two{
		{0, 0, 0}, {0, 1, 1}, {2, 3, 5}, {8, 7, 15}, {4096, 65536, 69632},
		{0, most, most}, {1, most - 1, most}, {most / 2, most/2 + 1, most}, {8, most - 8, most},
		{1, most, over}, {2, most - 1, over}, {most/2 + 1, most/2 + 1, over}, {most, most, over},
		{0, most + 1, over}, {1, most + 1, over}, {0, -1, over}, {5, -1, over}, {most, -1, over},
		{most + 1, -1, over}, {-1, -1, over},
		{1, math.MaxInt, over}, {math.MaxInt, math.MaxInt, over}, {math.MinInt, math.MinInt, over},
		{math.MinInt, math.MaxInt, over}, {0, math.MinInt, over}, {0, math.MaxInt, over},
	} {
		got, e := Add(c.a, c.b)
		hold(t, "Add", got, e, c.want, c.a, c.b)
		got, e = Add(c.b, c.a)
		hold(t, "Add", got, e, c.want, c.b, c.a)
	}
}

func TestMul(t *testing.T) {
	for _, c := range []two{
		{0, 0, 0}, {0, 1, 0}, {1, 1, 1}, {3, 7, 21}, {8, 64, 512}, {4096, 65536, 268435456},
		{0, most, 0}, {1, most, most}, {2, most / 2, most - 1}, {46340, 46341, 2147441940}, {46340, 46340, 2147395600},
		{2, most/2 + 1, over}, {32768, 65536, over}, {46341, 46341, over}, {2, most, over}, {most, most, over},
		{0, most + 1, over}, {1, most + 1, over}, {0, -1, over}, {1, -1, over}, {-1, -1, over}, {-8, -8, over},
		{65536, 65536, over}, {0, math.MaxInt, over}, {0, math.MinInt, over}, {-1, math.MinInt, over},
		{2, math.MinInt, over}, {2, math.MaxInt/2 + 1, over}, {4, math.MaxInt/2 + 1, over},
		{math.MaxInt, math.MaxInt, over}, {math.MinInt, math.MinInt, over}, {math.MaxInt/2 + 1, math.MaxInt/2 + 1, over},
	} {
		got, e := Mul(c.a, c.b)
		hold(t, "Mul", got, e, c.want, c.a, c.b)
		got, e = Mul(c.b, c.a)
		hold(t, "Mul", got, e, c.want, c.b, c.a)
	}
}

// edges are numbers about each place where an answer turns.
func edges() []int {
	var xs []int
	for _, x := range []int{0, api.Align, 64, 32768, 46340, 65536, most / 3, most / 2, most - api.Align, most} {
		for by := -3; by <= 3; by++ {
			xs = append(xs, x+by)
		}
	}
	for by := range 3 {
		xs = append(xs, math.MinInt+by, math.MaxInt-by, math.MaxInt/2+by, math.MinInt/2-by)
	}
	return xs
}

// exact tells what the document asks, if big numbers say that whole is the exact result.
func exact(whole *big.Int, given ...int) int {
	top := big.NewInt(most)
	for _, x := range given {
		if x < 0 || big.NewInt(int64(x)).Cmp(top) > 0 {
			return over
		}
	}
	if whole.Sign() < 0 || whole.Cmp(top) > 0 {
		return over
	}
	return int(whole.Int64())
}

func TestAgainstBigNumbers(t *testing.T) {
	xs := edges()
	for _, a := range xs {
		for _, b := range xs {
			x, y := big.NewInt(int64(a)), big.NewInt(int64(b))
			got, e := Add(a, b)
			hold(t, "Add", got, e, exact(new(big.Int).Add(x, y), a, b), a, b)
			got, e = Mul(a, b)
			hold(t, "Mul", got, e, exact(new(big.Int).Mul(x, y), a, b), a, b)
		}
	}
}

// R5: the same answers from several goroutines at one time.
func TestAtOneTime(t *testing.T) {
	var wait sync.WaitGroup
	for g := range 8 {
		wait.Go(func() {
			for x := range 500 {
				got, e := Up(8*x + g)
				hold(t, "Up", got, e, 8*x+(g+7)/8*8, 8*x+g)
				got, e = Add(x, g)
				hold(t, "Add", got, e, x+g, x, g)
				got, e = Mul(x, g)
				hold(t, "Mul", got, e, x*g, x, g)
			}
		})
	}
	wait.Wait()
}
