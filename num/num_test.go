package num

import (
	"encoding/binary"
	"math"
	"strings"
	"sync"
	"testing"
	"unsafe"

	"quiver/api"
)

const most = api.Most

func holdPut(t *testing.T, x int, size int, want string, wantErr api.Errno) {
	t.Helper()
	if s, e := Put(x, size); s != want || e != wantErr {
		t.Errorf("P3.1: Put(%d, %d): %q, error %d; want %q, error %d", x, size, s, e, want, wantErr)
	}
}

func holdGet(t *testing.T, s string, at int, size int, want int, wantErr api.Errno) {
	t.Helper()
	if x, e := Get(s, at, size); x != want || e != wantErr {
		t.Errorf("P3.1: Get(%q, %d, %d): %d, error %d; want %d, error %d", s, at, size, x, e, want, wantErr)
	}
}

func holdPutVar(t *testing.T, x int, want string, wantErr api.Errno) {
	t.Helper()
	if s, e := PutVar(x); s != want || e != wantErr {
		t.Errorf("P3.2: PutVar(%d): %q, error %d; want %q, error %d", x, s, e, want, wantErr)
	}
}

func holdGetVar(t *testing.T, s string, at int, want int, wantEnd int, wantErr api.Errno) {
	t.Helper()
	if x, end, e := GetVar(s, at); x != want || end != wantEnd || e != wantErr {
		t.Errorf("P3.2: GetVar(%q, %d): %d, %d, error %d; want %d, %d, error %d", s, at, x, end, e, want, wantEnd, wantErr)
	}
}

// edges are numbers about each place where an answer turns: a power of two, Most, the ends of the ints.
func edges() []int {
	var xs []int
	for power := range 63 {
		for by := -2; by <= 2; by++ {
			xs = append(xs, 1<<power+by, -(1<<power)+by)
		}
	}
	for by := range 3 {
		xs = append(xs, math.MinInt+by, math.MaxInt-by)
	}
	return append(xs, 0, 1000000, 123456789, -123456789, 0x0102030405060708)
}

// far are places that no text of these tests has, those among them whose sum with a size would wrap round.
func far() []int {
	return []int{
		-1, -2, -4, -5, -8, -9, math.MinInt, math.MinInt + 1, math.MinInt + 8, math.MinInt / 2, 1000, most,
		math.MaxInt, math.MaxInt - 1, math.MaxInt - 3, math.MaxInt - 4, math.MaxInt - 7, math.MaxInt - 8, math.MaxInt/2 + 1,
	}
}

func short(x int) bool {
	return x >= 0 && x <= most
}

// laid is what the library lays down for x in so many bytes.
func laid(x int, size int) string {
	if size == 4 {
		return string(binary.LittleEndian.AppendUint32(nil, uint32(x)))
	}
	return string(binary.LittleEndian.AppendUint64(nil, uint64(x)))
}

// few is what the library lays down for x at seven bits in a byte.
func few(x int) string {
	return string(binary.AppendUvarint(nil, uint64(x)))
}

func TestPut(t *testing.T) {
	holdPut(t, 0, 4, "\x00\x00\x00\x00", api.OK)
	holdPut(t, 1, 4, "\x01\x00\x00\x00", api.OK)
	holdPut(t, 255, 4, "\xff\x00\x00\x00", api.OK)
	holdPut(t, 256, 4, "\x00\x01\x00\x00", api.OK)
	holdPut(t, 0x04030201, 4, "\x01\x02\x03\x04", api.OK)
	holdPut(t, most-1, 4, "\xfe\xff\xff\x7f", api.OK)
	holdPut(t, most, 4, "\xff\xff\xff\x7f", api.OK)
	holdPut(t, 0, 8, "\x00\x00\x00\x00\x00\x00\x00\x00", api.OK)
	holdPut(t, 0x0807060504030201, 8, "\x01\x02\x03\x04\x05\x06\x07\x08", api.OK)
	holdPut(t, most+1, 8, "\x00\x00\x00\x80\x00\x00\x00\x00", api.OK)
	holdPut(t, -1, 8, "\xff\xff\xff\xff\xff\xff\xff\xff", api.OK)
	holdPut(t, -2, 8, "\xfe\xff\xff\xff\xff\xff\xff\xff", api.OK)
	holdPut(t, math.MaxInt, 8, "\xff\xff\xff\xff\xff\xff\xff\x7f", api.OK)
	holdPut(t, math.MinInt, 8, "\x00\x00\x00\x00\x00\x00\x00\x80", api.OK)
}

func TestPutOfWrongInputs(t *testing.T) {
	for _, x := range []int{most + 1, most + 2, 1 << 32, 1<<32 + 5, math.MaxInt, -1, -2, -most, -most - 1, math.MinInt} {
		holdPut(t, x, 4, "", api.ErrNumForm)
	}
	for _, size := range []int{-8, -4, -1, 0, 1, 2, 3, 5, 6, 7, 9, 12, 16, 32, 64, most, math.MaxInt, math.MinInt} {
		holdPut(t, 0, size, "", api.ErrNumForm)
		holdPut(t, 1, size, "", api.ErrNumForm)
		holdPut(t, -1, size, "", api.ErrNumForm)
	}
}

func TestPutOfEdges(t *testing.T) {
	for _, x := range edges() {
		holdPut(t, x, 8, laid(x, 8), api.OK)
		if short(x) {
			holdPut(t, x, 4, laid(x, 4), api.OK)
		} else {
			holdPut(t, x, 4, "", api.ErrNumForm)
		}
	}
}

func TestGet(t *testing.T) {
	s := "\x01\x02\x03\x04\x05\x06\x07\x08\x09"
	holdGet(t, s, 0, 4, 0x04030201, api.OK)
	holdGet(t, s, 3, 4, 0x07060504, api.OK)
	holdGet(t, s, 5, 4, 0x09080706, api.OK)
	holdGet(t, s, 0, 8, 0x0807060504030201, api.OK)
	holdGet(t, s, 1, 8, 0x0908070605040302, api.OK)
	holdGet(t, "\xff\xff\xff\x7f", 0, 4, most, api.OK)
	holdGet(t, "\xfe\xff\xff\x7f", 0, 4, most-1, api.OK)
	holdGet(t, "\xff\xff\xff\xff\xff\xff\xff\xff", 0, 8, -1, api.OK)
	holdGet(t, "\xff\xff\xff\xff\xff\xff\xff\x7f", 0, 8, math.MaxInt, api.OK)
	holdGet(t, "\x00\x00\x00\x00\x00\x00\x00\x80", 0, 8, math.MinInt, api.OK)
	holdGet(t, "\x00\x00\x00\x80\x00\x00\x00\x00", 0, 8, most+1, api.OK)
}

func TestGetOfWrongInputs(t *testing.T) {
	s := "\x01\x02\x03\x04\x05\x06\x07\x08\x09"
	holdGet(t, s, 6, 4, 0, api.ErrNumForm)
	holdGet(t, s, 8, 4, 0, api.ErrNumForm)
	holdGet(t, s, 9, 4, 0, api.ErrNumForm)
	holdGet(t, s, 10, 4, 0, api.ErrNumForm)
	holdGet(t, s, 2, 8, 0, api.ErrNumForm)
	holdGet(t, s, -1, 4, 0, api.ErrNumForm)
	holdGet(t, "", 0, 4, 0, api.ErrNumForm)
	holdGet(t, "", 0, 8, 0, api.ErrNumForm)
	for _, size := range []int{-8, -4, -1, 0, 1, 2, 3, 5, 6, 7, 9, 16, most, math.MaxInt, math.MinInt} {
		holdGet(t, s, 0, size, 0, api.ErrNumForm)
		holdGet(t, s, 9, size, 0, api.ErrNumForm)
		holdGet(t, "", 0, size, 0, api.ErrNumForm)
	}
	for _, above := range []string{"\x00\x00\x00\x80", "\x01\x00\x00\x80", "\xff\xff\xff\xff", "\x00\x00\x00\xff"} {
		holdGet(t, above, 0, 4, 0, api.ErrNumForm)
		holdGet(t, "abc"+above+"d", 3, 4, 0, api.ErrNumForm)
	}
}

// Each number at a text's beginning, in its middle and at its end, and one byte short of it.
func TestGetOfEdges(t *testing.T) {
	for _, x := range edges() {
		for _, size := range []int{4, 8} {
			if size == 4 && !short(x) {
				continue
			}
			s := laid(x, size)
			for _, ahead := range []string{"", "\xff", "\x00abc", "\xff\xff\xff\xff\xff\xff\xff\xff"} {
				for _, behind := range []string{"", "\x00", "\xff", "abcdefghi"} {
					holdGet(t, ahead+s+behind, len(ahead), size, x, api.OK)
				}
				holdGet(t, ahead+s, len(ahead)+1, size, 0, api.ErrNumForm)
				holdGet(t, ahead+s[:size-1], len(ahead), size, 0, api.ErrNumForm)
			}
		}
	}
}

func TestGetOfFarPlaces(t *testing.T) {
	for n := range 20 {
		s := strings.Repeat("\x01", n)
		for _, at := range append(far(), n, n+1, n-1, n-2, n-3) {
			holdGet(t, s, at, 4, 0, api.ErrNumForm)
			holdGet(t, s, at, 8, 0, api.ErrNumForm)
		}
		for _, at := range append(far(), n, n+1) {
			holdGetVar(t, s, at, 0, 0, api.ErrNumForm)
		}
	}
}

func TestPutVar(t *testing.T) {
	holdPutVar(t, 0, "\x00", api.OK)
	holdPutVar(t, 1, "\x01", api.OK)
	holdPutVar(t, 127, "\x7f", api.OK)
	holdPutVar(t, 128, "\x80\x01", api.OK)
	holdPutVar(t, 129, "\x81\x01", api.OK)
	holdPutVar(t, 300, "\xac\x02", api.OK)
	holdPutVar(t, 1<<14-1, "\xff\x7f", api.OK)
	holdPutVar(t, 1<<14, "\x80\x80\x01", api.OK)
	holdPutVar(t, 1<<21-1, "\xff\xff\x7f", api.OK)
	holdPutVar(t, 1<<21, "\x80\x80\x80\x01", api.OK)
	holdPutVar(t, 1<<28-1, "\xff\xff\xff\x7f", api.OK)
	holdPutVar(t, 1<<28, "\x80\x80\x80\x80\x01", api.OK)
	holdPutVar(t, most-1, "\xfe\xff\xff\xff\x07", api.OK)
	holdPutVar(t, most, "\xff\xff\xff\xff\x07", api.OK)
	for _, x := range edges() {
		if short(x) {
			holdPutVar(t, x, few(x), api.OK)
		} else {
			holdPutVar(t, x, "", api.ErrNumForm)
		}
	}
}

func TestGetVar(t *testing.T) {
	holdGetVar(t, "\x00", 0, 0, 1, api.OK)
	holdGetVar(t, "\x7f", 0, 127, 1, api.OK)
	holdGetVar(t, "\x80\x01", 0, 128, 2, api.OK)
	holdGetVar(t, "\x80\x01", 1, 1, 2, api.OK)
	holdGetVar(t, "\x00\x00", 1, 0, 2, api.OK)
	holdGetVar(t, "\xff\xff\xff\xff\x07", 0, most, 5, api.OK)
	holdGetVar(t, "\x80\x80\x80\x80\x01", 0, 1<<28, 5, api.OK)
	for _, x := range edges() {
		if !short(x) {
			continue
		}
		s := few(x)
		for _, ahead := range []string{"", "\x80", "\xff\xff\xff\xff\xff", "\x00abc"} {
			for _, behind := range []string{"", "\x00", "\xff", "\x80\x80", "abc"} {
				holdGetVar(t, ahead+s+behind, len(ahead), x, len(ahead)+len(s), api.OK)
			}
			for cut := range len(s) {
				holdGetVar(t, ahead+s[:cut], len(ahead), 0, 0, api.ErrNumForm)
			}
		}
	}
}

func TestGetVarOfWrongInputs(t *testing.T) {
	for _, s := range []string{
		"", "\x80", "\xff", "\x80\x80", "\xff\xff\xff\xff", "\x80\x80\x80\x80\x80", // cut
		"\x80\x00", "\xff\x00", "\x81\x80\x00", "\x80\x80\x80\x00", "\xff\xff\xff\xff\x00", // more than need be
		"\x80\x80\x80\x80\x08", "\xff\xff\xff\xff\x08", "\x80\x80\x80\x80\x10", "\xff\xff\xff\xff\x0f", "\xff\xff\xff\xff\x7f", // above Most
		"\x80\x80\x80\x80\x87\x00", "\xff\xff\xff\xff\x87\x00", "\x80\x80\x80\x80\x80\x01", "\xff\xff\xff\xff\xff\x01", // too long
		"\x80\x80\x80\x80\x80\x80\x80\x80\x80\x01", "\xff\xff\xff\xff\xff\xff\xff\xff\xff\x01", strings.Repeat("\x80", 100) + "\x01",
	} {
		holdGetVar(t, s, 0, 0, 0, api.ErrNumForm)
		holdGetVar(t, "\x05"+s, 1, 0, 0, api.ErrNumForm)
		holdGetVar(t, "\x85"+s, 1, 0, 0, api.ErrNumForm)
	}
	for _, at := range append(far(), 3, 4) {
		holdGetVar(t, "abc", at, 0, 0, api.ErrNumForm)
	}
}

// Every text of two bytes, and of three with the edges of seven bits in the middle, is read only if it begins as PutVar lays a number down.
func TestGetVarIsPutVarsWayBack(t *testing.T) {
	for _, middle := range []string{"", "\x00", "\x01", "\x7f", "\x80", "\x81", "\xff", "\x80\x80\x80", "\xff\xff\xff"} {
		for first := range 256 {
			for last := range 256 {
				s := string([]byte{byte(first)}) + middle + string([]byte{byte(last)})
				x, size := binary.Uvarint([]byte(s))
				if size > 0 && x <= most && few(int(x)) == s[:size] {
					holdGetVar(t, s, 0, int(x), size, api.OK)
				} else {
					holdGetVar(t, s, 0, 0, 0, api.ErrNumForm)
				}
			}
		}
	}
}

func TestThereAndBack(t *testing.T) {
	for step := range 70000 {
		x := step
		if step >= 35000 {
			x = most - (step-35000)*61355
		}
		s, _ := PutVar(x)
		holdGetVar(t, s, 0, x, len(s), api.OK)
		s, _ = Put(x, 4)
		holdGet(t, s, 0, 4, x, api.OK)
		s, _ = Put(-x, 8)
		holdGet(t, s, 0, 8, -x, api.OK)
	}
}

// R4: what is handed in reads as it did, and no two answers lie in the same memory.
func TestHandedInStays(t *testing.T) {
	s := strings.Clone("\x81\x02\x03\x04\x05\x06\x07\x08\xff\xff\xff\xff\x07")
	before := strings.Clone(s)
	for at := -1; at <= len(s)+1; at++ {
		Get(s, at, 4)
		Get(s, at, 8)
		GetVar(s, at)
	}
	if s != before {
		t.Errorf("R4: %q was %q", s, before)
	}
	for _, put := range []func() (string, api.Errno){
		func() (string, api.Errno) { return Put(300, 4) },
		func() (string, api.Errno) { return Put(-300, 8) },
		func() (string, api.Errno) { return PutVar(300) },
	} {
		one, _ := put()
		two, _ := put()
		if one != two || unsafe.StringData(one) == unsafe.StringData(two) {
			t.Errorf("R4: the answers %q and %q lie in the same memory", one, two)
		}
	}
}

// R5: the same answers from several goroutines at one time.
func TestAtOneTime(t *testing.T) {
	var wait sync.WaitGroup
	for g := range 8 {
		wait.Go(func() {
			for step := range 500 {
				x := 1000003*step + g
				holdPut(t, -x, 8, laid(-x, 8), api.OK)
				holdGet(t, laid(-x, 8), 0, 8, -x, api.OK)
				holdPut(t, x, 4, laid(x, 4), api.OK)
				holdGet(t, laid(x, 4), 0, 4, x, api.OK)
				holdPutVar(t, x, few(x), api.OK)
				holdGetVar(t, few(x), 0, x, len(few(x)), api.OK)
			}
		})
	}
	wait.Wait()
}
