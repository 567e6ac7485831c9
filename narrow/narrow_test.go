package narrow

import (
	"math"
	"math/big"
	"slices"
	"testing"

	"cartulary/api"
)

// numbers are those about every power of two, and some that have unlike bytes.
func numbers() []int {
	out := []int{0x0102030405060708, -0x0102030405060708, 258, 200, 40000, 0x7a5c_91e3}
	for i := range 64 {
		p := 1 << i
		out = append(out, p-1, p, p+1, -p-1, -p, -p+1)
	}
	return out
}

func shifts() []int {
	out := []int{100, 127, 128, 255, 256, 1 << 32, 1<<32 + 1, math.MaxInt}
	for by := range 67 {
		out = append(out, by)
	}
	return out
}

func noKinds() []int { return []int{math.MinInt, -1, 0, 9, 10, 256 + 1, 1<<32 + 1, math.MaxInt} }

func width(kind int) uint { return []uint{8, 16, 32, 64}[(kind-1)%4] }

// told is x as the kind has it, by arithmetic without bounds: what is left of x beyond all the kind's numbers.
func told(kind int, x *big.Int) int {
	all := new(big.Int).Lsh(big.NewInt(1), width(kind))
	m := new(big.Int).Mod(x, all)
	signed := kind <= 4 || kind == 8 // 64 bits without a sign are told as an int too
	if signed && m.Bit(int(width(kind))-1) == 1 {
		m.Sub(m, all)
	}
	return int(m.Int64())
}

// value is the number that the kind takes n for, which of kind 8 may be more than an int.
func value(kind, n int) *big.Int {
	x := big.NewInt(int64(told(kind, big.NewInt(int64(n)))))
	if kind == 8 && x.Sign() < 0 {
		x.Add(x, new(big.Int).Lsh(big.NewInt(1), 64))
	}
	return x
}

func same(t *testing.T, call string, args []int, got int, e api.Errno, want int) {
	t.Helper()
	if got != want || e != api.OK {
		t.Errorf("%s(%v): %d, %v; want %d", call, args, got, e, want)
	}
}

func refused(t *testing.T, call string, args []int, got int, e api.Errno) {
	t.Helper()
	if got != 0 || e != api.ErrArg {
		t.Errorf("%s(%v): %d, %v; want 0, ErrArg", call, args, got, e)
	}
}

func TestExamples(t *testing.T) {
	n, e := To(1, 200)
	same(t, "To", []int{1, 200}, n, e, -56)
	n, e = To(5, -1)
	same(t, "To", []int{5, -1}, n, e, 255)
	n, e = Right(1, -8, 1)
	same(t, "Right", []int{1, -8, 1}, n, e, -4)
	n, e = Right(5, -8, 1)
	same(t, "Right", []int{5, -8, 1}, n, e, 124)
	n, e = Left(2, 1, 15)
	same(t, "Left", []int{2, 1, 15}, n, e, -32768)
	n, e = Swap(6, 258)
	same(t, "Swap", []int{6, 258}, n, e, 513)
	n, e = Field(3, 1, 2)
	same(t, "Field", []int{3, 1, 2}, n, e, 1)
}

// 1.1
func TestTo(t *testing.T) {
	for kind := 1; kind <= 8; kind++ {
		for _, n := range numbers() {
			got, e := To(kind, n)
			same(t, "To", []int{kind, n}, got, e, told(kind, big.NewInt(int64(n))))
		}
	}
}

// 1.1: the first and the last number of each kind, and those beside them.
func TestToEdges(t *testing.T) {
	for _, c := range [][3]int{
		{1, -128, -128}, {1, 127, 127}, {1, 128, -128}, {1, -129, 127}, {1, 255, -1}, {1, 256, 0},
		{2, -32768, -32768}, {2, 32767, 32767}, {2, 32768, -32768}, {2, -32769, 32767},
		{3, -1 << 31, -1 << 31}, {3, 1<<31 - 1, 1<<31 - 1}, {3, 1 << 31, -1 << 31}, {3, -1<<31 - 1, 1<<31 - 1},
		{4, math.MinInt, math.MinInt}, {4, math.MaxInt, math.MaxInt},
		{5, 0, 0}, {5, 255, 255}, {5, 256, 0}, {5, -1, 255}, {5, -256, 0},
		{6, 65535, 65535}, {6, 65536, 0}, {6, -1, 65535},
		{7, 1<<32 - 1, 1<<32 - 1}, {7, 1 << 32, 0}, {7, -1, 1<<32 - 1},
		{8, -1, -1}, {8, math.MinInt, math.MinInt}, {8, math.MaxInt, math.MaxInt},
	} {
		got, e := To(c[0], c[1])
		same(t, "To", c[:2], got, e, c[2])
		if Fits(c[0], c[1]) != (c[1] == c[2]) {
			t.Errorf("Fits(%v): %v", c[:2], Fits(c[0], c[1]))
		}
	}
}

// 1.1
func TestFits(t *testing.T) {
	for kind := 1; kind <= 8; kind++ {
		for _, n := range numbers() {
			if want := told(kind, big.NewInt(int64(n))) == n; Fits(kind, n) != want {
				t.Errorf("Fits(%d, %d): %v", kind, n, !want)
			}
		}
	}
	for _, kind := range noKinds() {
		if Fits(kind, 0) || Fits(kind, 1) {
			t.Errorf("Fits(%d, ..): true", kind)
		}
	}
}

// 1.2
func TestLeft(t *testing.T) {
	for kind := 1; kind <= 8; kind++ {
		for _, n := range numbers() {
			for _, by := range shifts() {
				far := uint(min(by, 64)) // as far as all bits of any kind are out
				want := told(kind, new(big.Int).Lsh(value(kind, n), far))
				got, e := Left(kind, n, by)
				same(t, "Left", []int{kind, n, by}, got, e, want)
			}
		}
	}
}

// 1.2
func TestRight(t *testing.T) {
	for kind := 1; kind <= 8; kind++ {
		for _, n := range numbers() {
			for _, by := range shifts() {
				far := uint(min(by, 64))
				want := told(kind, new(big.Int).Rsh(value(kind, n), far))
				got, e := Right(kind, n, by)
				same(t, "Right", []int{kind, n, by}, got, e, want)
			}
		}
	}
}

// 1.2
func TestSwap(t *testing.T) {
	for kind := 1; kind <= 8; kind++ {
		for _, n := range numbers() {
			bytes := make([]byte, width(kind)/8)
			new(big.Int).Mod(value(kind, n), new(big.Int).Lsh(big.NewInt(1), width(kind))).FillBytes(bytes)
			slices.Reverse(bytes)
			want := told(kind, new(big.Int).SetBytes(bytes))
			got, e := Swap(kind, n)
			same(t, "Swap", []int{kind, n}, got, e, want)
		}
	}
}

// 1.1, 1.2: a kind that is none is refused, and so is a shift below 0; with nothing beside the error.
func TestWrongKindsAndShifts(t *testing.T) {
	for _, kind := range noKinds() {
		for _, n := range []int{0, 1, -1, math.MaxInt, math.MinInt} {
			got, e := To(kind, n)
			refused(t, "To", []int{kind, n}, got, e)
			got, e = Swap(kind, n)
			refused(t, "Swap", []int{kind, n}, got, e)
			for _, by := range []int{-1, 0, 1, 64} {
				got, e = Left(kind, n, by)
				refused(t, "Left", []int{kind, n, by}, got, e)
				got, e = Right(kind, n, by)
				refused(t, "Right", []int{kind, n, by}, got, e)
			}
		}
	}
	for kind := 1; kind <= 8; kind++ {
		for _, by := range []int{-1, -8, -64, math.MinInt} {
			got, e := Left(kind, 5, by)
			refused(t, "Left", []int{kind, 5, by}, got, e)
			got, e = Right(kind, 5, by)
			refused(t, "Right", []int{kind, 5, by}, got, e)
		}
	}
}

// bit is the i'th of the 64 bits of n.
func bit(n, i int) int { return int(uint64(n) >> i & 1) }

// 1.3
func TestField(t *testing.T) {
	for _, n := range numbers() {
		for w := 1; w <= 62; w++ {
			for at := 0; at+w <= 64; at++ {
				want := 0
				for i := range w {
					want += bit(n, at+i) << i
				}
				got, e := Field(n, at, w)
				same(t, "Field", []int{n, at, w}, got, e, want)
			}
		}
	}
}

// 1.3, 1.4: a field tells what was put, and no other bit is changed.
func TestPut(t *testing.T) {
	for _, n := range []int{0, -1, math.MaxInt, math.MinInt, 0x0123456789abcdef} {
		for w := 1; w <= 62; w++ {
			for at := 0; at+w <= 64; at++ {
				for _, v := range []int{0, 1, 1<<w - 1, 1 << (w - 1), 0x2f0e1d2c3b4a5968 & (1<<w - 1)} {
					checkPut(t, n, at, w, v)
				}
			}
		}
	}
}

func checkPut(t *testing.T, n, at, w, v int) {
	t.Helper()
	got, e := Put(n, at, w, v)
	if e != api.OK {
		t.Fatalf("Put(%d, %d, %d, %d): %v", n, at, w, v, e)
	}
	for i := range 64 {
		want := bit(n, i)
		if i >= at && i < at+w {
			want = bit(v, i-at)
		}
		if bit(got, i) != want {
			t.Fatalf("Put(%d, %d, %d, %d): %x: bit %d", n, at, w, v, got, i)
		}
	}
	told, e := Field(got, at, w)
	same(t, "Field", []int{got, at, w}, told, e, v)
}

// 1.3: places that are no field, and numbers that are none of its width.
func TestWrongFields(t *testing.T) {
	for _, c := range [][2]int{
		{-1, 1}, {-1, 62}, {math.MinInt, 1}, {math.MinInt, 62},
		{0, 0}, {0, -1}, {0, 63}, {0, 64}, {1, 63}, {5, math.MinInt}, {5, math.MaxInt},
		{64, 1}, {63, 2}, {3, 62}, {65, 1}, {2, 63}, {math.MaxInt, 1}, {math.MaxInt, 62}, {math.MaxInt - 61, 62},
	} {
		got, e := Field(-1, c[0], c[1])
		refused(t, "Field", []int{-1, c[0], c[1]}, got, e)
		got, e = Put(-1, c[0], c[1], 0)
		refused(t, "Put", []int{-1, c[0], c[1], 0}, got, e)
	}
	for w := 1; w <= 62; w++ {
		for _, v := range []int{-1, math.MinInt, -1 << w, 1 << w, 1<<w + 1, math.MaxInt} {
			got, e := Put(-1, 1, w, v)
			refused(t, "Put", []int{-1, 1, w, v}, got, e)
		}
	}
}

// 1.4: what was shifted left comes back, if all its bits stayed within.
func TestLeftAndBack(t *testing.T) {
	for kind := 1; kind <= 8; kind++ {
		highest := new(big.Int).Lsh(big.NewInt(1), width(kind))
		lowest := big.NewInt(0)
		if kind <= 4 {
			highest.Rsh(highest, 1)
			lowest.Neg(highest)
		}
		for _, n := range numbers() {
			for by := range 65 {
				moved := new(big.Int).Lsh(value(kind, n), uint(by))
				if moved.Cmp(lowest) < 0 || moved.Cmp(highest) >= 0 {
					continue
				}
				left, _ := Left(kind, n, by)
				back, e := Right(kind, left, by)
				same(t, "Right of Left", []int{kind, n, by}, back, e, told(kind, big.NewInt(int64(n))))
			}
		}
	}
}

// 1.4
func TestSwapTwice(t *testing.T) {
	for kind := 1; kind <= 8; kind++ {
		for _, n := range numbers() {
			once, _ := Swap(kind, n)
			twice, e := Swap(kind, once)
			same(t, "Swap of Swap", []int{kind, n}, twice, e, told(kind, big.NewInt(int64(n))))
		}
	}
}

// P1, R4 and R6: at all arguments a call ends without a panic, has nothing beside an error, and answers the same again.
func TestTotal(t *testing.T) {
	type answer struct {
		n int
		e api.Errno
	}
	tell := func(n int, e api.Errno) answer { return answer{n, e} }
	odd := []int{math.MinInt, math.MinInt + 1, -65, -64, -1, 0, 1, 4, 5, 8, 9, 62, 63, 64, 65, 1 << 32, math.MaxInt - 1, math.MaxInt}
	all := func(a, b, c, d int) [6]answer {
		return [6]answer{tell(To(a, b)), tell(Left(a, b, c)), tell(Right(a, b, c)), tell(Swap(a, b)), tell(Field(a, b, c)), tell(Put(a, b, c, d))}
	}
	for _, a := range odd {
		for _, b := range odd {
			if Fits(a, b) != Fits(a, b) {
				t.Errorf("Fits(%d, %d) is not the same twice", a, b)
			}
			for _, c := range odd {
				for _, d := range odd {
					once := all(a, b, c, d)
					if once != all(a, b, c, d) {
						t.Fatalf("%d, %d, %d, %d: not the same twice", a, b, c, d)
					}
					for i, x := range once {
						if x.e != api.OK && x != (answer{0, api.ErrArg}) {
							t.Errorf("call %d of %d, %d, %d, %d: %v", i, a, b, c, d, x)
						}
					}
				}
			}
		}
	}
}
