package wire_test

import (
	"bytes"
	"fmt"
	"math"
	"math/big"
	"math/rand"
	"slices"
	"testing"

	"splittally/api"
	"splittally/wire"
)

// noWidths are numbers that are no widths: next to the ends, single high bits, the ends of all numbers.
var noWidths = []int{0, -1, -2, -8, -60, -64, 61, 62, 63, 64, 65, 68, 128, 256, 1<<32 + 8, math.MaxInt, math.MaxInt - 7, math.MinInt, math.MinInt + 8}

// most is the greatest number of so many bits, worked out without shifts.
func most(width int) int {
	v := 0
	for range width {
		v = 2*v + 1
	}
	return v
}

// sizeOf is how many bytes so many bits take, counted byte by byte.
func sizeOf(widths []int) int {
	bits, size := 0, 0
	for _, w := range widths {
		bits += w
	}
	for ; bits > 0; bits -= 8 {
		size++
	}
	return size
}

// record is what Pack should make: all fields as one great number, with the bits that are left behind it.
func record(l []api.Field) []byte {
	all, left := new(big.Int), 8*sizeOf(widthsOf(l))
	for _, f := range l {
		all.Mul(all, new(big.Int).Exp(big.NewInt(2), big.NewInt(int64(f.Width)), nil))
		all.Add(all, big.NewInt(int64(f.Value)))
		left -= f.Width
	}
	for range left {
		all.Add(all, all)
	}
	return all.FillBytes(make([]byte, sizeOf(widthsOf(l))))
}

func widthsOf(l []api.Field) []int {
	var widths []int
	for _, f := range l {
		widths = append(widths, f.Width)
	}
	return widths
}

func valuesOf(l []api.Field) []int {
	var values []int
	for _, f := range l {
		values = append(values, f.Value)
	}
	return values
}

// fields takes widths and values in turn.
func fields(l ...int) []api.Field {
	var out []api.Field
	for i := 0; i < len(l); i += 2 {
		out = append(out, api.Field{Width: l[i], Value: l[i+1]})
	}
	return out
}

// same is a list of n times the same.
func same[T any](n int, v T) []T { return slices.Repeat([]T{v}, n) }

func isSize(t *testing.T, widths []int, want int, code api.Errno) {
	t.Helper()
	if got, e := wire.Size(widths); got != want || e != code {
		t.Errorf("Size(%v): %d %d, want %d %d", widths, got, e, want, code)
	}
}

func isPack(t *testing.T, l []api.Field, want []byte, code api.Errno) {
	t.Helper()
	if got, e := wire.Pack(l); !bytes.Equal(got, want) || e != code {
		t.Errorf("Pack(%v): %v %d, want %v %d", l, got, e, want, code)
	}
}

func isUnpack(t *testing.T, widths []int, b []byte, want []int, code api.Errno) {
	t.Helper()
	if got, e := wire.Unpack(widths, b); !slices.Equal(got, want) || e != code {
		t.Errorf("Unpack(%v, %v): %v %d, want %v %d", widths, b, got, e, want, code)
	}
}

// isBoth checks that a record is packed to b, and b unpacked to it.
func isBoth(t *testing.T, l []api.Field, b []byte) {
	t.Helper()
	isSize(t, widthsOf(l), len(b), api.OK)
	isPack(t, l, b, api.OK)
	isUnpack(t, widthsOf(l), b, valuesOf(l), api.OK)
}

func TestSizeIsOfAllBitsRoundedUp(t *testing.T) { // P2.1
	isSize(t, nil, 0, api.OK)
	isSize(t, []int{}, 0, api.OK)
	isSize(t, []int{3, 6}, 2, api.OK)
	isSize(t, []int{3, 5}, 1, api.OK)
	isSize(t, []int{3, 5, 1}, 2, api.OK)
	isSize(t, same(8, 1), 1, api.OK)
	isSize(t, same(9, 1), 2, api.OK)
	isSize(t, same(40, 1), 5, api.OK)
	isSize(t, same(40, 60), 300, api.OK)
	isSize(t, same(39, 60), 293, api.OK)
	for width := 1; width <= 60; width++ {
		isSize(t, []int{width}, sizeOf([]int{width}), api.OK)
		isSize(t, []int{width, 1, width}, sizeOf([]int{width, 1, width}), api.OK)
	}
}

func TestSizeOfUpToMaxFields(t *testing.T) { // P2.1
	for n := range 41 {
		for _, width := range []int{1, 7, 8, 9, 59, 60} {
			isSize(t, same(n, width), sizeOf(same(n, width)), api.OK)
		}
	}
	for _, n := range []int{41, 42, 64, 80, 256 + 40, 65536, 100000} {
		isSize(t, same(n, 1), 0, api.ErrSize)
		isSize(t, same(n, 60), 0, api.ErrSize)
	}
}

func TestSizeRefusesWhatIsNoWidth(t *testing.T) { // P2.1
	for _, wrong := range noWidths {
		isSize(t, []int{wrong}, 0, api.ErrRange)
		isSize(t, []int{wrong, 8, 60}, 0, api.ErrRange)
		isSize(t, []int{8, wrong, 60}, 0, api.ErrRange)
		isSize(t, []int{8, 60, wrong}, 0, api.ErrRange)
		isSize(t, []int{wrong, wrong}, 0, api.ErrRange)
		isSize(t, append(same(39, 1), wrong), 0, api.ErrRange)
		// Too many is named first, wherever the wrong one stands.
		isSize(t, same(41, wrong), 0, api.ErrSize)
		isSize(t, append(same(40, 1), wrong), 0, api.ErrSize)
		isSize(t, append([]int{wrong}, same(40, 1)...), 0, api.ErrSize)
	}
}

func TestRecordsWrittenOut(t *testing.T) { // P2.2, P2.3
	for _, c := range []struct {
		l []api.Field
		b []byte
	}{
		{nil, nil},
		{[]api.Field{}, []byte{}},
		{fields(1, 0), []byte{0}},
		{fields(1, 1), []byte{0x80}},
		{fields(8, 0xa5), []byte{0xa5}},
		{fields(9, 0x101), []byte{0x80, 0x80}},
		{fields(7, 1), []byte{0x02}},
		{fields(3, 5, 6, 33), []byte{0xb0, 0x80}},
		{fields(3, 5, 5, 17), []byte{0xb1}},
		{fields(4, 0xa, 12, 0xbcd), []byte{0xab, 0xcd}},
		{fields(12, 0xabc, 12, 0xdef), []byte{0xab, 0xcd, 0xef}},
		{fields(1, 1, 8, 0), []byte{0x80, 0}},
		{fields(1, 0, 8, 0xff), []byte{0x7f, 0x80}},
		{fields(16, 0x0102, 24, 0x030405), []byte{1, 2, 3, 4, 5}},
		{fields(60, 0x123456789abcdef), []byte{0x12, 0x34, 0x56, 0x78, 0x9a, 0xbc, 0xde, 0xf0}},
		{fields(4, 1, 60, 0x23456789abcdef0), []byte{0x12, 0x34, 0x56, 0x78, 0x9a, 0xbc, 0xde, 0xf0}},
		{fields(60, 1<<60-1, 4, 1), []byte{255, 255, 255, 255, 255, 255, 255, 0xf1}},
		{fields(1, 1, 1, 0, 1, 1, 1, 1, 1, 0, 1, 0, 1, 1, 1, 0, 1, 1), []byte{0xb2, 0x80}},
	} {
		isBoth(t, c.l, c.b)
	}
}

func TestRecordsOfOneFieldAtEachWidth(t *testing.T) { // P2.2, P2.3
	for width := 1; width <= 60; width++ {
		top := most(width)
		for _, v := range []int{0, 1, top / 2, top/2 + 1, top - 1, top} {
			isBoth(t, fields(width, v), record(fields(width, v)))
			for ahead := 1; ahead <= 9; ahead++ {
				l := fields(ahead, most(ahead), width, v, 5, 9)
				isBoth(t, l, record(l))
				l = fields(ahead, 0, width, v, 5, 22)
				isBoth(t, l, record(l))
			}
		}
	}
}

func TestRecordsOfUpToMaxFields(t *testing.T) { // P2.2, P2.3
	for n := range 41 {
		for _, width := range []int{1, 3, 8, 60} {
			for _, v := range []int{0, 1, most(width)} {
				l := same(n, api.Field{Width: width, Value: v})
				isBoth(t, l, record(l))
			}
		}
	}
}

// anyRecord takes widths and values by chance, the same at each run.
func anyRecord(r *rand.Rand) []api.Field {
	l := make([]api.Field, r.Intn(41))
	for i := range l {
		l[i].Width = 1 + r.Intn(60)
		l[i].Value = r.Intn(most(l[i].Width) + 1)
	}
	return l
}

func TestManyRecords(t *testing.T) { // P2.1, P2.2, P2.3
	r := rand.New(rand.NewSource(2))
	for range 5000 {
		l := anyRecord(r)
		isBoth(t, l, record(l))
	}
}

func TestPackRefusesTooManyFieldsAheadOfAllElse(t *testing.T) { // P2.2
	for _, f := range []api.Field{{Width: 1}, {Width: 60, Value: 7}, {Width: 0}, {Width: 61}, {Width: -1, Value: -1}, {Width: 3, Value: 8}, {Width: 3, Value: -1}} {
		isPack(t, same(41, f), nil, api.ErrSize)
		isPack(t, same(100000, f), nil, api.ErrSize)
		isPack(t, append(same(40, api.Field{Width: 1}), f), nil, api.ErrSize)
		isPack(t, append([]api.Field{f}, same(40, api.Field{Width: 1})...), nil, api.ErrSize)
	}
}

func TestPackRefusesWhatIsNoWidthAheadOfValues(t *testing.T) { // P2.2
	for _, wrong := range noWidths {
		for _, v := range []int{0, 1, -1, math.MaxInt, math.MinInt} {
			isPack(t, fields(wrong, v), nil, api.ErrRange)
			isPack(t, fields(8, 255, wrong, v), nil, api.ErrRange)
			isPack(t, fields(wrong, v, 8, 255), nil, api.ErrRange)
			isPack(t, fields(8, 256, wrong, v), nil, api.ErrRange)
			isPack(t, fields(8, -1, 60, 0, wrong, v), nil, api.ErrRange)
			isPack(t, fields(wrong, v, 8, 256), nil, api.ErrRange)
		}
		isPack(t, append(same(39, api.Field{Width: 2, Value: 4}), api.Field{Width: wrong}), nil, api.ErrRange)
	}
}

func TestPackRefusesValuesThatDoNotFit(t *testing.T) { // P2.2
	for width := 1; width <= 60; width++ {
		first := most(width) + 1
		for _, v := range []int{first, first + 1, 2 * first, 4 * first, math.MaxInt, -1, -2, -first, -first - 1, math.MinInt, math.MinInt + 1} {
			isPack(t, fields(width, v), nil, api.ErrOver)
			isPack(t, fields(width, v, 8, 255), nil, api.ErrOver)
			isPack(t, fields(8, 255, width, v, 8, 255), nil, api.ErrOver)
			isPack(t, append(same(39, api.Field{Width: 60}), api.Field{Width: width, Value: v}), nil, api.ErrOver)
		}
	}
}

func TestUnpackRefusesWidthsAsSizeDoes(t *testing.T) { // P2.3
	for _, b := range [][]byte{nil, {}, {0}, {255}, make([]byte, 6), make([]byte, 300)} {
		isUnpack(t, same(41, 1), b, nil, api.ErrSize)
		isUnpack(t, same(41, 60), b, nil, api.ErrSize)
		isUnpack(t, make([]int, 41), b, nil, api.ErrSize)
		isUnpack(t, same(100000, 8), b, nil, api.ErrSize)
		for _, wrong := range noWidths {
			isUnpack(t, []int{wrong}, b, nil, api.ErrRange)
			isUnpack(t, []int{3, wrong}, b, nil, api.ErrRange)
			isUnpack(t, []int{wrong, 3}, b, nil, api.ErrRange)
			isUnpack(t, append(same(39, 8), wrong), b, nil, api.ErrRange)
			isUnpack(t, append(same(40, 8), wrong), b, nil, api.ErrSize)
		}
	}
}

func TestUnpackRefusesBytesTooFewOrTooMany(t *testing.T) { // P2.3
	isUnpack(t, nil, []byte{0}, nil, api.ErrForm)
	isUnpack(t, []int{}, []byte{0}, nil, api.ErrForm)
	for _, widths := range [][]int{{1}, {8}, {3, 6}, {60}, {60, 4}, same(40, 60), same(40, 1)} {
		size := sizeOf(widths)
		for n := range 310 {
			if n != size {
				isUnpack(t, widths, make([]byte, n), nil, api.ErrForm)
				// Too many or too few, and one of the bits that are left not 0.
				isUnpack(t, widths, bytes.Repeat([]byte{255}, n), nil, api.ErrForm)
			}
		}
		isUnpack(t, widths, make([]byte, size), make([]int, len(widths)), api.OK)
	}
}

func TestUnpackRefusesEachBitThatIsLeft(t *testing.T) { // P2.3
	for width := 1; width <= 60; width++ {
		for _, widths := range [][]int{{width}, {3, width}, append(same(39, 60), width)} {
			size := sizeOf(widths)
			left := 8 * size
			for _, w := range widths {
				left -= w
			}
			for k := range left {
				b := make([]byte, size)
				b[size-1] = byte(most(k) + 1)
				isUnpack(t, widths, b, nil, api.ErrForm)
				// And with each bit of the fields 1.
				spoil(b, 255)
				b[size-1] = byte(255 - most(left) + most(k) + 1)
				isUnpack(t, widths, b, nil, api.ErrForm)
			}
		}
	}
	isUnpack(t, []int{3, 6}, []byte{176, 128 + 64}, nil, api.ErrForm)
	isUnpack(t, []int{3, 6}, []byte{176, 128 + 1}, nil, api.ErrForm)
	isUnpack(t, []int{3, 6}, []byte{176 + 1, 128}, []int{5, 35}, api.OK)
}

func TestRecordsAreAsLongAsTheirWidthsSay(t *testing.T) { // what comes of P2.1 and P2.2
	r := rand.New(rand.NewSource(3))
	for range 500 {
		l := anyRecord(r)
		size, _ := wire.Size(widthsOf(l))
		for range 5 {
			for i := range l {
				l[i].Value = r.Intn(most(l[i].Width) + 1)
			}
			if b, e := wire.Pack(l); len(b) != size || e != api.OK {
				t.Errorf("Pack(%v): %d bytes %d, want %d 0", l, len(b), e, size)
			}
		}
	}
}

func TestRecordsStandInTheOrderOfTheirValues(t *testing.T) { // what comes of P2.2
	r := rand.New(rand.NewSource(4))
	for range 2000 {
		a := anyRecord(r)
		b := slices.Clone(a)
		for i := range b {
			// Most values stay, so that the order is often told late.
			if r.Intn(8) == 0 {
				b[i].Value = r.Intn(most(b[i].Width) + 1)
			}
		}
		x, _ := wire.Pack(a)
		y, _ := wire.Pack(b)
		if got, want := bytes.Compare(x, y), slices.Compare(valuesOf(a), valuesOf(b)); got != want {
			t.Errorf("%v and %v stand as %d, want %d", a, b, got, want)
		}
	}
}

func TestListsAndTheRoomBehindThemAreLeft(t *testing.T) { // 'What holds everywhere'
	for _, widths := range [][]int{{3, 6}, {3, 0}, {60, 4}} {
		for _, data := range [][]byte{{176, 128}, {176, 129}, {176}, {255, 255, 255, 255, 255, 255, 255, 241}} {
			for _, values := range [][]int{{5, 33}, {8, 33}, {-1, 9}} {
				w := append(slices.Clone(widths), 7, 8, 9)
				b := append(slices.Clone(data), 7, 8, 9)
				l := fields(widths[0], values[0], widths[1], values[1], 7, 7, 8, 8)
				w2, b2, l2 := slices.Clone(w), slices.Clone(b), slices.Clone(l)
				wire.Size(w[:2])
				wire.Unpack(w[:2], b[:len(data)])
				wire.Pack(l[:2])
				if !slices.Equal(w, w2) || !bytes.Equal(b, b2) || !slices.Equal(l, l2) {
					t.Errorf("%v, %v and %v became %v, %v and %v", w2, b2, l2, w, b, l)
				}
			}
		}
	}
}

// spoil writes over a list and the room behind it.
func spoil[T any](l []T, v T) {
	l = l[:cap(l)]
	for i := range l {
		l[i] = v
	}
}

func TestAnswersAreNewMemory(t *testing.T) { // 'What holds everywhere'
	r := rand.New(rand.NewSource(5))
	for range 200 {
		l := anyRecord(r)
		widths, kept := widthsOf(l), slices.Clone(l)
		first, _ := wire.Pack(l)
		second, _ := wire.Pack(l)
		want := slices.Clone(second)
		spoil(first, 0xee)
		isPack(t, l, want, api.OK)
		one, _ := wire.Unpack(widths, second)
		two, _ := wire.Unpack(widths, second)
		spoil(one, -1)
		if !bytes.Equal(second, want) || !slices.Equal(two, valuesOf(kept)) || !slices.Equal(l, kept) || !slices.Equal(widths, widthsOf(kept)) {
			t.Errorf("of %v a change of one answer is seen elsewhere", kept)
		}
		spoil(second, 0xee)
		spoil(widths, -1)
		if !slices.Equal(two, valuesOf(kept)) {
			t.Errorf("Unpack keeps what it was handed, at %v", kept)
		}
	}
}

// Example: as README.md tells it.
func Example() {
	b, _ := wire.Pack([]api.Field{{Width: 3, Value: 5}, {Width: 6, Value: 33}})
	fmt.Println(b)
	fmt.Println(wire.Size([]int{3, 6}))
	fmt.Println(wire.Unpack([]int{3, 6}, b))
	fmt.Println(wire.Unpack([]int{3, 6}, []byte{176, 129}))
	// Output:
	// [176 128]
	// 2 0
	// [5 33] 0
	// [] 4
}
