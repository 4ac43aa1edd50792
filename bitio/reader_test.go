package bitio_test

import (
	"bytes"
	"math"
	"math/big"
	"math/rand"
	"strings"
	"testing"

	"cellular/api"
	"cellular/bitio"
)

// compare makes one call of a reader and of its model, and compares the results and what is left.
func compare(t *testing.T, r *bitio.Reader, model *modelReader, c call) {
	t.Helper()
	bits := model.bits
	got, e := c.read(r)
	want, f := c.read(model)
	if got != want || e != f {
		t.Errorf("the call %v of a reader of %.200q returns %d, %d, not %d, %d", c, bits, got, e, want, f)
	}
	if r.Left() != len(model.bits) || r.End() != model.End() {
		t.Errorf("after %v of %.200q, Left is %d, not %d, and End is %v", c, bits, r.Left(), len(model.bits), r.End())
	}
}

// P2.2
func TestReaderExamples(t *testing.T) {
	r := readerOf(t, "00101000")
	if n, e := r.Gamma(); n != 4 || e != api.OK || r.Left() != 3 || !r.End() {
		t.Error("the byte 40 is", n, e, r.Left(), r.End())
	}
	r = readerOf(t, "00000001")
	if v, e := r.Bits(9); v != 0 || e != api.ErrShort {
		t.Error("nine bits of a byte are", v, e)
	}
	if v, e := r.Bits(8); v != 1 || e != api.OK {
		t.Error("the byte 1 is", v, e)
	}
	r = readerOf(t, strings.Repeat("0", 64)+"11111111")
	if n, e := r.Gamma(); n != 0 || e != api.ErrForm {
		t.Error("the code with 64 zeros is", n, e)
	}
}

// P2.2
func TestReaderBits(t *testing.T) {
	bits := strings.Repeat("1011000111", 20)
	for skipped := range 17 {
		for n := range 65 {
			r, model := readerOf(t, bits), &modelReader{bits}
			compare(t, r, model, call{kind: kindBits, n: skipped})
			compare(t, r, model, call{kind: kindBits, n: n})
			compare(t, r, model, call{kind: kindBits, n: 64})
		}
	}
}

// P2.2
func TestBitsAtTheEnd(t *testing.T) {
	for size := range 10 {
		for n := range 65 {
			bits := strings.Repeat("10111001", size)
			compare(t, readerOf(t, bits), &modelReader{bits}, call{kind: kindBits, n: n})
		}
	}
	r := readerOf(t, "")
	if v, e := r.Bits(0); v != 0 || e != api.OK || r.Left() != 0 || !r.End() {
		t.Error("no bits of no bytes are", v, e)
	}
	if v, e := r.Bits(1); v != 0 || e != api.ErrShort {
		t.Error("a bit of no bytes is", v, e)
	}
}

// P2.2, P2.5
func TestCodesOfTwoBytes(t *testing.T) {
	for v := range 1 << 16 {
		b := []byte{byte(v >> 8), byte(v)}
		r, e := bitio.NewReader(b)
		if e != api.OK {
			t.Fatal(e)
		}
		model := &modelReader{bitsOf(b)}
		for range 4 {
			compare(t, r, model, call{kind: kindGamma})
		}
	}
}

// greatCodes returns codes with up to 64 zeros, and what is left of them when they end too early.
func greatCodes() []string {
	var list []string
	for zeros := range 66 {
		begin := strings.Repeat("0", zeros)
		for _, end := range []string{strings.Repeat("0", zeros), strings.Repeat("1", zeros), strings.Repeat("01", zeros)[:zeros]} {
			list = append(list, begin+"1"+end, begin+"1"+end+"1011", begin)
			if zeros > 0 {
				list = append(list, begin+"1"+end[1:], begin+"1"+end[:zeros-1]+"1", begin+"1"+end[:zeros/2])
			}
		}
	}
	return list
}

// P2.2, P2.5
func TestGreatCodes(t *testing.T) {
	for _, code := range greatCodes() {
		// Bits before the code move its end through the bytes, so that some codes end in the middle of the last one.
		for before := range 8 {
			bits := strings.Repeat("1", before) + code
			for _, kind := range []int{kindGamma, kindSigned} {
				r, model := readerOf(t, bits), &modelReader{bitsOf(bytesOf(bits))}
				compare(t, r, model, call{kind: kindBits, n: before})
				compare(t, r, model, call{kind: kind})
				compare(t, r, model, call{kind: kind})
			}
		}
	}
}

// P2.2
func TestLimitsOfCodes(t *testing.T) {
	zeros := strings.Repeat("0", 63)
	for _, c := range []struct {
		bits          string
		gamma, signed int
		e             api.Errno
	}{
		{zeros + "1" + zeros + "0", math.MaxInt, -1 << 62, api.OK},
		{zeros[1:] + "1" + strings.Repeat("1", 62) + "000", math.MaxInt - 1, 1<<62 - 1, api.OK},
		{zeros + "1" + zeros[1:] + "10", 0, 0, api.ErrForm},
		{zeros + "1" + zeros[:56], 0, 0, api.ErrShort},
		{zeros + "1" + strings.Repeat("1", 56), 0, 0, api.ErrShort},
		{zeros + "0", 0, 0, api.ErrForm},
		{zeros + "01", 0, 0, api.ErrForm},
		{zeros + "1", 0, 0, api.ErrShort},
		{zeros[:56], 0, 0, api.ErrShort},
		{"", 0, 0, api.ErrShort},
		{"1", 0, 0, api.OK},
		{"010", 1, -1, api.OK},
		{"011", 2, 1, api.OK},
	} {
		r := readerOf(t, c.bits)
		if n, e := r.Gamma(); n != c.gamma || e != c.e {
			t.Errorf("Gamma of %s is %d, %d", c.bits, n, e)
		}
		r = readerOf(t, c.bits)
		if n, e := r.Signed(); n != c.signed || e != c.e {
			t.Errorf("Signed of %s is %d, %d", c.bits, n, e)
		}
	}
}

// P2.2
func TestSixtyThreeZerosAtTheEnd(t *testing.T) {
	for _, kind := range []int{kindGamma, kindSigned} {
		r, model := readerOf(t, strings.Repeat("0", 64)), &modelReader{strings.Repeat("0", 64)}
		compare(t, r, model, call{kind: kind})
		compare(t, r, model, call{kind: kindBits, n: 1})
		if _, e := (call{kind: kind}).read(r); e != api.ErrShort || r.Left() != 63 {
			t.Error("63 zeros at the end are", e, r.Left())
		}
	}
}

// P2.2
func TestFailedReadsKeepThePosition(t *testing.T) {
	for _, c := range []struct {
		bits string
		call call
		e    api.Errno
	}{
		{"10110", call{kind: kindBits, n: -1}, api.ErrArg},
		{"10110", call{kind: kindBits, n: 65}, api.ErrArg},
		{"10110", call{kind: kindBits, n: 14}, api.ErrShort},
		{"10110", call{kind: kindBits, n: 64}, api.ErrShort},
		{"00000", call{kind: kindGamma}, api.ErrShort},
		{"00000001", call{kind: kindGamma}, api.ErrShort},
		{strings.Repeat("0", 64) + "1", call{kind: kindGamma}, api.ErrForm},
		{strings.Repeat("0", 63) + "1" + strings.Repeat("1", 63), call{kind: kindGamma}, api.ErrForm},
		{"00000", call{kind: kindSigned}, api.ErrShort},
		{"00000001", call{kind: kindSigned}, api.ErrShort},
		{strings.Repeat("0", 64) + "1", call{kind: kindSigned}, api.ErrForm},
		{strings.Repeat("0", 63) + "1" + strings.Repeat("1", 63), call{kind: kindSigned}, api.ErrForm},
	} {
		bits := bitsOf(bytesOf("011" + c.bits))
		r := readerOf(t, bits)
		if v, e := r.Bits(3); v != 3 || e != api.OK {
			t.Error("the first three bits are", v, e)
		}
		for range 2 {
			if v, e := c.call.read(r); v != 0 || e != c.e {
				t.Errorf("%v of %s returns %d, %d, not %d", c.call, c.bits, v, e, c.e)
			}
			if r.Left() != len(bits)-3 {
				t.Errorf("the failed read %v of %s leaves %d bits", c.call, c.bits, r.Left())
			}
		}
		for _, want := range bits[3:] {
			if v, e := r.Bits(1); v != uint64(want-'0') || e != api.OK {
				t.Errorf("the next bit after the failed read %v of %s is %d, %d", c.call, c.bits, v, e)
			}
		}
	}
}

// P2.2
func TestReaderErrorsInOrder(t *testing.T) {
	var none *bitio.Reader
	for _, n := range []int{-1, 0, 1, 65} {
		if v, e := none.Bits(n); v != 0 || e != api.ErrNil {
			t.Error("Bits of a nil reader returns", v, e)
		}
	}
	if n, e := none.Gamma(); n != 0 || e != api.ErrNil {
		t.Error("Gamma of a nil reader returns", n, e)
	}
	if n, e := none.Signed(); n != 0 || e != api.ErrNil {
		t.Error("Signed of a nil reader returns", n, e)
	}
	if none.Left() != 0 || none.End() {
		t.Error("Left and End of a nil reader are", none.Left(), none.End())
	}
	for _, bits := range []string{"", strings.Repeat("1", 800)} {
		r := readerOf(t, bits)
		for _, n := range []int{-1, -64, 65, 800, math.MinInt, math.MaxInt} {
			if v, e := r.Bits(n); v != 0 || e != api.ErrArg {
				t.Errorf("Bits(%d) returns %d, %d", n, v, e)
			}
		}
	}
}

// P2.2
func TestNewReader(t *testing.T) {
	b := bytes.Repeat([]byte{0xa5}, api.MaxBytes+1)
	if r, e := bitio.NewReader(b); r != nil || e != api.ErrSize {
		t.Error("a reader of too many bytes is", r, e)
	}
	r, e := bitio.NewReader(b[:api.MaxBytes])
	if e != api.OK || r.Left() != maxBits || r.End() {
		t.Fatal("a reader of the greatest number of bytes is", r, e)
	}
	clear(b)
	for range api.MaxBytes {
		if v, e := r.Bits(8); v != 0xa5 || e != api.OK {
			t.Fatal("a reader does not read the bytes as they were:", v, e)
		}
	}
	if r.Left() != 0 || !r.End() {
		t.Error("bits are left:", r.Left())
	}
	if r, e := bitio.NewReader(nil); r == nil || e != api.OK || r.Left() != 0 || !r.End() {
		t.Error("a reader of no bytes is", r, e)
	}
}

// P2.2
func TestReadingChangesNoBytes(t *testing.T) {
	b := []byte{0, 1, 2, 0x80, 0xff}
	before := bytes.Clone(b)
	r, _ := bitio.NewReader(b)
	again, _ := bitio.NewReader(b)
	r.Gamma()
	r.Bits(3)
	r.Signed()
	if !bytes.Equal(b, before) || again.Left() != 40 {
		t.Error("reading changes the bytes, or another reader")
	}
}

// P2.2
func TestEnd(t *testing.T) {
	for v := range 256 {
		for n := range 9 {
			r, _ := bitio.NewReader([]byte{0, byte(v)})
			if r.End() {
				t.Error("sixteen bits are the end")
			}
			r.Bits(8)
			r.Bits(n)
			if want := n > 0 && v&(1<<(8-n)-1) == 0; r.End() != want || r.Left() != 8-n {
				t.Errorf("after %d bits of %d, End is %v, and Left is %d", n, v, r.End(), r.Left())
			}
		}
	}
}

// P2.2
func TestReaderSequences(t *testing.T) {
	random := rand.New(rand.NewSource(2))
	for range 3000 {
		b := make([]byte, random.Intn(60))
		random.Read(b)
		if random.Intn(2) == 0 {
			// Many zeros make great codes.
			for i := range b {
				b[i] &= byte(random.Intn(256)) & byte(random.Intn(256)) & byte(random.Intn(256))
			}
		}
		r, _ := bitio.NewReader(b)
		model := &modelReader{bitsOf(b)}
		for range random.Intn(40) {
			compare(t, r, model, anyCall(random))
		}
	}
}

// P2.3
func TestRoundTrip(t *testing.T) {
	random := rand.New(rand.NewSource(3))
	for range 1000 {
		var w bitio.Writer
		var calls []call
		for range random.Intn(40) {
			if c := anyCall(random); c.write(&w) == api.OK {
				calls = append(calls, c)
			}
		}
		r, e := bitio.NewReader(w.Bytes())
		if e != api.OK {
			t.Fatal(e)
		}
		for _, c := range calls {
			if v, e := c.read(r); v != c.written() || e != api.OK {
				t.Errorf("what %v wrote is read as %d, %d", c, v, e)
			}
		}
		if !r.End() || r.Left() != 8*len(w.Bytes())-w.Len() {
			t.Errorf("at the end %d bits are left", r.Left())
		}
	}
}

// P2.3
func TestRoundTripOfAFullWriter(t *testing.T) {
	w := full(t, 127+127+64)
	calls := []call{{kind: kindGamma, n: math.MaxInt}, {kind: kindSigned, n: -1 << 62}, {kind: kindBits, n: 64, v: math.MaxUint64}}
	for _, c := range calls {
		if e := c.write(w); e != api.OK {
			t.Fatal(c, e)
		}
	}
	r, e := bitio.NewReader(w.Bytes())
	if e != api.OK {
		t.Fatal(e)
	}
	for r.Left() > 127+127+64 {
		n := min(64, r.Left()-127-127-64)
		if v, e := r.Bits(n); v != 1<<n-1 || e != api.OK {
			t.Fatal(v, e)
		}
	}
	for _, c := range calls {
		if v, e := c.read(r); v != c.written() || e != api.OK {
			t.Errorf("what %v wrote is read as %d, %d", c, v, e)
		}
	}
	if r.Left() != 0 || !r.End() {
		t.Error("bits are left:", r.Left())
	}
}

// P2.5
func TestOneCode(t *testing.T) {
	random := rand.New(rand.NewSource(4))
	read := 0
	for range 20000 {
		zeros := random.Intn(64)
		b := bytesOf(strings.Repeat("0", zeros) + "1" + digitsOf(new(big.Int).SetUint64(random.Uint64()), 64))
		r, _ := bitio.NewReader(b)
		before := r.Left()
		n, e := r.Gamma()
		if e != api.OK {
			continue
		}
		read++
		var w bitio.Writer
		if e := w.Gamma(n); e != api.OK {
			t.Fatalf("Gamma(%d) returns %d", n, e)
		}
		bits := bitsOf(b)[:before-r.Left()]
		if bits != bitsOf(w.Bytes())[:w.Len()] || bits != codeOf(big.NewInt(int64(n))) {
			t.Errorf("%s is read as %d, but is not its code", bits, n)
		}
	}
	if read < 10000 {
		t.Error("only", read, "codes were read")
	}
}
