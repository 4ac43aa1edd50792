package bitio_test

import (
	"bytes"
	"math"
	"math/big"
	"math/rand"
	"testing"

	"cellular/api"
	"cellular/bitio"
)

// expect compares a writer with the bits that it should have.
func expect(t *testing.T, w *bitio.Writer, bits string) {
	t.Helper()
	if w.Len() != len(bits) || !bytes.Equal(w.Bytes(), bytesOf(bits)) {
		t.Errorf("the bits are %s, %d of them, not %s", bitsOf(w.Bytes()), w.Len(), bits)
	}
}

// P2.1
func TestWriterExamples(t *testing.T) {
	var w bitio.Writer
	expect(t, &w, "")
	if w.Bits(5, 4) != api.OK || w.Len() != 4 || !bytes.Equal(w.Bytes(), []byte{80}) {
		t.Error("Bits(5, 4) gives", w.Len(), w.Bytes())
	}
	if w.Gamma(4) != api.OK || w.Signed(-1) != api.OK || !bytes.Equal(w.Bytes(), []byte{82, 160}) {
		t.Error("the example gives", w.Bytes())
	}
	expect(t, &w, "010100101010")
	var v bitio.Writer
	if v.Gamma(0) != api.OK {
		t.Error("Gamma(0) fails")
	}
	expect(t, &v, "1")
	if v.Gamma(1) != api.OK || v.Signed(-1) != api.OK {
		t.Error("Gamma(1) or Signed(-1) fails")
	}
	expect(t, &v, "1010010")
}

// P2.1
func TestWriterBits(t *testing.T) {
	values := []uint64{0, 1, math.MaxUint64, 0xaaaaaaaaaaaaaaaa, 0x8000000000000001}
	for n := range 65 {
		for _, v := range values {
			v := v >> (64 - n)
			var w bitio.Writer
			if e := w.Bits(v, n); e != api.OK {
				t.Errorf("Bits(%d, %d) returns %d", v, n, e)
			}
			expect(t, &w, digitsOf(new(big.Int).SetUint64(v), n))
			if n == 64 {
				continue
			}
			if e := w.Bits(1<<n, n); e != api.ErrRange || w.Len() != n {
				t.Errorf("Bits(2^%d, %d) returns %d", n, n, e)
			}
			if e := w.Bits(math.MaxUint64, n); e != api.ErrRange || w.Len() != n {
				t.Errorf("Bits(2^64 - 1, %d) returns %d", n, e)
			}
		}
	}
}

// P2.1
func TestNoBits(t *testing.T) {
	var w bitio.Writer
	if w.Bits(0, 0) != api.OK || w.Len() != 0 || len(w.Bytes()) != 0 {
		t.Error("no bits are", w.Len(), w.Bytes())
	}
	if w.Bits(1, 0) != api.ErrRange || w.Len() != 0 {
		t.Error("1 has no digit in 0 bits")
	}
}

// P2.1, P2.4
func TestCodes(t *testing.T) {
	for _, n := range ints() {
		var w, v bitio.Writer
		var mw, mv modelWriter
		if e, want := w.Gamma(n), mw.Gamma(n); e != want {
			t.Errorf("Gamma(%d) returns %d, not %d", n, e, want)
		}
		if e, want := v.Signed(n), mv.Signed(n); e != want {
			t.Errorf("Signed(%d) returns %d, not %d", n, e, want)
		}
		expect(t, &w, mw.bits)
		expect(t, &v, mv.bits)
		if n < 0 {
			continue
		}
		sum := new(big.Int).Add(big.NewInt(int64(n)), big.NewInt(1))
		if w.Len() != 2*sum.BitLen()-1 {
			t.Errorf("the code of %d has %d bits", n, w.Len())
		}
	}
}

// P2.1
func TestSignedLimits(t *testing.T) {
	for n, want := range map[int]api.Errno{
		-1 << 62: api.OK, -1<<62 - 1: api.ErrRange, 1<<62 - 1: api.OK, 1 << 62: api.ErrRange,
		math.MinInt: api.ErrRange, math.MaxInt: api.ErrRange,
	} {
		var w bitio.Writer
		if e := w.Signed(n); e != want {
			t.Errorf("Signed(%d) returns %d", n, e)
		}
	}
	var w bitio.Writer
	for n, want := range map[int]api.Errno{0: api.OK, -1: api.ErrRange, math.MaxInt: api.OK, math.MinInt: api.ErrRange} {
		if e := w.Gamma(n); e != want {
			t.Errorf("Gamma(%d) returns %d", n, e)
		}
	}
}

// P2.1
func TestWriterSequences(t *testing.T) {
	random := rand.New(rand.NewSource(1))
	for range 300 {
		var w bitio.Writer
		var model modelWriter
		for range random.Intn(40) {
			c := anyCall(random)
			if e, want := c.write(&w), c.write(&model); e != want {
				t.Errorf("%v returns %d, not %d", c, e, want)
			}
			expect(t, &w, model.bits)
		}
	}
}

// P2.1
func TestWriterErrorsInOrder(t *testing.T) {
	var none *bitio.Writer
	if none.Bits(9, -1) != api.ErrNil || none.Gamma(-1) != api.ErrNil || none.Signed(math.MinInt) != api.ErrNil {
		t.Error("a call of a nil writer does not return ErrNil")
	}
	if none.Bits(0, 0) != api.ErrNil || none.Gamma(0) != api.ErrNil || none.Signed(0) != api.ErrNil {
		t.Error("a valid call of a nil writer does not return ErrNil")
	}
	if none.Len() != 0 || len(none.Bytes()) != 0 {
		t.Error("a nil writer has bits")
	}
	w := full(t, 0)
	for _, n := range []int{-1, 65, 1000, math.MinInt, math.MaxInt} {
		if e := w.Bits(math.MaxUint64, n); e != api.ErrArg {
			t.Errorf("Bits with %d bits returns %d", n, e)
		}
	}
	if e := w.Bits(2, 1); e != api.ErrRange {
		t.Error("Bits does not examine the number before the size:", e)
	}
	if e := w.Gamma(-1); e != api.ErrRange {
		t.Error("Gamma does not examine the number before the size:", e)
	}
	if e := w.Signed(1 << 62); e != api.ErrRange {
		t.Error("Signed does not examine the number before the size:", e)
	}
}

// P2.1
func TestWriterSize(t *testing.T) {
	calls := []call{
		{kind: kindBits, n: 1, v: 1}, {kind: kindBits, n: 64, v: 1}, {kind: kindGamma, n: 0}, {kind: kindGamma, n: 5},
		{kind: kindGamma, n: math.MaxInt}, {kind: kindSigned, n: -1}, {kind: kindSigned, n: -1 << 62}, {kind: kindSigned, n: 1<<62 - 1},
	}
	for _, c := range calls {
		var model modelWriter
		c.write(&model)
		need := len(model.bits)
		w := full(t, need-1)
		before := w.Bytes()
		if e := c.write(w); e != api.ErrSize {
			t.Errorf("%v returns %d where %d bits have no room", c, e, need)
		}
		if w.Len() != maxBits-need+1 || !bytes.Equal(w.Bytes(), before) {
			t.Errorf("%v changes the writer although it returns ErrSize", c)
		}
		w = full(t, need)
		before = w.Bytes()
		if e := c.write(w); e != api.OK || w.Len() != maxBits || len(w.Bytes()) != api.MaxBytes {
			t.Errorf("%v returns %d where there is room", c, e)
		}
		if got := bitsOf(w.Bytes()[(maxBits-need)/8:]); got[len(got)-need:] != model.bits {
			t.Errorf("%v appends %s at the end, not %s", c, got, model.bits)
		}
		if w.Bits(0, 0) != api.OK || w.Bits(0, 1) != api.ErrSize || w.Len() != maxBits {
			t.Error("a full writer does not do what it should")
		}
	}
}

// P2.1
func TestWriterGoesOnAfterAnError(t *testing.T) {
	w := full(t, 3)
	if w.Gamma(4) != api.ErrSize || w.Bits(8, 4) != api.ErrSize || w.Signed(9) != api.ErrSize {
		t.Error("more than three bits have room")
	}
	if w.Signed(-1) != api.OK || w.Len() != maxBits || w.Bytes()[api.MaxBytes-1] != 0b11111010 {
		t.Error("three bits have no room")
	}
}

// P2.1
func TestBytesAreNew(t *testing.T) {
	var w bitio.Writer
	w.Bits(3, 3)
	before := w.Bytes()
	w.Bits(31, 5)
	w.Bits(255, 8)
	if !bytes.Equal(before, []byte{0b01100000}) {
		t.Error("writing changes bytes that were returned:", before)
	}
	w.Bytes()[0] = 0
	if again := append(w.Bytes()[:1], 0); !bytes.Equal(w.Bytes(), []byte{0b01111111, 255}) {
		t.Error("changing the bytes changes the writer:", w.Bytes(), again)
	}
}
