package bitio_test

import (
	"math"
	"math/big"
	"math/rand"
	"strings"
	"testing"

	"cellular/api"
	"cellular/bitio"
)

// The tests compare package bitio with a model that keeps the bits as a string of digits and counts without a limit.

const maxBits = 8 * api.MaxBytes

// digitsOf returns the n binary digits of a number.
func digitsOf(v *big.Int, n int) string {
	if n == 0 {
		return ""
	}
	text := v.Text(2)
	return strings.Repeat("0", n-len(text)) + text
}

// codeOf returns the code of an integer of at least 0.
func codeOf(n *big.Int) string {
	digits := new(big.Int).Add(n, big.NewInt(1)).Text(2)
	return strings.Repeat("0", len(digits)-1) + digits
}

// foldedOf returns the folded number.
func foldedOf(n int) *big.Int {
	folded := new(big.Int).Mul(big.NewInt(int64(n)), big.NewInt(2))
	if n < 0 {
		folded.Neg(folded).Sub(folded, big.NewInt(1))
	}
	return folded
}

// numberOf returns the number with some binary digits.
func numberOf(digits string) *big.Int {
	v, ok := new(big.Int).SetString("0"+digits, 2)
	if !ok {
		panic("these are not digits: " + digits)
	}
	return v
}

// bytesOf returns the bytes of a sequence of bits.
func bytesOf(bits string) []byte {
	var list []byte
	for len(bits) > 0 {
		n := min(8, len(bits))
		list = append(list, byte(numberOf((bits[:n] + "00000000")[:8]).Uint64()))
		bits = bits[n:]
	}
	return list
}

// bitsOf returns the bits of bytes.
func bitsOf(b []byte) string {
	var s strings.Builder
	for _, v := range b {
		s.WriteString(digitsOf(big.NewInt(int64(v)), 8))
	}
	return s.String()
}

// modelWriter is a writer by the definitions of the chapter.
type modelWriter struct{ bits string }

func (w *modelWriter) append(bits string) api.Errno {
	if len(w.bits)+len(bits) > maxBits {
		return api.ErrSize
	}
	w.bits += bits
	return api.OK
}

func (w *modelWriter) Bits(v uint64, n int) api.Errno {
	if n < 0 || n > 64 {
		return api.ErrArg
	}
	number := new(big.Int).SetUint64(v)
	if number.Cmp(new(big.Int).Lsh(big.NewInt(1), uint(n))) >= 0 {
		return api.ErrRange
	}
	return w.append(digitsOf(number, n))
}

func (w *modelWriter) Gamma(n int) api.Errno {
	if n < 0 {
		return api.ErrRange
	}
	return w.append(codeOf(big.NewInt(int64(n))))
}

func (w *modelWriter) Signed(n int) api.Errno {
	if n < -1<<62 || n > 1<<62-1 {
		return api.ErrRange
	}
	return w.append(codeOf(foldedOf(n)))
}

// modelReader is a reader by the definitions of the chapter: it removes the bits that it reads.
type modelReader struct{ bits string }

func (r *modelReader) Bits(n int) (uint64, api.Errno) {
	if n < 0 || n > 64 {
		return 0, api.ErrArg
	}
	if n > len(r.bits) {
		return 0, api.ErrShort
	}
	v := numberOf(r.bits[:n]).Uint64()
	r.bits = r.bits[n:]
	return v, api.OK
}

func (r *modelReader) Gamma() (int, api.Errno) {
	if strings.HasPrefix(r.bits, strings.Repeat("0", 64)) {
		return 0, api.ErrForm
	}
	zeros := strings.Index(r.bits, "1")
	if zeros < 0 || len(r.bits) < 2*zeros+1 {
		return 0, api.ErrShort
	}
	n := numberOf(r.bits[:2*zeros+1])
	n.Sub(n, big.NewInt(1))
	if n.Cmp(big.NewInt(math.MaxInt64)) > 0 {
		return 0, api.ErrForm
	}
	r.bits = r.bits[2*zeros+1:]
	return int(n.Int64()), api.OK
}

func (r *modelReader) Signed() (int, api.Errno) {
	n, e := r.Gamma()
	if e != api.OK {
		return 0, e
	}
	half := new(big.Int).Rsh(new(big.Int).Add(big.NewInt(int64(n)), big.NewInt(1)), 1)
	if n%2 == 1 {
		half.Neg(half)
	}
	return int(half.Int64()), api.OK
}

func (r *modelReader) End() bool { return len(r.bits) < 8 && !strings.Contains(r.bits, "1") }

// writer is what the calls of a writer and of its model have in common.
type writer interface {
	Bits(v uint64, n int) api.Errno
	Gamma(n int) api.Errno
	Signed(n int) api.Errno
}

// reader is what the calls of a reader and of its model have in common.
type reader interface {
	Bits(n int) (uint64, api.Errno)
	Gamma() (int, api.Errno)
	Signed() (int, api.Errno)
	End() bool
}

// call is a call of a writer; the calls of a reader of the same kind have no v.
type call struct {
	kind, n int
	v       uint64
}

const (
	kindBits = iota
	kindGamma
	kindSigned
	kinds
)

// write makes a call of a writer.
func (c call) write(w writer) api.Errno {
	switch c.kind {
	case kindBits:
		return w.Bits(c.v, c.n)
	case kindGamma:
		return w.Gamma(c.n)
	}
	return w.Signed(c.n)
}

// read makes the call of a reader that corresponds to a call of a writer.
func (c call) read(r reader) (uint64, api.Errno) {
	switch c.kind {
	case kindBits:
		return r.Bits(c.n)
	case kindGamma:
		n, e := r.Gamma()
		return uint64(n), e
	}
	n, e := r.Signed()
	return uint64(n), e
}

// written is what a reader has to return for a call of a writer that succeeded.
func (c call) written() uint64 {
	if c.kind == kindBits {
		return c.v
	}
	return uint64(c.n)
}

// anyCall returns a call with numbers of all sizes, some of which are not permitted.
func anyCall(random *rand.Rand) call {
	c := call{kind: random.Intn(kinds), v: random.Uint64() >> random.Intn(65)}
	switch c.kind {
	case kindBits:
		c.n = random.Intn(68) - 2
		if random.Intn(3) > 0 && c.n >= 0 {
			c.v &= 1<<c.n - 1
		}
	default:
		c.n = int(random.Uint64()) >> random.Intn(64)
		if random.Intn(2) == 0 {
			c.n = -c.n
		}
	}
	return c
}

// ints returns ints of all sizes and of both signs, with the least and the greatest one.
func ints() []int {
	list := []int{0, math.MinInt, math.MinInt + 1, math.MaxInt}
	for k := range 63 {
		for _, n := range []int{1<<k - 1, 1 << k, 1<<k + 1} {
			list = append(list, n, -n)
		}
	}
	return list
}

// readerOf returns a reader of some bits, behind which zeros fill the last byte.
func readerOf(t *testing.T, bits string) *bitio.Reader {
	t.Helper()
	r, e := bitio.NewReader(bytesOf(bits))
	if e != api.OK {
		t.Fatalf("NewReader returns %d", e)
	}
	return r
}

// full returns a writer that has room for some more bits.
func full(t *testing.T, room int) *bitio.Writer {
	t.Helper()
	w := new(bitio.Writer)
	for w.Len() < maxBits-room {
		n := min(64, maxBits-room-w.Len())
		if e := w.Bits(1<<n-1, n); e != api.OK {
			t.Fatalf("a writer with %d bits returns %d", w.Len(), e)
		}
	}
	return w
}
