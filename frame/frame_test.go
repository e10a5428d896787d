package frame_test

import (
	"encoding/binary"
	"hash/crc32"
	"math"
	"slices"
	"strings"
	"sync"
	"testing"

	"packhorse/api"
	"packhorse/frame"
)

// The face, as it is given.
var (
	_ func(frame.Frame) error           = frame.Check
	_ func(frame.Frame) (string, error) = frame.Encode
	_ func(string) (frame.Frame, error) = frame.Decode

	_ = struct {
		Kind       byte
		Epoch, Seq int
		Data       string
	}(frame.Frame{})
)

func xs(n int) string { return strings.Repeat("x", n) }

func of(kind byte, epoch, seq int, data string) frame.Frame {
	return frame.Frame{Kind: kind, Epoch: epoch, Seq: seq, Data: data}
}

// summed is a text with its sum behind it; the library's sum is not ours.
func summed(s string) string {
	return string(binary.LittleEndian.AppendUint32([]byte(s), crc32.ChecksumIEEE([]byte(s))))
}

func number(n int) string { return string(binary.AppendUvarint(nil, uint64(n))) }

// inner bytes of a frame, whatever they are.
func inner(f frame.Frame) string {
	return string([]byte{f.Kind}) + number(f.Epoch) + number(f.Seq) + number(len(f.Data)) + f.Data
}

// right frames: what may stand in each field, at its edges.
func right() []frame.Frame {
	var l []frame.Frame
	for _, kind := range []byte{'a', 'b', 'm', 'y', 'z'} {
		for _, epoch := range []int{0, 1, 127, 128, 300, api.Mod, api.MaxEpoch - 1, api.MaxEpoch} {
			for _, seq := range []int{0, 1, 127, 128, 16383, 16384, api.Mod/2 - 1, api.Mod / 2, api.Mod - 1} {
				for _, data := range []string{"", "x", "\x00", "\xff\xff\xff\xff", "gr\u00fc\u00df", xs(127), xs(128)} {
					l = append(l, of(kind, epoch, seq, data))
				}
			}
		}
	}
	for _, n := range []int{16383, 16384, api.MaxText - 1, api.MaxText} {
		l = append(l, of('d', 1, 2, xs(n)), of('d', api.MaxEpoch, api.Mod-1, strings.Repeat("\x80", n)))
	}
	return l
}

// few of them, of each length of a number.
func few() []frame.Frame {
	return []frame.Frame{of('a', 0, 0, ""), of('z', api.MaxEpoch, api.Mod-1, "xy\x00"), of('m', 300, 1, strings.Repeat("ab", 90)), of('q', 5, 200, "\x00\x00\x00\x00\x00")}
}

// P80: small letters, and no other byte.
func TestKinds(t *testing.T) {
	for b := range 256 {
		f := of(byte(b), 1, 2, "x")
		var want error
		if !strings.Contains("abcdefghijklmnopqrstuvwxyz", string([]byte{byte(b)})) {
			want = api.ErrKind
		}
		if err := frame.Check(f); err != want {
			t.Errorf("%d: Check %v, want %v", b, err, want)
		}
		if s, err := frame.Encode(f); err != want || (s == "") != (want != nil) {
			t.Errorf("%d: Encode %q %v, want %v", b, s, err, want)
		}
		if back, err := frame.Decode(summed(inner(f))); err != want || want == nil && back != f || want != nil && back != (frame.Frame{}) {
			t.Errorf("%d: Decode %v %v, want %v", b, back, err, want)
		}
	}
}

// P80: what can be told of a wrong frame, in its order, always bare.
func TestWrong(t *testing.T) {
	long := xs(api.MaxText + 1)
	for _, c := range []struct {
		f    frame.Frame
		want error
	}{
		{frame.Frame{}, api.ErrKind},
		{of('A', -1, -1, long), api.ErrKind}, // the kind counts first
		{of('`', 0, 0, ""), api.ErrKind},
		{of('{', api.MaxEpoch+1, 0, ""), api.ErrKind},
		{of(0xe1, 0, api.Mod, ""), api.ErrKind},

		{of('a', -1, 0, ""), api.ErrBound},
		{of('a', math.MinInt, 0, ""), api.ErrBound},
		{of('a', api.MaxEpoch+1, 0, ""), api.ErrBound},
		{of('a', api.MaxNum+1, 0, ""), api.ErrBound},
		{of('a', math.MaxInt, 0, ""), api.ErrBound},
		{of('a', 0, -1, ""), api.ErrBound},
		{of('a', 0, math.MinInt, ""), api.ErrBound},
		{of('a', 0, api.Mod, ""), api.ErrBound},
		{of('a', 0, api.Mod+1, ""), api.ErrBound},
		{of('a', 0, math.MaxInt, ""), api.ErrBound},
		{of('a', 0, 0, long), api.ErrBound},
		{of('a', 0, 0, strings.Repeat(long, 10)), api.ErrBound},
		{of('z', -1, -1, long), api.ErrBound},
	} {
		if err := frame.Check(c.f); err != c.want {
			t.Errorf("%d %d %d, %d bytes: Check %v, want %v", c.f.Kind, c.f.Epoch, c.f.Seq, len(c.f.Data), err, c.want)
		}
		if s, err := frame.Encode(c.f); s != "" || err != c.want {
			t.Errorf("%d %d %d, %d bytes: Encode %d bytes, %v, want %v", c.f.Kind, c.f.Epoch, c.f.Seq, len(c.f.Data), len(s), err, c.want)
		}
	}
}

// P80: the bytes, in numbers.
func TestBytes(t *testing.T) {
	for s, f := range map[string]frame.Frame{
		"a\x00\x00\x00":                              of('a', 0, 0, ""),
		"a\xac\x02\x02\x02xy":                        of('a', 300, 2, "xy"),
		"z\x80\x80\x80\x80\x08\xff\xff\x03\x01\x00":  of('z', api.MaxEpoch, api.Mod-1, "\x00"),
		"k\x01\x80\x01\x80\x01" + xs(128):            of('k', 1, 128, xs(128)),
		"d\x7f\x7f\xa0\x9c\x01" + xs(api.MaxText):    of('d', 127, 127, xs(api.MaxText)),
		"b\x00\x00\x09123456789":                     of('b', 0, 0, "123456789"),
		"s\xff\xff\xff\xff\x07\x80\x80\x02\x02\x80a": of('s', api.MaxEpoch-1, api.Mod/2, "\x80a"),
	} {
		wantBytes(t, f, summed(s))
	}
}

// P81: read as it was written.
func TestReadAsWritten(t *testing.T) {
	for _, f := range right() {
		if err := frame.Check(f); err != nil {
			t.Errorf("%d %d %d, %d bytes: %v", f.Kind, f.Epoch, f.Seq, len(f.Data), err)
		}
		wantBytes(t, f, summed(inner(f)))
	}
}

func wantBytes(t *testing.T, f frame.Frame, want string) {
	t.Helper()
	if s, err := frame.Encode(f); s != want || err != nil {
		t.Errorf("%d %d %d, %d bytes: %.40q %v, want %.40q", f.Kind, f.Epoch, f.Seq, len(f.Data), s, err, want)
	}
	if back, err := frame.Decode(want); back != f || err != nil {
		t.Errorf("%.40q: %d %d %d, %d bytes, %v", want, back.Kind, back.Epoch, back.Seq, len(back.Data), err)
	}
}

func wantNone(t *testing.T, s string, want error) {
	t.Helper()
	if f, err := frame.Decode(s); f != (frame.Frame{}) || err != want {
		t.Errorf("%.40q: %d %d %d, %d bytes, %v, want %v", s, f.Kind, f.Epoch, f.Seq, len(f.Data), err, want)
	}
}

// P80: fewer bytes than a sum has, and sums that are not those of what is ahead.
func TestDecodeSum(t *testing.T) {
	for _, s := range []string{"", "\x00", "\x00\x00", "\x00\x00\x00", "abc"} {
		wantNone(t, s, api.ErrText)
	}
	for _, s := range []string{"abcd", "\x00\x00\x00\x01", "\xff\xff\xff\xff", "a\x00\x00\x00", "a\x00\x00\x00\x00\x00\x00\x00", "A\x80\x00\x00\x00\x00\x00", xs(100000)} {
		wantNone(t, s, api.ErrSum)
	}
	for _, f := range few() {
		in := inner(f)
		c := crc32.ChecksumIEEE([]byte(in))
		wantNone(t, in, api.ErrSum)
		wantNone(t, string(binary.BigEndian.AppendUint32([]byte(in), c)), api.ErrSum)
		wantNone(t, string(binary.LittleEndian.AppendUint32([]byte(in), ^c)), api.ErrSum)
		wantNone(t, "a"+summed(in), api.ErrSum)
		wantNone(t, summed(in)+"\x00", api.ErrSum)
		wantNone(t, summed(in)+summed(in), api.ErrSum)
	}
}

// P80: the sum is right, but what is ahead is none of a frame; in the order in which it is told.
func TestDecodeWrong(t *testing.T) {
	const above = "\x81\x80\x80\x80\x80\x20" // MaxNum and 1
	for s, want := range map[string]error{
		"":                                      api.ErrText,
		"a":                                     api.ErrText,
		"a\x00":                                 api.ErrText,
		"a\x00\x00":                             api.ErrText,
		"a\x80":                                 api.ErrText,
		"a\x80\x00\x00\x00":                     api.ErrText,
		"a\x00\x80\x00\x00":                     api.ErrText,
		"a\x00\x00\x80\x00":                     api.ErrText,
		"a\x00\x00\x01":                         api.ErrText,
		"a\x00\x00\x03xy":                       api.ErrText,
		"a\x00\x00\x00x":                        api.ErrText,
		"a\x00\x00\x01xy":                       api.ErrText,
		"a\x00\x00" + number(20000):             api.ErrText,
		"a\x80\x80\x80\x80\x80\x80\x01\x00\x00": api.ErrText,
		"a\x00\x00\x00" + summed("a\x00\x00\x00"): api.ErrText,
		summed("a\x00\x00\x00"):                   api.ErrText,
		"A":                                       api.ErrText, // what is no frame's is not checked as one
		"\x00\x00\x00":                            api.ErrText,
		"A\x00\x00\x00x":                          api.ErrText,
		"a" + number(api.MaxEpoch+1) + "\x00\x00x":     api.ErrText,
		"a\x00" + number(api.Mod):                      api.ErrText,
		"a" + number(api.MaxNum) + number(api.MaxNum):  api.ErrText,
		"a\x80\x00" + above:                            api.ErrText, // the first error ends it
		"a" + above + "\x80\x00":                       api.ErrBound,
		"a" + above:                                    api.ErrBound,
		"a\x00" + above:                                api.ErrBound,
		"a\x00\x00" + above:                            api.ErrBound,
		"A" + above + "\x00\x00":                       api.ErrBound,
		"a\x00\x00" + number(api.MaxText+1):            api.ErrBound,
		"a\x00\x00" + number(api.MaxNum) + "x":         api.ErrBound,
		inner(of('a', 0, 0, xs(api.MaxText+1))):        api.ErrBound,
		inner(of('A', 0, 0, xs(api.MaxText+1))):        api.ErrBound,
		inner(of('A', 0, 0, "")):                       api.ErrKind,
		inner(of(0, 0, 0, "")):                         api.ErrKind,
		inner(of(0xe1, 0, 0, "x")):                     api.ErrKind,
		inner(of(0x80, 1, 1, "")):                      api.ErrKind, // a byte as it is, not the front of a number
		inner(of('A', api.MaxEpoch+1, api.Mod, "abc")): api.ErrKind,
		inner(of('a', api.MaxEpoch+1, 0, "")):          api.ErrBound,
		inner(of('a', api.MaxNum, 0, "")):              api.ErrBound,
		inner(of('a', 0, api.Mod, "")):                 api.ErrBound,
		inner(of('a', 0, api.MaxNum, "")):              api.ErrBound,
	} {
		wantNone(t, summed(s), want)
	}
}

// P80: a frame that ends early is none, with its own sum or without.
func TestDecodeCut(t *testing.T) {
	for _, f := range few() {
		s, in := summed(inner(f)), inner(f)
		for i := range len(s) {
			if i < 4 {
				wantNone(t, s[:i], api.ErrText)
			} else {
				wantNone(t, s[:i], api.ErrSum)
			}
		}
		for i := range len(in) {
			wantNone(t, summed(in[:i]), api.ErrText)
		}
	}
}

func turned(s string, bit int) string {
	b := []byte(s)
	b[bit/8] ^= 1 << (bit % 8)
	return string(b)
}

// P81: a frame of which a bit is turned is none, wherever it stands.
func TestBitTurned(t *testing.T) {
	for _, f := range few() {
		s, _ := frame.Encode(f)
		for bit := range 8 * len(s) {
			wantNone(t, turned(s, bit), api.ErrSum)
		}
	}
	s, _ := frame.Encode(of('z', api.MaxEpoch, api.Mod-1, xs(api.MaxText)))
	for bit := 0; bit < 8*len(s); bit += 997 {
		wantNone(t, turned(s, bit), api.ErrSum)
	}
	for bit := 8 * (len(s) - 5); bit < 8*len(s); bit++ {
		wantNone(t, turned(s, bit), api.ErrSum)
	}
}

// P80: each frame is written in one way: with any byte as another one and the sum made anew, it is another frame or none.
func TestOneWay(t *testing.T) {
	for _, f := range few() {
		in := inner(f)
		for i := range len(in) {
			for b := range 256 {
				other := in[:i] + string([]byte{byte(b)}) + in[i+1:]
				readOneWay(t, summed(other))
				if back, err := frame.Decode(summed(other)); other != in && err == nil && back == f {
					t.Errorf("byte %d as %d: the same", i, b)
				}
			}
		}
	}
}

// readOneWay: what is read is written as it stood; what is not read answers nothing but a bare error.
func readOneWay(t *testing.T, s string) {
	t.Helper()
	f, err := frame.Decode(s)
	if err != nil {
		if f != (frame.Frame{}) || !slices.Contains([]error{api.ErrText, api.ErrSum, api.ErrBound, api.ErrKind}, err) {
			t.Errorf("%q: %v %v", s, f, err)
		}
		return
	}
	if err := frame.Check(f); err != nil {
		t.Errorf("%q: %v", s, err)
	}
	if back, err := frame.Encode(f); back != s || err != nil {
		t.Errorf("%q: %q %v", s, back, err)
	}
}

// P3: what lies behind a text's length in its memory is not read.
func TestNothingBehindIsRead(t *testing.T) {
	s := summed("a\x00\x00\x01x") + "yyyy"
	if f, err := frame.Decode(s[:9]); f != of('a', 0, 0, "x") || err != nil {
		t.Error(f, err)
	}
	wantNone(t, s[:8], api.ErrSum)
	wantNone(t, s[:3], api.ErrText)
}

// P2: many at once, and again, answer the same.
func TestSideBySide(t *testing.T) {
	var wg sync.WaitGroup
	for range 8 {
		wg.Go(func() {
			for _, f := range few() {
				s, err := frame.Encode(f)
				if back, bad := frame.Decode(s); s != summed(inner(f)) || back != f || err != nil || bad != nil {
					t.Errorf("%v %q %v %v %v", f, s, back, err, bad)
				}
				wantNone(t, s+"x", api.ErrSum)
				frame.Encode(frame.Frame{})
			}
		})
	}
	wg.Wait()
}

// FuzzDecode holds P80 against any bytes, as they are and with their sum behind them.
func FuzzDecode(f *testing.F) {
	for _, x := range few() {
		f.Add(inner(x))
		f.Add(summed(inner(x)))
	}
	for _, s := range []string{"", "abcd", "A\x00\x00\x00", "a\x80\x00\x00\x00", "a\x00\x80\x80\x04\x00", "a\x81\x80\x80\x80\x80\x20"} {
		f.Add(s)
	}
	f.Fuzz(func(t *testing.T, s string) {
		readOneWay(t, s)
		readOneWay(t, summed(s))
	})
}

// FuzzEncode holds P80 and P81 against any frame, and any bit of it.
func FuzzEncode(f *testing.F) {
	for _, x := range few() {
		f.Add(x.Kind, x.Epoch, x.Seq, x.Data, uint(7))
	}
	f.Add(byte('A'), -1, api.Mod, "", uint(0))
	f.Fuzz(func(t *testing.T, kind byte, epoch, seq int, data string, bit uint) {
		x := of(kind, epoch, seq, data)
		if bad := frame.Check(x); bad != nil {
			if s, err := frame.Encode(x); s != "" || err != bad {
				t.Errorf("%v: %q %v, want %v", x, s, err, bad)
			}
			return
		}
		s := summed(inner(x))
		wantBytes(t, x, s)
		wantNone(t, turned(s, int(bit%uint(8*len(s)))), api.ErrSum)
	})
}
