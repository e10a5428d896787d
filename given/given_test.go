// Package given tests what is given, whole, from outside: nothing may stand beside it in its own folders.
package given

import (
	"crypto/sha256"
	"encoding/hex"
	"errors"
	"os"
	"testing"

	"packhorse/api"
	"packhorse/plain"
)

// P5: the numbers.
func TestBounds(t *testing.T) {
	for _, c := range []struct {
		name      string
		got, want int
	}{
		{"MaxNum", api.MaxNum, 1099511627776},
		{"MaxFile", api.MaxFile, 4000},
		{"MaxBlock", api.MaxBlock, 64},
		{"MaxName", api.MaxName, 12},
		{"MaxFiles", api.MaxFiles, 20},
		{"MaxText", api.MaxText, 20000},
		{"Mod", api.Mod, 65536},
		{"MaxWindow", api.MaxWindow, 32},
		{"MaxEpoch", api.MaxEpoch, 2147483648},
		{"MaxWait", api.MaxWait, 64},
		{"MaxTokens", api.MaxTokens, 20},
		{"MaxBytes", api.MaxBytes, 1048576},
		{"MaxPlay", api.MaxPlay, 2000},
		{"MaxScript", api.MaxScript, 80},
		{"Workers", api.Workers, 16},
	} {
		if c.got != c.want {
			t.Errorf("%s is %d, want %d", c.name, c.got, c.want)
		}
	}
}

// P5: the errors' texts; P3: bare or as a Fault they are told alike.
func TestErrors(t *testing.T) {
	for i, c := range []struct {
		err  error
		text string
	}{
		{api.ErrText, "packhorse: text"},
		{api.ErrBound, "packhorse: bound"},
		{api.ErrShape, "packhorse: shape"},
		{api.ErrKind, "packhorse: kind"},
		{api.ErrName, "packhorse: name"},
		{api.ErrNone, "packhorse: none"},
		{api.ErrExist, "packhorse: exist"},
		{api.ErrFull, "packhorse: full"},
		{api.ErrOrder, "packhorse: order"},
		{api.ErrSum, "packhorse: sum"},
		{api.ErrStale, "packhorse: stale"},
		{api.ErrOff, "packhorse: off"},
	} {
		fault := &api.Fault{At: 7, Err: c.err}
		if c.err.Error() != c.text || fault.Error() != c.text || !errors.Is(fault, c.err) {
			t.Errorf("%v, want %s", c.err, c.text)
		}
		if code, at := plain.Code(c.err); code != i+1 || at != -1 {
			t.Errorf("%v: code %d at %d", c.err, code, at)
		}
		if code, at := plain.Code(fault); code != i+1 || at != 7 {
			t.Errorf("fault of %v: code %d at %d", c.err, code, at)
		}
	}
	if code, at := plain.Code(nil); code != 0 || at != -1 {
		t.Error(code, at)
	}
	if code, at := plain.Code(errors.New("another one")); code != -1 || at != -1 {
		t.Error(code, at)
	}
}

// They stay to the byte.
func TestGivenFilesStay(t *testing.T) {
	for name, want := range map[string]string{
		"../api/api.go":     "4aab501d7bbb74105ab9a9c0512d5dc3e6f8c9ac8f92bf8b8ff8cd65ce9950e6",
		"../plain/plain.go": "3fb47db1542ebf255e5d8431ca892a0e1dc768775d321614776ea738bc4db62b",
	} {
		b, err := os.ReadFile(name)
		if err != nil {
			t.Fatal(err)
		}
		if sum := sha256.Sum256(b); hex.EncodeToString(sum[:]) != want {
			t.Errorf("%s has changed", name)
		}
	}
}
