package manifest_test

import (
	"strings"
	"testing"

	"bootprint/manifest"
	"bootprint/vfs"
)

// P13.1: Name, ParseName

func TestName(t *testing.T) {
	for _, c := range []struct {
		n    uint64
		want string
	}{
		{0, "manifest-000000000000"},
		{1, "manifest-000000000001"},
		{7, "manifest-000000000007"},
		{10, "manifest-000000000010"},
		{123456, "manifest-000000123456"},
		{99999999999, "manifest-099999999999"},
		{100000000000, "manifest-100000000000"},
		{123456789012, "manifest-123456789012"},
		{trillion - 1, "manifest-999999999999"},
		{trillion, ""},
		{trillion + 7, ""},
		{1 << 63, ""},
		{greatest, ""},
	} {
		s := manifest.Name(c.n)
		if s != c.want {
			t.Errorf("Name of %d: %q, want %q", c.n, s, c.want)
		}
		n, ok := manifest.ParseName(s)
		if ok != (s != "") || ok && n != c.n || !ok && n != 0 {
			t.Errorf("ParseName of %q: %d, %t", s, n, ok)
		}
	}
}

func TestNameIsAFilesName(t *testing.T) {
	ahead := ""
	for n := uint64(0); n < trillion; n = n*3 + 1 {
		s := manifest.Name(n)
		if !vfs.Name(s) || s <= ahead {
			t.Errorf("Name of %d: %q, behind %q", n, s, ahead)
		}
		ahead = s
	}
}

func TestParseNameRefuses(t *testing.T) {
	for _, s := range []string{
		"",
		"manifest",
		"manifest-",
		"manifest-7",
		"manifest-00000000007",
		"manifest-0000000000007",
		"manifest-1000000000000",
		"manifest-18446744073709551615",
		"manifest-18446744073709551623",
		"manifest-" + strings.Repeat("0", 100) + "7",
		"000000000007",
		"manifest-manifest-000000000007",
		"manifest-manifest-007",
		"manifest--00000000007",
		"manifest-+00000000007",
		"manifest--1",
		"manifest- 00000000007",
		"manifest-00000000007 ",
		"manifest-000000000007 ",
		" manifest-000000000007",
		"manifest-00000000007\n",
		"manifest-000000000007\n",
		"manifest-00000000000a",
		"manifest-a00000000000",
		"manifest-0x0000000007",
		"manifest-0000000.0007",
		"manifest-0000000_0007",
		"manifest-00000000007\x00",
		"manifest-000000000007\x00",
		"manifest-0000000000٧",
		"manifest-00000000000７",
		"manifest.000000000007",
		"manifest_000000000007",
		"manifest000000000007",
		"MANIFEST-000000000007",
		"Manifest-000000000007",
		"anifest-000000000007",
		"wal-000000000007",
		"table-000000000007",
		"current",
		"current.tmp",
	} {
		if n, ok := manifest.ParseName(s); n != 0 || ok {
			t.Errorf("ParseName of %q: %d, %t; want 0, false", s, n, ok)
		}
	}
}

// Of every text that has one byte other than a name, only another name is told.
func TestParseNameLooksAtEveryByte(t *testing.T) {
	const name = "manifest-123456789012"
	for place := range len(name) {
		for c := range 256 {
			b := []byte(name)
			b[place] = byte(c)
			s := string(b)
			n, ok := manifest.ParseName(s)
			want := s == name || place >= 9 && c >= '0' && c <= '9'
			if ok != want || ok && manifest.Name(n) != s || !ok && n != 0 {
				t.Errorf("ParseName of %q: %d, %t", s, n, ok)
			}
		}
	}
	for n := range len(name) {
		if n, ok := manifest.ParseName(name[:n]); n != 0 || ok {
			t.Errorf("ParseName of %q: %d, %t", name[:n], n, ok)
		}
	}
}
