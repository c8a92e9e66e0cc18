package wal_test

import (
	"strings"
	"testing"

	"bootprint/vfs"
	"bootprint/wal"
)

// P5.1

func TestName(t *testing.T) {
	for _, c := range []struct {
		n    uint64
		want string
	}{
		{0, "wal-000000000000"},
		{1, "wal-000000000001"},
		{7, "wal-000000000007"},
		{10, "wal-000000000010"},
		{123456, "wal-000000123456"},
		{99999999999, "wal-099999999999"},
		{100000000000, "wal-100000000000"},
		{123456789012, "wal-123456789012"},
		{1e12 - 1, "wal-999999999999"},
		{1e12, ""},
		{1e12 + 7, ""},
		{1 << 63, ""},
		{1<<64 - 1, ""},
	} {
		s := wal.Name(c.n)
		if s != c.want {
			t.Errorf("Name of %d: %q, want %q", c.n, s, c.want)
		}
		n, ok := wal.ParseName(s)
		if ok != (s != "") || ok && n != c.n || !ok && n != 0 {
			t.Errorf("ParseName of %q: %d, %t", s, n, ok)
		}
	}
}

func TestNameIsAFilesName(t *testing.T) {
	last := ""
	for n := uint64(0); n < 1e12; n = n*3 + 1 {
		s := wal.Name(n)
		if !vfs.Name(s) || s <= last {
			t.Errorf("Name of %d: %q, behind %q", n, s, last)
		}
		last = s
	}
}

func TestParseNameRefuses(t *testing.T) {
	for _, s := range []string{
		"",
		"wal",
		"wal-",
		"wal-7",
		"wal-00000000007",
		"wal-0000000000007",
		"wal-1000000000000",
		"wal-18446744073709551615",
		"wal-18446744073709551623",
		"wal-" + strings.Repeat("0", 100) + "7",
		"000000000007",
		"wal-wal-000000000007",
		"wal-wal-00000007",
		"wal--00000000007",
		"wal-+00000000007",
		"wal- 00000000007",
		"wal-00000000007 ",
		"wal-000000000007 ",
		" wal-000000000007",
		"wal-00000000007\n",
		"wal-00000000000a",
		"wal-a00000000000",
		"wal-0x0000000007",
		"wal-0000000.0007",
		"wal-0000000_0007",
		"wal-00000000007\x00",
		"wal-000000000007\x00",
		"wal-0000000000٧",
		"wal-00000000000７",
		"wal.000000000007",
		"wal_000000000007",
		"wal000000000007",
		"WAL-000000000007",
		"log-000000000007",
		"al-000000000007",
		"manifest-000000000007",
		"table-000000000007",
		"wal.tmp",
	} {
		if n, ok := wal.ParseName(s); n != 0 || ok {
			t.Errorf("ParseName of %q: %d, %t; want 0, false", s, n, ok)
		}
	}
}

// Of every text that has one byte other than a name, only another name is told.
func TestParseNameLooksAtEveryByte(t *testing.T) {
	const name = "wal-123456789012"
	for place := range len(name) {
		for c := range 256 {
			b := []byte(name)
			b[place] = byte(c)
			s := string(b)
			n, ok := wal.ParseName(s)
			want := s == name || place >= 4 && c >= '0' && c <= '9'
			if ok != want || ok && wal.Name(n) != s || !ok && n != 0 {
				t.Errorf("ParseName of %q: %d, %t", s, n, ok)
			}
		}
	}
	for n := range len(name) {
		if n, ok := wal.ParseName(name[:n]); n != 0 || ok {
			t.Errorf("ParseName of %q: %d, %t", name[:n], n, ok)
		}
	}
}
