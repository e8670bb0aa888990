package checksum

import (
	"bytes"
	"encoding/binary"
	"hash/crc32"
	"strings"
	"testing"
)

// samples are bytes of every value and of several lengths.
func samples() [][]byte {
	l := [][]byte{nil, {}, []byte("123456789"), []byte(strings.Repeat("\x00", 9)), []byte(strings.Repeat("\xff", 70))}
	all := []byte{}
	for i := range 256 {
		l = append(l, []byte{byte(i)})
		all = append(all, byte(i))
	}
	return append(l, all)
}

func TestSealAgainstTheLibrary(t *testing.T) {
	for _, data := range samples() {
		want := binary.BigEndian.AppendUint32(bytes.Clone(data), crc32.ChecksumIEEE(data))
		if s := Seal(data); !bytes.Equal(s, want) {
			t.Errorf("Seal(%x) = %x, want %x", data, s, want)
		}
	}
}

func TestOpenWhatSealTold(t *testing.T) {
	for _, data := range samples() {
		if d, ok := Open(Seal(data)); !ok || !bytes.Equal(d, data) {
			t.Errorf("%x: %x, %v", data, d, ok)
		}
	}
}

func TestOpenFindsEachTurnedBit(t *testing.T) {
	for _, data := range samples() {
		s := Seal(data)
		for i := range 8 * len(s) {
			s[i/8] ^= 1 << (i % 8)
			if d, ok := Open(s); ok || d != nil {
				t.Fatalf("%x with bit %d turned: %x, %v", data, i, d, ok)
			}
			s[i/8] ^= 1 << (i % 8)
		}
	}
}

func TestOpenOfTooFewBytes(t *testing.T) {
	for _, s := range []string{"", "\x00", "\xff", "\x00\x00", "abc", "\x00\x00\x00", "\xff\xff\xff"} {
		if d, ok := Open([]byte(s)); ok || d != nil {
			t.Errorf("Open(%q) = %x, %v", s, d, ok)
		}
	}
}

func TestSealAndOpenOnlyRead(t *testing.T) {
	room := []byte("abcdefgh")
	Seal(room[:2])
	if string(room) != "abcdefgh" {
		t.Errorf("Seal changed what stands behind: %q", room)
	}
	s := Seal([]byte("ab"))
	was := bytes.Clone(s)
	d, ok := Open(s)
	_ = append(d, '!')
	if !ok || !bytes.Equal(s, was) {
		t.Errorf("Open: %x, want %x", s, was)
	}
}
