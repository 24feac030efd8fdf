package posting_test

import (
	"bytes"
	"encoding/hex"
	"math"
	"math/rand"
	"slices"
	"testing"

	"scholia/api"
	"scholia/posting"
)

// sixty is all places of a field.
func sixty() []int {
	l := make([]int, 60)
	for i := range l {
		l[i] = i
	}
	return l
}

// P19.1: postings that may be.
func TestCheck(t *testing.T) {
	for _, l := range [][]api.Posting{
		nil, {},
		{post(0, spot(1, 0))},
		{post(65535, spot(4, 59))},
		{post(0, spot(1, 0)), post(1, spot(1, 0)), post(65535, spot(2, 7))},
		{post(7, spot(1, 0), spot(2, 0), spot(3, 0), spot(4, 0))},
		{post(7, spot(1, sixty()...), spot(4, sixty()...))},
		plain(4, 0, 1), plain(5, 3, 2), plain(65536, 0, 1),
	} {
		if e := posting.Check(l); e != api.OK {
			t.Errorf("%d postings: error %d", len(l), e)
		}
		if b, e := posting.Encode(l); e != api.OK || len(b) == 0 {
			t.Errorf("%d postings: error %d", len(l), e)
		}
	}
}

// bad: postings that may not be.
func bad() [][]api.Posting {
	one := spot(1, 0)
	return [][]api.Posting{
		{post(0, one), post(0, one)},
		{post(1, one), post(0, one)},
		{post(0, one), post(2, one), post(1, one)},
		{post(-1, one)},
		{post(65536, one)},
		{post(0, one), post(65536, one)},
		{post(math.MaxInt, one)},
		{post(math.MinInt, one)},
		{post(1<<32, one)},
		{post(0)},
		{post(0, one), post(1)},
		{post(0), post(1, one)},
		{post(0, spot(0, 0))},
		{post(0, spot(5, 0))},
		{post(0, spot(-1, 0))},
		{post(0, spot(math.MaxInt, 0))},
		{post(0, spot(math.MinInt, 0))},
		{post(0, one, one)},
		{post(0, spot(2, 0), one)},
		{post(0, one, spot(3, 0), spot(2, 0))},
		{post(0, one, spot(2, 0), spot(3, 0), spot(4, 0), spot(5, 0))},
		{post(0, spot(1))},
		{post(0, one, spot(2))},
		{post(0, spot(1), spot(2, 0))},
		{post(0, spot(1, -1))},
		{post(0, spot(1, 60))},
		{post(0, spot(1, 0, 60))},
		{post(0, spot(1, 0, 0))},
		{post(0, spot(1, 1, 0))},
		{post(0, spot(1, 0, 2, 1))},
		{post(0, spot(1, math.MaxInt))},
		{post(0, spot(1, math.MinInt))},
		append(plain(4, 0, 1), post(3, one)),
		append(plain(65536, 0, 1), post(65536, one)),
	}
}

// P19.1
func TestCheckErrors(t *testing.T) {
	for _, l := range bad() {
		if e := posting.Check(l); e != api.EARG {
			t.Errorf("%v: error %d", l[max(0, len(l)-5):], e)
		}
		if b, e := posting.Encode(l); e != api.EARG || b != nil {
			t.Errorf("%v: %x, error %d", l[max(0, len(l)-5):], b, e)
		}
	}
}

// P19.1
func TestEncode(t *testing.T) {
	one := spot(1, 0)
	for _, c := range []struct {
		l    []api.Posting
		want string
	}{
		{nil, "00"},
		{[]api.Posting{post(2, spot(1, 0, 3))}, "01" + "0206" + "020101020002"},
		{[]api.Posting{post(0, one)}, "01" + "0005" + "0001010100"},
		{[]api.Posting{post(0, one), post(2, spot(2, 59), spot(4, 1, 2))}, "02" + "020e" + "0001010100" + "01020201" + "3b" + "04020100"},
		{plain(3, 0, 1), "03" + "020f" + "0001010100" + "0001020101" + "0001030102"},
		{plain(4, 0, 1), "04" + "0314" + "0001010100" + "0001020101" + "0001030102" + "0001040103"},
		{plain(5, 0, 1), "05" + "0314" + "0001010100" + "0001020101" + "0001030102" + "0001040103" + "0005" + "0001010104"},
		{plain(8, 10, 10), "08" + "2814" + "0a01010100" + "0901020101" + "0901030102" + "0901040103" + "2714" + "0901010104" + "0901020105" + "0901030106" + "0901040107"},
		{[]api.Posting{post(300, one), post(65535, one)}, "02" + "c0ffff" + "0d" + "812c01010100" + "c0fed2" + "01010100"},
	} {
		b, e := posting.Encode(c.l)
		if got := hex.EncodeToString(b); got != c.want || e != api.OK {
			t.Errorf("%v: %s, not %s, error %d", c.l, got, c.want, e)
		}
		if got, e := posting.Decode(unhex(c.want)); !same(got, c.l) || e != api.OK {
			t.Errorf("%s: %v, error %d", c.want, got, e)
		}
	}
}

// P19.1, P19.3
func TestBack(t *testing.T) {
	rnd := rand.New(rand.NewSource(191))
	for round := range 1000 {
		l := some(rnd, 1+round%20)
		b := encode(t, l)
		if !bytes.Equal(b, written(l)) {
			t.Fatalf("%v: %x", l, b)
		}
		got, e := posting.Decode(b)
		if e != api.OK || !same(got, l) {
			t.Fatalf("%x: %v, error %d", b, got, e)
		}
	}
	for _, many := range []int{65535, 65536} {
		l := plain(many, 0, 1)
		if got, e := posting.Decode(encode(t, l)); e != api.OK || !same(got, l) {
			t.Fatalf("%d: %d, error %d", many, len(got), e)
		}
	}
}

// four is the bytes of a run of the documents 0 to 3, without what stands ahead of them.
const four = "0001010100" + "0001020101" + "0001030102" + "0001040103"

// noBytes: bytes that are of no postings.
var noBytes = []string{
	"", "01", "0100", "010005", "010005" + "00010101",
	"0000", "0100", // something behind none, nothing in one
	"01" + "0005" + "0001010100" + "00", // one byte too long
	"01" + "0006" + "000101010000",      // so is the run
	"01" + "0004" + "00010101",
	"01" + "0000",
	"01" + "0105" + "0001010100",                // the run says that it ends with 1
	"01" + "0005" + "0101010100",                // the run says that it ends with 0
	"02" + "000a" + "0001010100" + "0001010100", // two documents, up to 0
	"01" + "0002" + "0000",                      // no spot
	"01" + "0004" + "00010100",                  // no place
	"01" + "0005" + "0001000100",                // field 0
	"01" + "0005" + "0001050100",                // field 5
	"01" + "0005" + "000101013c",                // place 60
	"01" + "0006" + "00010102003b",              // places 0 and 60
	"01" + "0008" + "0002010100010100",          // field 1 twice
	"01" + "0008" + "0002020100010100",          // fields 2 and 1
	"01" + "0011" + "0005010100020100030100040100040100",
	"01" + "c10000" + "07" + "c1000001010100",                // document 65536
	"02" + "c0ffff" + "0c" + "c0ffff01010100" + "0001010100", // another one behind the last one
	"05" + "0314" + four,
	"05" + "0319" + four + "0001010104", // a run of five
	"05" + "020f" + "0001010100" + "0001020101" + "0001030102" + "010a" + "0001040103" + "0001010104", // one of three ahead of the last one
	"05" + "0314" + four + "0005" + "0101010104",                                                      // the last run says that it ends with 4
	"05" + "0314" + four + "0405" + "0001010104",                                                      // and with 8
	"06" + "0314" + four + "0005" + "0001010104",                                                      // one too few
	"04" + "0314" + four + "0005" + "0001010104",                                                      // one too many
	"04" + "0214" + four,                   // four documents, up to 2
	"8000", "8001" + "0005" + "0001010100", // numbers in another form
	"01" + "800005" + "0001010100",
	"01" + "008005" + "0001010100",
	"01" + "0006" + "800001010100",
	"01" + "0006" + "008001010100",
	"01" + "0006" + "000180010100",
	"01" + "0006" + "000101800100",
	"01" + "0006" + "000101018000",
	"c1000100", "ffffffffffffffffff", // too many
	"01ffffffffffffffffff", "0100ffffffffffffffffff", "010009ffffffffffffffffff", "01000aff7fffffffffffffff01",
}

// P19.1
func TestDecodeErrors(t *testing.T) {
	for _, s := range noBytes {
		if l, e := posting.Decode(unhex(s)); l != nil || e != api.EFORM {
			t.Errorf("%s: %v, error %d", s, l, e)
		}
	}
	if l, e := posting.Decode(nil); l != nil || e != api.EFORM {
		t.Errorf("%v, error %d", l, e)
	}
}

// P19.1, P19.3: cut off anywhere, and with any byte turned.
func TestTurned(t *testing.T) {
	b := encode(t, []api.Posting{post(0, spot(1, 0, 3)), post(2, spot(2, 1)), post(3, spot(1, 0), spot(4, 59)), post(9, spot(3, 7)), post(300, spot(1, 5)), post(301, spot(1, 6))})
	for k := range b {
		if l, e := posting.Decode(b[:k]); l != nil || e != api.EFORM {
			t.Errorf("%x: %v, error %d", b[:k], l, e)
		}
	}
	for at := range b {
		for x := 1; x < 256; x++ {
			turned := slices.Clone(b)
			turned[at] ^= byte(x)
			l, e := posting.Decode(turned)
			if e == api.EFORM && l == nil {
				continue
			}
			if again, bad := posting.Encode(l); e != api.OK || bad != api.OK || !bytes.Equal(again, turned) {
				t.Fatalf("%x: %v, error %d", turned, l, e)
			}
		}
	}
}

// P19.3: bytes of any content.
func TestDecodeAny(t *testing.T) {
	rnd := rand.New(rand.NewSource(192))
	fine := 0
	for range 200000 {
		b := make([]byte, rnd.Intn(16))
		for i := range b {
			b[i] = byte(rnd.Intn(7))
			if rnd.Intn(9) == 0 {
				b[i] = byte(rnd.Intn(256))
			}
		}
		l, e := posting.Decode(b)
		if e == api.EFORM && l == nil {
			continue
		}
		fine++
		if again, bad := posting.Encode(l); e != api.OK || bad != api.OK || !bytes.Equal(again, b) {
			t.Fatalf("%x: %v, error %d", b, l, e)
		}
	}
	if fine == 0 {
		t.Error("none was fine")
	}
}

// P19.1: what is handed in is neither changed nor kept, and answers are in memory of their own.
func TestMemory(t *testing.T) {
	l := plain(6, 0, 3)
	was := clone(l)
	b := encode(t, l)
	if !same(l, was) {
		t.Error(l)
	}
	bytesWere := slices.Clone(b)
	first, _ := posting.Decode(b)
	second, _ := posting.Decode(b)
	spoil(first)
	if !same(second, was) || !bytes.Equal(b, bytesWere) {
		t.Error(second)
	}
	spoil(l)
	for i := range b[:cap(b)] {
		b[:cap(b)][i] = 0x77
	}
	if !same(second, was) {
		t.Error(second)
	}
	other := encode(t, was)
	spoil(was)
	if !bytes.Equal(other, bytesWere) {
		t.Errorf("%x", other)
	}
	for i := range second {
		for k := range second[i].Spots {
			// Were the room behind these lists one, it would be written to.
			_ = append(second[i].Spots, spot(77, 77))
			_ = append(second[i].Spots[k].At, 77)
		}
	}
	if !same(second, plain(6, 0, 3)) {
		t.Error(second)
	}
}
