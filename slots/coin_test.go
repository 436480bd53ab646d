package slots_test

import (
	"bytes"
	"math"
	"testing"

	"amnesty/slots"
)

// upTo returns the bytes from 0 to n - 1.
func upTo(n int) []byte {
	b := make([]byte, n)
	for i := range b {
		b[i] = byte(i)
	}
	return b
}

// TestP1_1Coins: the expected coins were worked out apart from this program, with whole numbers modulo 2^64.
func TestP1_1Coins(t *testing.T) {
	for _, x := range []struct {
		seed uint64
		tag  int
		b    []byte
		want uint64
	}{
		{0, -1, nil, 0},
		{0, 0, nil, 0xE220A8397B1DCDAF},
		{0, 1, []byte{}, 0x6E789E6AA1B965F4},
		{0, 2, nil, 0x06C45D188009454F},
		{1, 1, []byte("a"), 0x88B57A4BCC6E9B23},
		{1, 2, []byte("a"), 0x8596ACE7AB6F40C2},
		{2, 1, []byte("a"), 0x94C3DB627DC80DBE},
		{1, 1, []byte("a\x00"), 0x3C1AD90C85B181EE},
		{1, 1, []byte("\x00"), 0x54CD9BD90D19213C},
		{1, 1, []byte("ab"), 0x116B16397731FC43},
		{1, 1, []byte("ba"), 0xA4E065D8A4C45DC0},
		{5, -1, nil, 0xB6BF613DBEBB45DC},
		{5, -2, []byte("xyz"), 0x1C7C5883E1073850},
		{0, math.MaxInt, []byte("q"), 0x7768729D9066FB76},
		{0, math.MinInt, []byte("q"), 0xCD916C447BA04865},
		{math.MaxUint64, 7, upTo(256), 0x4CA1A0739B6FD160},
		{0x0123456789ABCDEF, 4, bytes.Repeat([]byte{0xFF}, 1000), 0x5123B4D5F2792344},
	} {
		if c := slots.Coin(x.seed, x.tag, x.b); c != x.want {
			t.Errorf("Coin(%#x, %d, %d bytes): %#x, expected %#x", x.seed, x.tag, len(x.b), c, x.want)
		}
	}
}

func TestP1_1CoinLeavesItsBytesAlone(t *testing.T) {
	b := upTo(100)
	one := slots.Coin(3, 4, b)
	if !bytes.Equal(b, upTo(100)) {
		t.Errorf("Coin changed its argument")
	}
	if other := slots.Coin(3, 4, b); other != one {
		t.Errorf("two coins of the same bytes: %#x and %#x", one, other)
	}
}
