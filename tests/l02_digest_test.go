package tests

import (
	"crypto/hmac"
	"crypto/sha256"
	"encoding/hex"
	"math"
	"strings"
	"testing"

	"loop.example/g00626/impl"
)

// sizes are those of texts and keys around the ends of blocks and of what may be handed in.
var sizes = []int{0, 1, 2, 31, 32, 54, 55, 56, 57, 63, 64, 65, 66, 119, 120, 121, 127, 128, 129, 191, 192, 1000,
	impl.MaxBytes - 65, impl.MaxBytes - 64, impl.MaxBytes - 63, impl.MaxBytes - 1, impl.MaxBytes}

func digestByOther(text string) string {
	sum := sha256.Sum256([]byte(text))
	return string(sum[:])
}

func macByOther(key string, text string) string {
	h := hmac.New(sha256.New, []byte(key))
	h.Write([]byte(text))
	return string(h.Sum(nil))
}

// macByDigests puts a mac together of digests, as the document says; key and text are short enough for these.
func macByDigests(key string, text string) string {
	if len(key) > 64 {
		key = impl.Digest(key)
	}
	key += strings.Repeat("\x00", 64-len(key))
	outer, inner := "", ""
	for i := range len(key) {
		outer += string([]byte{key[i] ^ 92})
		inner += string([]byte{key[i] ^ 54})
	}
	return impl.Digest(outer + impl.Digest(inner+text))
}

// turned is a text with some bits of one byte turned.
func turned(text string, at int, by byte) string {
	b := []byte(text)
	b[at] ^= by
	return string(b)
}

func TestKnownDigests(t *testing.T) {
	for _, c := range []struct {
		text string
		want string
	}{
		{"", "e3b0c44298fc1c149afbf4c8996fb92427ae41e4649b934ca495991b7852b855"},
		{"abc", "ba7816bf8f01cfea414140de5dae2223b00361a396177a9cb410ff61f20015ad"},
		{"abcdbcdecdefdefgefghfghighijhijkijkljklmklmnlmnomnopnopq",
			"248d6a61d20638b8e5c026930c3e6039a33ce45964ff2167f6ecedd419db06c1"},
		{strings.Repeat("a", 1), "ca978112ca1bbdcafac231b39a23dc4da786eff8147c4e72b9807785afee48bb"},
		{strings.Repeat("a", 55), "9f4390f8d30c2dd92ec9f095b65e2b9ae9b0a925a5258e241c9f1e910f734318"},
		{strings.Repeat("a", 56), "b35439a4ac6f0948b6d6f9e3c6af0f5f590ce20f1bde7090ef7970686ec6738a"},
		{strings.Repeat("a", 63), "7d3e74a05d7db15bce4ad9ec0658ea98e3f06eeecf16b4c6fff2da457ddc2f34"},
		{strings.Repeat("a", 64), "ffe054fe7ae0cb6dc65c3af9b61d5209f439851db43d0ba5997337df154668eb"},
		{strings.Repeat("a", 65), "635361c48bb9eab14198e76ea8ab7f1a41685d6ad62aa9146d301d4f17eb0ae0"},
		{strings.Repeat("a", 119), "31eba51c313a5c08226adf18d4a359cfdfd8d2e816b13f4af952f7ea6584dcfb"},
		{strings.Repeat("a", 120), "2f3d335432c70b580af0e8e1b3674a7c020d683aa5f73aaaedfdc55af904c21c"},
	} {
		if got := hex.EncodeToString([]byte(impl.Digest(c.text))); got != c.want {
			t.Errorf("Digest of %q: got %s, want %s", c.text, got, c.want)
		}
	}
}

func TestDigestOfEachSize(t *testing.T) {
	for n := range 260 {
		if text := textOf(n); impl.Digest(text) != digestByOther(text) {
			t.Errorf("Digest of %d bytes is another one", n)
		}
	}
	for _, n := range sizes {
		for _, text := range []string{textOf(n), strings.Repeat("\xff", n), strings.Repeat("\x00", n)} {
			if impl.Digest(text) != digestByOther(text) {
				t.Errorf("Digest of %d bytes is another one", n)
			}
		}
	}
}

func TestDigestOfTooMuch(t *testing.T) {
	for _, n := range []int{impl.MaxBytes + 1, impl.MaxBytes + 64, 3 * impl.MaxBytes} {
		if got := impl.Digest(textOf(n)); got != "" {
			t.Errorf("Digest of %d bytes: got %x, want nothing", n, got)
		}
	}
}

func TestKnownMacs(t *testing.T) {
	for _, c := range []struct {
		key  string
		text string
		want string
	}{
		{"", "", "b613679a0814d9ec772f95d778c35fc5ff1697c493715653c6c712144292c5ad"},
		{"Jefe", "what do ya want for nothing?", "5bdcc146bf60754e6a042426089575c75a003f089d2739839dec58b964ec3843"},
		{strings.Repeat("\x0b", 20), "Hi There", "b0344c61d8db38535ca8afceaf0bf12b881dc200c9833da726e9376c2e32cff7"},
		{strings.Repeat("\xaa", 20), strings.Repeat("\xdd", 50),
			"773ea91e36800e46854db8ebd09181a72959098b3ef8c122d9635514ced565fe"},
		{strings.Repeat("\xaa", 131), "Test Using Larger Than Block-Size Key - Hash Key First",
			"60e431591ee0b67f0d8a26aacbf5b77f8e0bc6213728c5140546040f0ee37f54"},
	} {
		if got := hex.EncodeToString([]byte(impl.Mac(c.key, c.text))); got != c.want {
			t.Errorf("Mac of %q and %q: got %s, want %s", c.key, c.text, got, c.want)
		}
	}
}

// Promise 3.
func TestMacIsMadeOfDigests(t *testing.T) {
	for _, k := range sizes {
		for _, n := range sizes {
			key, text := textOf(k), textOf(n)
			got := impl.Mac(key, text)
			if got != macByOther(key, text) {
				t.Errorf("Mac of a key of %d bytes and a text of %d is another one", k, n)
			}
			if n <= impl.MaxBytes-64 && got != macByDigests(key, text) {
				t.Errorf("Mac of a key of %d bytes and a text of %d is not what digests make of them", k, n)
			}
		}
	}
}

// A key of at most a block stands for itself, filled up with bytes 0; a longer one for its digest.
func TestKeysOfOneMac(t *testing.T) {
	if impl.Mac("key", "text") != impl.Mac("key\x00", "text") {
		t.Error("a short key is not filled up with bytes 0")
	}
	at64, at65 := textOf(64), textOf(65)
	if impl.Mac(at64, "text") == impl.Mac(impl.Digest(at64), "text") {
		t.Error("a key of 64 bytes is taken for its digest")
	}
	if impl.Mac(at65, "text") != impl.Mac(impl.Digest(at65), "text") {
		t.Error("a key of 65 bytes is not taken for its digest")
	}
}

// Promise 3, with wrong keys and texts.
func TestTurnedMacIsAnother(t *testing.T) {
	for _, n := range []int{1, 20, 63, 64, 65, 130} {
		key, text := textOf(n), textOf(2*n)
		seen := map[string]bool{impl.Mac(key, text): true}
		turns := 0
		for at := range len(key) {
			for _, by := range []byte{1, 128, 255} {
				seen[impl.Mac(turned(key, at, by), text)] = true
				turns++
			}
		}
		for at := range len(text) {
			for _, by := range []byte{1, 128, 255} {
				seen[impl.Mac(key, turned(text, at, by))] = true
				turns++
			}
		}
		if len(seen) != turns+1 {
			t.Errorf("%d keys and texts of %d bytes have only %d macs", turns+1, n, len(seen))
		}
	}
	if impl.Mac("a", "b") == impl.Mac("b", "a") || impl.Mac("ab", "c") == impl.Mac("a", "bc") {
		t.Error("key and text are mixed up")
	}
}

func TestMacOfTooMuch(t *testing.T) {
	long := textOf(impl.MaxBytes + 1)
	for _, c := range [][2]string{{long, ""}, {"", long}, {long, "text"}, {"key", long}, {long, long}} {
		if got := impl.Mac(c[0], c[1]); got != "" {
			t.Errorf("Mac of %d and %d bytes: got %x, want nothing", len(c[0]), len(c[1]), got)
		}
	}
}

func TestKnownStretched(t *testing.T) {
	for rounds, want := range map[int64]string{
		1:   "c57bd5ff92c92ccf3b3969f2d3fcbee46c7743f5e51140fe84c39721579c09a4",
		2:   "9420cd41545b1178bfe5657924ffb6d5ead0e88181f83f82c533b4abbad0e4ee",
		3:   "ef599d6f510f89ea38f167a414f592d08ea5e65f1b099aba3ce7537847fd4fb2",
		99:  "5b634dc21bb27eb9e76af3a86693df9a5050eed52fb3292a7825774b72906193",
		100: "0d22d6adf5979093114d02a6e596e4da4f99463a0a7e9a77ef9556a6a187e6f2",
	} {
		if got := hex.EncodeToString([]byte(impl.Stretch("pass", rounds))); got != want {
			t.Errorf("Stretch of %d rounds: got %s, want %s", rounds, got, want)
		}
	}
}

func TestStretchIsMacsOfMacs(t *testing.T) {
	for _, n := range []int{0, 1, 64, 65, impl.MaxBytes} {
		pass := textOf(n)
		told := "salt"
		for rounds := int64(1); rounds <= 100; rounds++ {
			told = macByOther(pass, told)
			if (rounds < 4 || rounds > 98 || n < 65) && impl.Stretch(pass, rounds) != told {
				t.Errorf("Stretch of %d bytes and %d rounds is another one", n, rounds)
			}
		}
	}
}

func TestStretchOfWrongRoundsAndTooMuch(t *testing.T) {
	for _, rounds := range []int64{0, -1, 101, 102, 1 << 32, 1<<32 + 1, math.MinInt64, math.MaxInt64} {
		for _, pass := range []string{"", "pass", textOf(impl.MaxBytes)} {
			if got := impl.Stretch(pass, rounds); got != "" {
				t.Errorf("Stretch of %d rounds: got %x, want nothing", rounds, got)
			}
		}
	}
	for _, rounds := range []int64{0, 1, 100, 101} {
		if got := impl.Stretch(textOf(impl.MaxBytes+1), rounds); got != "" {
			t.Errorf("Stretch of too long a pass, %d rounds: got %x, want nothing", rounds, got)
		}
	}
}
