import itertools
import unittest

from calls import CallCase, of
from shorttextsdesk.texts import hash_of

BEGIN = 0xCBF29CE484222325
PRIME = 2 ** 40 + 2 ** 8 + 0xB3
KNOWN = {
    "": 0xCBF29CE484222325,
    "a": 0xAF63DC4C8601EC8C,
    "b": 0xAF63DF4C8601F1A5,
    "c": 0xAF63DE4C8601EFF2,
    "d": 0xAF63D94C8601E773,
    "e": 0xAF63D84C8601E5C0,
    "f": 0xAF63DB4C8601EAD9,
    "fo": 0x08985907B541D342,
    "foo": 0xDCB27518FED9D577,
    "foob": 0xDD120E790C2512AF,
    "fooba": 0xCAC165AFA2FEF40A,
    "foobar": 0x85944171F73967E8,
}


def reckoned(t):
    """FNV-1a with the lowest 64 bits kept by a mask."""
    value = BEGIN
    for byte in t:
        value = ((value ^ byte) * PRIME) & 0xFFFFFFFFFFFFFFFF
    return value


class HashOfTest(CallCase):
    def hashes(self, t, wanted):
        self.check(hash_of, (t,), [wanted])

    def test_the_empty_text(self):
        self.hashes([], 14695981039346656037)

    def test_known_answers(self):
        for text, wanted in KNOWN.items():
            self.hashes(of(text), wanted)
        self.hashes([97], 12638187200555641996)

    def test_each_single_byte(self):
        for byte in range(256):
            self.hashes([byte], (BEGIN ^ byte) * PRIME % 2 ** 64)
        self.assertEqual(len({hash_of([byte])[0] for byte in range(256)}), 256)

    def test_31_bytes_of_0(self):
        # An exclusive or with 0 changes nothing, so only the multiplications are left.
        self.hashes([0] * 31, BEGIN * pow(PRIME, 31, 2 ** 64) % 2 ** 64)
        self.hashes([0] * 31, 4781551176024526663)

    def test_31_bytes_of_255(self):
        self.hashes([255] * 31, reckoned([255] * 31))
        self.hashes([255] * 31, 13152389985203383576)

    def test_the_order_and_the_number_of_bytes_count(self):
        texts = ([], [0], [0, 0], [1, 2], [2, 1], [1], [2], [0, 1], [1, 0])
        self.assertEqual(len({hash_of(t)[0] for t in texts}), len(texts))

    def test_each_length(self):
        for long_t in range(32):
            for begin in (0, 97, 225):
                t = list(range(begin, begin + long_t))
                self.hashes(t, reckoned(t))

    def test_from_0_to_the_greatest_of_64_bits(self):
        answers = [hash_of(list(t))[0] for t in itertools.product((0, 1, 128, 255), repeat=6)]
        self.assertGreaterEqual(min(answers), 0)
        self.assertLessEqual(max(answers), 2 ** 64 - 1)
        # Some lie beyond the greatest long: they are not turned into numbers below 0.
        self.assertGreater(max(answers), 2 ** 63 - 1)

    def test_all_short_texts(self):
        for long_t in range(5):
            for t in itertools.product((0, 1, 127, 128, 255), repeat=long_t):
                self.assertEqual(hash_of(list(t)), [reckoned(t)], t)


if __name__ == "__main__":
    unittest.main()
