import itertools
import re
import unittest

from calls import CallCase, of, text_answer
from shorttextsdesk.texts import hex_of, unhex

BESIDE_THE_DIGITS = (47, 58, 64, 71, 96, 103)


class UnhexTest(CallCase):
    def reads(self, t, wanted):
        self.check(unhex, (of(t),), text_answer(wanted))

    def empty(self, t):
        self.check(unhex, (t,), [0])

    def test_several_pairs(self):
        self.reads("616263", [97, 98, 99])
        self.reads("deadbeef", [222, 173, 190, 239])
        self.reads("0110a11a", [1, 16, 161, 26])

    def test_the_empty_text(self):
        self.empty([])

    def test_each_byte(self):
        for byte in range(256):
            self.reads("{:02x}".format(byte), [byte])
            self.reads("{:02X}".format(byte), [byte])
            self.reads("7f{:02x}".format(byte), [127, byte])

    def test_0_and_255(self):
        self.reads("00", [0])
        self.reads("ff", [255])
        self.reads("FF", [255])
        self.reads("00ff00", [0, 255, 0])
        self.reads("0" * 30, [0] * 15)
        self.reads("f" * 30, [255] * 15)

    def test_small_capital_and_mixed(self):
        self.reads("abcdef", [171, 205, 239])
        self.reads("ABCDEF", [171, 205, 239])
        self.reads("aBcDeF", [171, 205, 239])
        self.reads("AbCdEf", [171, 205, 239])
        self.reads("a0B1", [160, 177])
        self.reads("0A1b", [10, 27])

    def test_an_odd_number_of_bytes(self):
        for long_t in range(1, 32, 2):
            self.empty(of("a" * long_t))
            self.empty(of("0" * long_t))

    def test_30_and_31_bytes(self):
        self.reads("000102030405060708090a0b0c0d0e", list(range(15)))
        self.reads("ab" * 15, [171] * 15)
        self.empty(of("ab" * 15 + "a"))
        self.empty(of("000102030405060708090a0b0c0d0e0"))

    def test_bytes_beside_the_digits(self):
        for byte in BESIDE_THE_DIGITS:
            for before, behind in ((0, 0), (0, 4), (4, 0), (2, 2), (0, 28), (28, 0)):
                self.empty([49] * before + [byte, 49] + [49] * behind)
                self.empty([49] * before + [49, byte] + [49] * behind)
            self.empty([byte])
            self.empty([byte, byte])
            self.empty([byte] * 30)

    def test_each_byte_in_each_place_of_a_pair(self):
        for first, second in itertools.product(range(256), repeat=2):
            good = re.fullmatch(b"[0-9a-fA-F]{2}", bytes([first, second]))
            wanted = [1, int(bytes([first, second]), 16)] if good else [0]
            self.assertEqual(unhex([first, second]), wanted, (first, second))

    def test_other_forms_are_no_pairs(self):
        for t in ("61 62", " 61 ", "61\n6", "0x61", "6g", "zz", "+1", "-1", "1_", "\0\0", "\xff\xff", "616Z", "\\x"):
            self.empty(of(t))

    def test_what_hex_of_gives_comes_back(self):
        for long_t in range(16):
            for begin in (0, 1, 100, 241):
                t = list(range(begin, begin + long_t))
                self.check(unhex, (hex_of(t)[1:],), text_answer(t))
        # From 16 bytes on the digits are cut in the midst of a pair.
        for long_t in range(16, 32):
            self.empty(hex_of([171] * long_t)[1:])

    def test_all_short_texts(self):
        for long_t in range(5):
            for t in itertools.product(b"09afAF g", repeat=long_t):
                good = re.fullmatch(b"([0-9a-fA-F]{2})*", bytes(t))
                wanted = text_answer(list(bytes.fromhex(bytes(t).decode()))) if good else [0]
                self.assertEqual(unhex(list(t)), wanted, t)


if __name__ == "__main__":
    unittest.main()
