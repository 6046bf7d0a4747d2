import itertools
import unittest

from calls import CallCase, of
from shorttextsdesk.texts import mask


class MaskTest(CallCase):
    def masked(self, t, some, wanted):
        self.check(mask, (of(t), of(some)), [wanted])

    def test_each_place_has_its_own_bit(self):
        self.masked("abcd", "a", 1)
        self.masked("abcd", "b", 2)
        self.masked("abcd", "c", 4)
        self.masked("abcd", "d", 8)
        for place in range(31):
            self.check(mask, (list(range(31)), [place]), [2 ** place])

    def test_several_in_the_set(self):
        self.masked("abcd", "ad", 9)
        self.masked("abcd", "da", 9)
        self.masked("abcd", "abcd", 15)
        self.masked("abcd", "bx", 2)

    def test_none_in_the_set(self):
        self.masked("abcd", "xyz", 0)
        self.masked("abcd", "ABCD", 0)

    def test_the_empty_text_and_the_empty_set(self):
        self.masked("", "abc", 0)
        self.masked("abc", "", 0)
        self.masked("", "", 0)
        self.masked("a" * 31, "", 0)

    def test_31_bytes_all_in_the_set(self):
        self.masked("a" * 31, "a", 2147483647)
        self.check(mask, (list(range(31)), list(range(31))), [2147483647])

    def test_the_last_byte_alone(self):
        self.masked("a" * 30 + "b", "b", 1073741824)
        self.masked("a" * 30 + "b", "a", 1073741823)

    def test_a_byte_at_several_places(self):
        self.masked("banana", "a", 42)
        self.masked("banana", "n", 20)
        self.masked("banana", "b", 1)
        self.masked("aaaa", "a", 15)

    def test_a_byte_several_times_in_the_set(self):
        self.masked("abc", "bb", 2)
        self.masked("aba", "aaa", 5)

    def test_any_bytes(self):
        self.check(mask, ([0, 255, 128, 0], [0]), [9])
        self.check(mask, ([0, 255, 128, 0], [128, 255]), [6])

    def test_all_short_texts(self):
        for long_t, long_some in itertools.product(range(5), range(4)):
            for t in itertools.product((0, 1, 2), repeat=long_t):
                for some in itertools.product((0, 1, 2), repeat=long_some):
                    bits = "".join("1" if byte in some else "0" for byte in t)
                    self.check(mask, (list(t), list(some)), [int("0" + bits[::-1], 2)])


if __name__ == "__main__":
    unittest.main()
