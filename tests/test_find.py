import itertools
import unittest

from calls import LEAST, MOST, CallCase, of
from shorttextsdesk.texts import find


class FindTest(CallCase):
    def found(self, begin, t, p, place):
        self.check(find, (begin, of(t), of(p)), [place])

    def test_at_the_first_place(self):
        self.found(0, "abcab", "ab", 0)

    def test_at_a_later_place(self):
        self.found(0, "abcab", "ca", 2)
        self.found(1, "abcab", "ab", 3)

    def test_at_the_end(self):
        self.found(0, "abcd", "cd", 2)
        self.found(0, "abcd", "d", 3)
        self.found(3, "abcd", "d", 3)
        self.found(0, "abcd", "abcd", 0)
        self.check(find, (0, list(range(31)), [30]), [30])
        self.check(find, (0, list(range(31)), list(range(31))), [0])

    def test_nowhere(self):
        self.found(0, "abcd", "x", -1)
        self.found(0, "abcd", "ac", -1)
        self.found(0, "abcd", "de", -1)
        self.found(0, "abcd", "da", -1)
        self.found(1, "abcd", "ab", -1)
        self.found(0, "", "a", -1)

    def test_letters_differ_by_case(self):
        self.found(0, "abAB", "AB", 2)

    def test_any_bytes(self):
        self.check(find, (0, [255, 0, 128, 0, 255], [0, 255]), [3])
        self.check(find, (0, [1, 0], [0]), [1])

    def test_begin_below_0_counts_as_0(self):
        for begin in (-1, -2, -5, -100, LEAST):
            self.found(begin, "abcab", "ab", 0)
            self.found(begin, "abcab", "b", 1)
            self.found(begin, "abcab", "", 0)
            self.found(begin, "abcab", "x", -1)

    def test_begin_is_itself_a_place(self):
        self.found(3, "abcab", "ab", 3)
        self.found(4, "abcab", "ab", -1)

    def test_begin_at_and_behind_the_length(self):
        for begin in (5, 6, 31, 32, MOST):
            self.found(begin, "abcab", "b", -1)

    def test_the_empty_p(self):
        for begin in range(6):
            self.found(begin, "abcab", "", begin)
        for begin in (6, 7, 31, 32, MOST):
            self.found(begin, "abcab", "", -1)

    def test_the_empty_p_in_the_empty_and_the_longest_text(self):
        self.found(0, "", "", 0)
        self.found(1, "", "", -1)
        self.found(-1, "", "", 0)
        self.found(31, "a" * 31, "", 31)
        self.found(32, "a" * 31, "", -1)

    def test_p_longer_than_t(self):
        self.found(0, "ab", "abc", -1)
        self.found(LEAST, "ab", "abc", -1)
        self.found(0, "", "a" * 31, -1)
        self.found(0, "a" * 30, "a" * 31, -1)

    def test_places_that_overlap(self):
        self.found(0, "aaaa", "aa", 0)
        self.found(1, "aaaa", "aa", 1)
        self.found(2, "aaaa", "aa", 2)
        self.found(3, "aaaa", "aa", -1)
        self.found(1, "ababab", "abab", 2)
        self.found(0, "aaab", "aab", 1)

    def test_all_short_texts(self):
        for long_t, long_p in itertools.product(range(5), range(4)):
            for t in itertools.product((0, 1), repeat=long_t):
                for p in itertools.product((0, 1), repeat=long_p):
                    for begin in range(-1, 7):
                        wanted = bytes(t).find(bytes(p), max(begin, 0))
                        self.check(find, (begin, list(t), list(p)), [wanted])


if __name__ == "__main__":
    unittest.main()
