import itertools
import unittest

from calls import LEAST, MOST, CallCase, of, text_answer
from shorttextsdesk.texts import only

OTHER_HOWS = (1, -1, 2, -2, 3, 4, 256, LEAST, MOST)


class OnlyTest(CallCase):
    def parted(self, t, some, within, without):
        """How 0 answers the bytes within the set, each other how those without."""
        self.check(only, (0, of(t), of(some)), text_answer(of(within)))
        for how in OTHER_HOWS:
            self.check(only, (how, of(t), of(some)), text_answer(of(without)))

    def test_some_in_the_set(self):
        self.parted("abcd", "bd", "bd", "ac")
        self.parted("abcd", "ax", "a", "bcd")

    def test_none_and_all_in_the_set(self):
        self.parted("abcd", "xyz", "", "abcd")
        self.parted("abcd", "abcd", "abcd", "")

    def test_the_empty_set(self):
        self.parted("abcd", "", "", "abcd")
        self.parted("a" * 31, "", "", "a" * 31)

    def test_the_empty_text(self):
        self.parted("", "abc", "", "")
        self.parted("", "", "", "")

    def test_bytes_that_come_more_than_once_in_the_text(self):
        self.parted("banana", "a", "aaa", "bnn")
        self.parted("banana", "n", "nn", "baaa")

    def test_bytes_that_come_more_than_once_in_the_set(self):
        self.parted("abc", "aa", "a", "bc")
        self.parted("banana", "anna", "anana", "b")

    def test_the_order_stays(self):
        self.parted("dcabdc", "abcd", "dcabdc", "")
        self.parted("dcabdc", "ad", "dad", "cbc")

    def test_in_the_midst_and_at_the_ends(self):
        self.parted("-a-b-", "-", "---", "ab")

    def test_letters_differ_by_case(self):
        self.parted("aAbB", "ab", "ab", "AB")

    def test_the_longest_text(self):
        full = list(range(31))
        self.check(only, (0, full, full), text_answer(full))
        self.check(only, (1, full, full), [0])
        self.check(only, (0, full, [30]), [1, 30])
        self.check(only, (1, full, [30]), text_answer(full[:30]))
        self.check(only, (1, full, [200]), text_answer(full))

    def test_all_bytes(self):
        for byte in range(256):
            other = 255 - byte
            self.check(only, (0, [byte, other, byte], [byte]), [2, byte, byte])
            self.check(only, (1, [byte, other, byte], [byte]), [1, other])

    def test_all_short_texts(self):
        for long_t, long_some in itertools.product(range(5), range(4)):
            for t in itertools.product((0, 1, 2), repeat=long_t):
                for some in itertools.product((0, 1, 2), repeat=long_some):
                    within = [byte for byte in t if some.count(byte) > 0]
                    without = [byte for byte in t if some.count(byte) == 0]
                    self.check(only, (0, list(t), list(some)), text_answer(within))
                    self.check(only, (1, list(t), list(some)), text_answer(without))


if __name__ == "__main__":
    unittest.main()
