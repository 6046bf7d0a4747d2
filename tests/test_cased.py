import itertools
import unittest

from calls import LEAST, MOST, CallCase, of, text_answer
from shorttextsdesk.texts import cased

OTHER_HOWS = (-1, -2, 4, 5, 7, 256, LEAST, LEAST + 1, LEAST + 2, LEAST + 3, MOST)
EDGES = [64, 65, 90, 91, 96, 97, 122, 123, 127, 128, 192, 193, 218, 224, 225, 250, 255]


class CasedTest(CallCase):
    def changed(self, how, t, wanted):
        self.check(cased, (how, of(t)), text_answer(of(wanted)))

    def test_small(self):
        self.changed(0, "Ab cD-EF9z", "ab cd-ef9z")

    def test_capitals(self):
        self.changed(1, "Ab cD-EF9z", "AB CD-EF9Z")

    def test_each_letter_the_other(self):
        self.changed(2, "Ab cD-EF9z", "aB Cd-ef9Z")

    def test_words(self):
        self.changed(3, "hello wORLD", "Hello World")

    def test_words_a_letter_at_the_front(self):
        self.changed(3, "a", "A")
        self.changed(3, "A", "A")
        self.changed(3, "z", "Z")
        self.changed(3, " a", " A")

    def test_words_behind_a_letter(self):
        self.changed(3, "aa", "Aa")
        self.changed(3, "AA", "Aa")
        self.changed(3, "ABCabc", "Abcabc")
        self.changed(3, "zZaA", "Zzaa")

    def test_words_behind_a_byte_that_is_no_letter(self):
        for byte in list(range(65)) + list(range(91, 97)) + list(range(123, 256)):
            self.check(cased, (3, [120, byte, 120, 120]), [4, 88, byte, 88, 120])
            self.check(cased, (3, [byte, 88, 88]), [3, byte, 88, 120])

    def test_words_behind_every_letter(self):
        for byte in list(range(65, 91)) + list(range(97, 123)):
            large = byte if byte <= 90 else byte - 32
            self.check(cased, (3, [byte, 88, 120]), [3, large, 120, 120])

    def test_words_after_several_that_are_no_letters(self):
        self.changed(3, "a  b", "A  B")
        self.changed(3, "--ab..9cD--", "--Ab..9Cd--")
        self.changed(3, "it's 3rd o'CLOCK", "It'S 3Rd O'Clock")

    def test_another_how(self):
        for how in OTHER_HOWS:
            self.changed(how, "Ab cD-EF9z", "Ab cD-EF9z")
            self.check(cased, (how, EDGES), text_answer(EDGES))
            self.changed(how, "", "")

    def test_the_bytes_round_the_letters(self):
        rest = EDGES[8:]
        self.check(cased, (0, EDGES), text_answer([64, 97, 122, 91, 96, 97, 122, 123] + rest))
        self.check(cased, (1, EDGES), text_answer([64, 65, 90, 91, 96, 65, 90, 123] + rest))
        self.check(cased, (2, EDGES), text_answer([64, 97, 122, 91, 96, 65, 90, 123] + rest))
        self.check(cased, (3, EDGES), text_answer([64, 65, 122, 91, 96, 65, 122, 123] + rest))

    def test_all_bytes(self):
        for byte in range(256):
            one = bytes([byte])
            self.check(cased, (0, [byte]), text_answer(list(one.lower())))
            self.check(cased, (1, [byte]), text_answer(list(one.upper())))
            self.check(cased, (2, [byte]), text_answer(list(one.swapcase())))
            self.check(cased, (3, [byte]), text_answer(list(one.upper())))
            self.check(cased, (4, [byte]), [1, byte])

    def test_the_empty_text(self):
        for how in range(4):
            self.changed(how, "", "")

    def test_the_longest_text(self):
        self.changed(0, "A" * 31, "a" * 31)
        self.changed(1, "a" * 31, "A" * 31)
        self.changed(2, "aA" * 15 + "a", "Aa" * 15 + "A")
        self.changed(3, "a" * 31, "A" + "a" * 30)

    def test_all_short_texts(self):
        for long_t in range(6):
            for t in itertools.product(b"aB-", repeat=long_t):
                wanted = (bytes(t).lower(), bytes(t).upper(), bytes(t).swapcase(), bytes(t).title())
                for how in range(4):
                    self.check(cased, (how, list(t)), text_answer(list(wanted[how])))


if __name__ == "__main__":
    unittest.main()
