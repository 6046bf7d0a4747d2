import unittest

from calls import CallCase, of, text_answer
from shorttextsdesk.texts import hex_of


class HexOfTest(CallCase):
    def writes(self, t, wanted):
        self.check(hex_of, (t,), text_answer(of(wanted)))

    def test_several_bytes(self):
        self.writes([97, 98, 99], "616263")
        self.writes([222, 173, 190, 239], "deadbeef")
        self.writes([1, 16, 161, 26], "0110a11a")

    def test_the_empty_text(self):
        self.check(hex_of, ([],), [0])

    def test_each_byte(self):
        for byte in range(256):
            self.writes([byte], "{:02x}".format(byte))
            self.writes([byte, 7], "{:02x}07".format(byte))

    def test_bytes_below_16(self):
        for byte in range(16):
            self.writes([byte], "0" + "0123456789abcdef"[byte])
        self.writes([0, 0], "0000")
        self.writes([9, 10, 15, 16], "090a0f10")

    def test_the_letters_are_small(self):
        self.writes([171, 205, 239], "abcdef")
        self.writes([255], "ff")

    def test_15_bytes_are_whole(self):
        self.writes(list(range(15)), "000102030405060708090a0b0c0d0e")
        self.writes([255] * 15, "f" * 30)

    def test_16_bytes_are_cut_in_the_midst_of_a_pair(self):
        self.writes(list(range(16)), "000102030405060708090a0b0c0d0e0")
        self.writes([0] * 15 + [171], "0" * 30 + "a")
        self.writes([171] * 16, "ab" * 15 + "a")

    def test_17_to_31_bytes(self):
        for long_t in range(17, 32):
            self.writes([205] * long_t, "cd" * 15 + "c")
            self.writes(list(range(240, 209, -1))[:long_t], "f0efeeedecebeae9e8e7e6e5e4e3e2e")

    def test_as_python_writes_it(self):
        for long_t in range(32):
            for begin in (0, 100, 224):
                t = list(range(begin, begin + long_t))
                self.writes(t, bytes(t).hex()[:31])


if __name__ == "__main__":
    unittest.main()
