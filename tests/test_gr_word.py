"""Promise 1, as far as it speaks of gr_word."""

import unittest

from singlechange.changerows import gr_word
from tests.rows import (
    LARGEST_NUMBER, LARGEST_PLACE, SMALLEST_NUMBER,
    is_list_of_whole_numbers, row_of_words, spread_places, word_in_long_row,
)

WRONG_N = (0, 64, 65, -1, -63, SMALLEST_NUMBER, SMALLEST_NUMBER + 1, LARGEST_NUMBER)


class WordsAtPlaces(unittest.TestCase):
    def test_row_written_out(self):
        words = [gr_word(3, i) for i in range(8)]
        self.assertEqual(words, [[0, 0], [0, 1], [0, 3], [0, 2], [0, 6], [0, 7], [0, 5], [0, 4]])

    def test_every_place_of_short_rows(self):
        for n in range(1, 13):
            row = row_of_words(n)
            self.assertEqual(len(row), 2 ** n)
            for i, word in enumerate(row):
                self.assertEqual(gr_word(n, i), [0, word], (n, i))

    def test_spread_places_of_every_row(self):
        for n in range(1, 64):
            for i in spread_places(2 ** n):
                self.assertEqual(gr_word(n, i), [0, word_in_long_row(n, i)], (n, i))

    def test_one_bit_changes_in_the_longest_row(self):
        for i in spread_places(2 ** 63 - 1):
            change = gr_word(63, i)[1] ^ gr_word(63, i + 1)[1]
            self.assertEqual(bin(change).count("1"), 1, i)


class WordEdges(unittest.TestCase):
    def test_one_bit(self):
        self.assertEqual(gr_word(1, 0), [0, 0])
        self.assertEqual(gr_word(1, 1), [0, 1])
        self.assertEqual(gr_word(1, 2), [-3])
        self.assertEqual(gr_word(1, LARGEST_PLACE), [-3])

    def test_sixty_three_bits(self):
        self.assertEqual(gr_word(63, 0), [0, 0])
        self.assertEqual(gr_word(63, 1), [0, 1])
        self.assertEqual(gr_word(63, 9223372036854775807), [0, 4611686018427387904])
        self.assertEqual(gr_word(63, 9223372036854775808), [-3])
        self.assertEqual(gr_word(63, LARGEST_PLACE), [-3])

    def test_both_ends_of_every_row(self):
        for n in range(1, 64):
            self.assertEqual(gr_word(n, 0), [0, 0], n)
            self.assertEqual(gr_word(n, 2 ** n - 1), [0, 2 ** (n - 1)], n)
            self.assertEqual(gr_word(n, 2 ** n), [-3], n)
            self.assertEqual(gr_word(n, 2 ** n + 1), [-3], n)
            self.assertEqual(gr_word(n, 2 ** 63), [-3], n)
            self.assertEqual(gr_word(n, LARGEST_PLACE), [-3], n)


class WordRefusals(unittest.TestCase):
    def test_n_out_of_range(self):
        for n in WRONG_N:
            self.assertEqual(gr_word(n, 0), [-2], n)
            self.assertEqual(gr_word(n, 1), [-2], n)

    def test_n_is_refused_before_the_place(self):
        for n in WRONG_N:
            self.assertEqual(gr_word(n, LARGEST_PLACE), [-2], n)
            self.assertEqual(gr_word(n, 2 ** 63), [-2], n)


class WordAnswers(unittest.TestCase):
    def test_whole_numbers_in_a_list(self):
        for n, i, length in ((1, 0, 2), (1, 1, 2), (63, 2 ** 63 - 1, 2), (63, 2 ** 63, 1), (0, 0, 1)):
            answer = gr_word(n, i)
            self.assertTrue(is_list_of_whole_numbers(answer), (n, i))
            self.assertEqual(len(answer), length, (n, i))

    def test_same_call_twice(self):
        for n, i in ((5, 17), (63, 2 ** 63 - 1), (5, 32), (64, 0)):
            first = gr_word(n, i)
            kept = list(first)
            first.append(99)
            first[0] = 98
            self.assertEqual(gr_word(n, i), kept, (n, i))

    def test_arguments_by_name(self):
        self.assertEqual(gr_word(n=4, i=9), [0, 13])


if __name__ == "__main__":
    unittest.main()
